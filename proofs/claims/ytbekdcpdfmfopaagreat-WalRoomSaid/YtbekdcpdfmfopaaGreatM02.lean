/- A slice of Step among a law's arguments, opened: what its walk asks of it. (Printed by mkopen.py.) Contract: whether steps are too heavy for the laws of layer 12: it answers, whatever they are. Plain: rows of bits over a polynomial: half a step, bytes, many bytes 0; products of polynomials. No function of the program is named here. -/
import Derived.Test.YtbekdcpdfmfopaaGreatM01
import Derived.Deep.Slices
import Derived.Deep.Fields
import Derived.ChangeArms
import Derived.Lib.SmallJoins
import Derived.Outline
import Derived.Test.YtbekdcpdfmfopaaGreatM00
section
namespace Go.Proofs.YtbekdcpdfmfopaaGreat
open Go.ChangeShapes Go.WideShapes Go.ChangeAt Go.RowKit
structure Stp12 where
  Do : Nat
  n : Int
  m : Int
  l : List ByteArray
  s : ByteArray
  f : Int
  by_ : Nat
def Stp12.cells (x : Stp12) (v_l : Value) : List Value := [.int .u8 (x.Do : Int), .int .i64 x.n, .int .i64 x.m, v_l, .string x.s, .int .i64 x.f, .int .u8 (x.by_ : Int)]
structure Stp12.Ok (x : Stp12) : Prop where
  Do : x.Do < 256
  n : -9223372036854775808 ≤ x.n ∧ x.n ≤ 9223372036854775807
  m : -9223372036854775808 ≤ x.m ∧ x.m ≤ 9223372036854775807
  l : x.l.length ≤ 140737488355328 ∧ ∀ s, s ∈ x.l → s.size ≤ 140737488351232
  s : x.s.size ≤ 140737488351232
  f : -9223372036854775808 ≤ x.f ∧ x.f ≤ 9223372036854775807
  by_ : x.by_ < 256
/-- The cells from the address on, if there are any, are these. -/
def Stp12sP (w : World) (p : Option Addr) (L : List Stp12) : Prop := ∀ (k : Nat) (x : Stp12), L[k]? = some x → ∃ a q_l c_l, p = some a ∧ a.block < w.heap.size ∧ TextsP w q_l x.l ∧ ∀ (j : Nat) (v : Value), (x.cells (.slice q_l x.l.length c_l))[j]? = some v → w.cell? (a.add (k * 7 + j)) = some v
theorem Stp12sP.ext {w w' : World} {p : Option Addr} {L : List Stp12} (h : Stp12sP w p L) (hx : Ext w w') : Stp12sP w' p L := fun k x hk => by
  obtain ⟨a, q_l, c_l, h1, h2, t_l, h4⟩ := h k x hk
  exact ⟨a, q_l, c_l, h1, Nat.lt_of_lt_of_le h2 hx.size, t_l.ext hx, fun j v hv => by rw [hx.below.cell (p := a.add (k * 7 + j)) (by rw [add_block]; omega)]; exact h4 j v hv⟩
theorem stp12_at {w : World} {a : Addr} {j k : Nat} {v : Option Value} (h : w.cell? (a.add (j * 7 + (k + 1))) = v) : w.cell? ⟨(a.add (j * 7)).block, (a.add (j * 7)).off + (k + 1), none⟩ = v := by
  rw [← Deep.add_add] at h
  exact h
theorem cells_stp12 : Tryz.prog.cellsOf 35 = 7 := by kernel_rfl
theorem bytes_stp12 : Tryz.prog.bytesOf 35 = 80 := by kernel_rfl
section
variable {H : Type} {enc : TypeId × Value → H} {W : World} {base : Nat} {v : Value} {d : DataW H} {p : List MemPlace}
def stp12Ts : List TypeId := [5, 3, 3, 33, 9, 3, 5]
theorem stp12_list {cs : List Value} {v0 v1 v2 v3 v4 v5 v6 : Value} (hl : cs.length = 7) (e0 : cs[0]? = some v0) (e1 : cs[1]? = some v1) (e2 : cs[2]? = some v2) (e3 : cs[3]? = some v3) (e4 : cs[4]? = some v4) (e5 : cs[5]? = some v5) (e6 : cs[6]? = some v6) : cs = [v0, v1, v2, v3, v4, v5, v6] := by
  apply List.ext_getElem?
  intro i
  rcases (show i = 0 ∨ i = 1 ∨ i = 2 ∨ i = 3 ∨ i = 4 ∨ i = 5 ∨ i = 6 ∨ 7 ≤ i by omega) with rfl | rfl | rfl | rfl | rfl | rfl | rfl | h
  · exact e0
  · exact e1
  · exact e2
  · exact e3
  · exact e4
  · exact e5
  · exact e6
  · rw [List.getElem?_eq_none (by omega), List.getElem?_eq_none (by simpa using h)]
theorem open_stp12_cells {fuel : Nat} {cs : List Value} (htr : DataW.trod enc Tryz.prog W 0 (fun _ => true) true fuel 35 cs = some (d, p)) (hlt : ∀ x ∈ p, x.block < W.heap.size) (hw : ∀ w ∈ d.weights Tryz.prog 35, w ≤ reachBytes) :
    ∃ (q_l : Option Addr) (c_l : Nat) (x : Stp12), cs = x.cells (.slice q_l x.l.length c_l) ∧ TextsP W q_l x.l ∧ x.Ok := by
  obtain ⟨xs, n', _, hD, hcl, hlen, hfl⟩ := DataW.trod_struct Tryz.underlying35 htr
  have hlenN : xs.length = 7 := hlen
  simp only [Prod.mk.injEq] at hD
  obtain ⟨rfl, rfl⟩ := hD
  rw [cells_stp12] at hcl
  have g0 : DataW.trod enc Tryz.prog W 0 (fun _ => true) true n' 5 ((cs.drop 0).take (Tryz.prog.cellsOf 5)) = xs[0]? := hfl 0 _ rfl
  rw [show Tryz.prog.cellsOf 5 = 1 from by kernel_rfl] at g0
  have g1 : DataW.trod enc Tryz.prog W 0 (fun _ => true) true n' 3 ((cs.drop 1).take (Tryz.prog.cellsOf 3)) = xs[1]? := hfl 1 _ rfl
  rw [show Tryz.prog.cellsOf 3 = 1 from by kernel_rfl] at g1
  have g2 : DataW.trod enc Tryz.prog W 0 (fun _ => true) true n' 3 ((cs.drop 2).take (Tryz.prog.cellsOf 3)) = xs[2]? := hfl 2 _ rfl
  rw [show Tryz.prog.cellsOf 3 = 1 from by kernel_rfl] at g2
  have g3 : DataW.trod enc Tryz.prog W 0 (fun _ => true) true n' 33 ((cs.drop 3).take (Tryz.prog.cellsOf 33)) = xs[3]? := hfl 3 _ rfl
  rw [show Tryz.prog.cellsOf 33 = 1 from by kernel_rfl] at g3
  have g4 : DataW.trod enc Tryz.prog W 0 (fun _ => true) true n' 9 ((cs.drop 4).take (Tryz.prog.cellsOf 9)) = xs[4]? := hfl 4 _ rfl
  rw [show Tryz.prog.cellsOf 9 = 1 from by kernel_rfl] at g4
  have g5 : DataW.trod enc Tryz.prog W 0 (fun _ => true) true n' 3 ((cs.drop 5).take (Tryz.prog.cellsOf 3)) = xs[5]? := hfl 5 _ rfl
  rw [show Tryz.prog.cellsOf 3 = 1 from by kernel_rfl] at g5
  have g6 : DataW.trod enc Tryz.prog W 0 (fun _ => true) true n' 5 ((cs.drop 6).take (Tryz.prog.cellsOf 5)) = xs[6]? := hfl 6 _ rfl
  rw [show Tryz.prog.cellsOf 5 = 1 from by kernel_rfl] at g6
  have hwe : ∀ w ∈ DataW.weightsEach Tryz.prog stp12Ts (xs.map (·.1)), w ≤ reachBytes := fun w hw1 => hw w (by
    simp only [DataW.weights, Tryz.underlying35]
    exact hw1)
  have hwb : (DataW.weightsEach Tryz.prog stp12Ts (xs.map (·.1))).all (· ≤ reachBytes) = true := List.all_eq_true.2 (fun w hw1 => by simpa using hwe w hw1)
  obtain ⟨d0, e0, w0⟩ := field_at (k := .u8) (by omega) Tryz.underlying5 g0
  obtain ⟨d1, e1, w1⟩ := field_at (k := .i64) (by omega) Tryz.underlying3 g1
  obtain ⟨d2, e2, w2⟩ := field_at (k := .i64) (by omega) Tryz.underlying3 g2
  obtain ⟨y3, hy3⟩ : ∃ y, xs[3]? = some y := ⟨_, List.getElem?_eq_getElem (by omega)⟩
  rw [hy3] at g3
  obtain ⟨a3, l3, c3, hc3⟩ := Go.Joins.slice_form Tryz.underlying33 g3
  have e3 := one_at hc3
  rw [hc3] at g3
  obtain ⟨q3, z3, m3, hv3, ht3, hz3, _⟩ := open_texts_f g3 (fun x hx => hlt x (List.mem_flatMap.2 ⟨y3, List.mem_of_getElem? hy3, hx⟩)) hwb (j := 3) rfl (by rw [List.getElem?_map, hy3]; rfl)
  obtain ⟨s4, e4, x4⟩ := field_str (by omega) Tryz.underlying9 g4
  have hs4 := hwe s4.data.toList.length (DataW.weights_mem_each (P := Tryz.prog) (j := 4) (t := 9) rfl x4 _ (by simp [DataW.weights]))
  simp only [reachBytes, size_list] at hs4
  obtain ⟨d5, e5, w5⟩ := field_at (k := .i64) (by omega) Tryz.underlying3 g5
  obtain ⟨d6, e6, w6⟩ := field_at (k := .u8) (by omega) Tryz.underlying5 g6
  simp [Lit.wf, IntKind.min, IntKind.max, IntKind.signed, IntKind.bits] at w0 w1 w2 w5 w6
  have n0 : ((d0.toNat : Nat) : Int) = d0 := Int.toNat_of_nonneg (by omega)
  have n6 : ((d6.toNat : Nat) : Int) = d6 := Int.toNat_of_nonneg (by omega)
  refine ⟨q3, z3, ⟨d0.toNat, d1, d2, m3, s4, d5, d6.toNat⟩, ?_, ht3, ⟨by show d0.toNat < _; omega, by show _ ∧ _; omega, by show _ ∧ _; omega, hz3, by show s4.size ≤ _; omega, by show _ ∧ _; omega, by show d6.toNat < _; omega⟩⟩
  unfold Stp12.cells
  dsimp only
  rw [n0, ← hv3, n6]
  exact stp12_list hcl e0 e1 e2 e3 e4 e5 e6
set_option maxRecDepth 100000 in
theorem open_stp12s_p (hval : Value.okWide Tryz.prog W .any base 22 v) (h : DataW.Trod enc Tryz.prog W 0 (fun _ => true) true 22 v d p) (hlt : ∀ x ∈ p, x.block < W.heap.size)
    {ts : List TypeId} {ds : List (DataW H)} {j : Nat} (hsz : (DataW.weightsEach Tryz.prog ts ds).all (· ≤ reachBytes) = true) (ht : ts[j]? = some 22) (hd : ds[j]? = some d) :
    ∃ (pa : Option Addr) (c : Nat) (L : List Stp12), v = .slice pa L.length c ∧ Stp12sP W pa L ∧ (∀ x, x ∈ L → x.Ok) ∧ L.length ≤ 140737488355328 := by
  obtain ⟨a0, len, cap, rfl⟩ := okWide_slice Tryz.underlying22 hval
  obtain ⟨fuel, hf⟩ := h
  rcases Deep.open_slice Tryz.underlying22 hf with ⟨hcs, hx⟩ | ⟨a, len', cap', m, n, D, Pl, hcs, _, hl, hm, hmm, hx, hi⟩
  · simp [Value.cells] at hcs
    obtain ⟨rfl, rfl, rfl⟩ := hcs
    exact ⟨none, 0, [], rfl, fun k x hk => by simp at hk, fun x hx => by simp at hx, by simp⟩
  · simp [Value.cells] at hcs
    obtain ⟨rfl, rfl, rfl⟩ := hcs
    simp only [Prod.mk.injEq] at hx
    obtain ⟨rfl, rfl⟩ := hx
    simp only [if_true] at hmm
    subst hmm
    have hr := sized_slice hsz ht hd Tryz.underlying22
    rw [bytes_stp12] at hr
    simp only [List.length_map, List.length_range, reachBytes] at hr
    obtain ⟨L, hL, hP⟩ := list_of_all (α := Stp12) (P := fun k x => x.Ok ∧ a.block < W.heap.size ∧ ∃ q_l c_l, TextsP W q_l x.l ∧ ∀ (i : Nat) (u : Value), (x.cells (.slice q_l x.l.length c_l))[i]? = some u → W.cell? (a.add (k * 7 + i)) = some u) len (fun k hk => by
      obtain ⟨cs', hc, htr⟩ := hi k (by omega)
      rw [cells_stp12] at hc
      obtain ⟨_, hcl, hat⟩ := World.cells?_some hc
      obtain ⟨q_l, c_l, x, rfl, t_l, h2⟩ := open_stp12_cells htr (fun y hy => hlt y (List.mem_append_right _ (List.mem_flatMap.2 ⟨k, List.mem_range.2 (by omega), hy⟩))) (fun w hw => by
        have hw2 := DataW.weights_mem_each (P := Tryz.prog) ht hd w (by
          simp only [DataW.weights, Tryz.underlying22, List.mem_cons, List.mem_append]
          exact .inr (.inl (weightsAll_mem (x := D k) (List.mem_map.2 ⟨k, List.mem_range.2 hk, rfl⟩) hw)))
        have := List.all_eq_true.1 hsz _ hw2
        simpa using this)
      refine ⟨x, h2, hlt (.cell a.block (a.off + k * 7)) (List.mem_append_left _ (MemPlace.mem_row.2 ⟨k * 7, by rw [cells_stp12]; omega, rfl⟩)), q_l, c_l, t_l, fun i u hu => ?_⟩
      have hiN : i < 7 := (List.getElem?_eq_some_iff.1 hu).1
      have := hat i hiN
      rw [Deep.add_add] at this
      rw [this]
      exact hu)
    refine ⟨some a, m, L, by rw [hL], fun k x hk => ?_, fun x hx => ?_, by rw [hL]; omega⟩
    · obtain ⟨_, h2, q_l, c_l, t_l, h4⟩ := hP k x hk
      exact ⟨a, q_l, c_l, rfl, h2, t_l, h4⟩
    · obtain ⟨k, hk⟩ := List.getElem?_of_mem hx
      exact (hP k x hk).1
end
end Go.Proofs.YtbekdcpdfmfopaaGreat
end

section
namespace Go.Proofs.YtbekdcpdfmfopaaGreat
open Go.RowKit

set_option maxRecDepth 100000 in
set_option maxHeartbeats 4000000 in
theorem wheavy_any (w : World) (p : Option Addr) (c : Nat) (L : List Stp12) (h : Stp12sP w p L) (hok : ∀ x ∈ L, x.Ok) (hl : L.length ≤ 140737488355328) :
    Calls Tryz.prog 6 #[.slice p L.length c] w fun e w' => ∃ b, e = .returned (.bool b) ∧ w = w' := by
  have HH := Lib.hid h; have HOk := Lib.hid hok
  clear h hok
  go_enter Tryz.func6, Tryz.ntmps6
  go_wp2
  go_loopw [3, 4, 5] (fun nv iv _ wr => ∃ j N : Nat, j ≤ L.length ∧ N ≤ 8192 ∧ iv = .int .i64 (j : Int) ∧ nv = .int .i64 (N : Int) ∧ w = wr) (fun _ iv _ _ => L.length - (intOf iv).toNat)
  case atStart => exact ⟨0, 0, Nat.zero_le _, by omega, rfl, rfl, rfl⟩
  case round =>
    obtain ⟨j, N, hj, hN, rfl, rfl, rfl⟩ := hrel
    by_cases hlt : j < L.length
    · obtain ⟨x, hx⟩ : ∃ x, L[j]? = some x := ⟨_, List.getElem?_eq_getElem hlt⟩
      obtain ⟨a, q, c3, rfl, ha, ht, hc⟩ := HH.out j x hx
      have k3 := stp12_at (k := 2) (hc 3 _ rfl)
      have k4 := stp12_at (k := 3) (hc 4 _ rfl)
      have hok := HOk.out x (List.mem_of_getElem? hx)
      have hs := hok.s
      have hll := hok.l.1
      have HT := Lib.hid ht
      have HS := Lib.hid hok.l.2
      clear hx hc ht hok
      generalize x.s = s at *
      generalize x.l = l at *
      go_wp2
      go_loopw [3, 5] (fun nv kv wr => ∃ i M : Nat, i ≤ l.length ∧ M ≤ 140737488363520 ∧ kv = .int .i64 (i : Int) ∧ nv = .int .i64 (M : Int) ∧ w = wr) (fun _ kv _ => l.length - (intOf kv).toNat)
      case atStart => exact ⟨0, N + s.size, Nat.zero_le _, by omega, rfl, by go_num, rfl⟩
      case round =>
        obtain ⟨i, M, hi, hM, rfl, rfl, rfl⟩ := hrel
        by_cases h8 : M ≤ 8192
        · have h8i : (M : Int) ≤ 8192 := by omega
          have h8j : ¬ (8192 : Int) < (M : Int) := by omega
          by_cases hil : i < l.length
          · have hili : (i : Int) < (l.length : Int) := by omega
            obtain ⟨t, ht⟩ : ∃ t, l[i]? = some t := ⟨_, List.getElem?_eq_getElem hil⟩
            obtain ⟨a2, rfl, _, hc2⟩ := HT.out i t ht
            have hts := HS.out t (List.mem_of_getElem? ht)
            clear ht
            go_wp2
            go_roundw
            case rel => exact ⟨i + 1, M + t.size, by omega, by omega, by go_num, by go_num, by first | rfl | trivial⟩
            case measure => simp [intOf]; omega
          · have hili : ¬ (i : Int) < (l.length : Int) := by omega
            by_cases h20 : 20 < l.length
            · have h20i : (20 : Int) < (l.length : Int) := by omega
              go_wp2
              go_ret
              first | exact ⟨_, rfl, rfl⟩ | exact rfl | exact ⟨_, rfl, trivial⟩ | simp
            · have h20i : ¬ (20 : Int) < (l.length : Int) := by omega
              go_wp2
              go_roundw
              case rel => first | exact ⟨j + 1, M, by omega, h8, by go_num, rfl, rfl⟩ | exact ⟨j + 1, M, by omega, h8, by go_num, rfl, trivial⟩ | exact ⟨j + 1, by omega, M, h8, by go_num, rfl⟩
              case measure => simp [intOf]; omega
        · have h8i : ¬ (M : Int) ≤ 8192 := by omega
          have h8j : (8192 : Int) < (M : Int) := by omega
          by_cases hil : i < l.length
          · have hili : (i : Int) < (l.length : Int) := by omega
            go_wp2
            go_ret
            first | exact ⟨_, rfl, rfl⟩ | exact rfl | exact ⟨_, rfl, trivial⟩ | simp
          · have hili : ¬ (i : Int) < (l.length : Int) := by omega
            go_wp2
            go_ret
            first | exact ⟨_, rfl, rfl⟩ | exact rfl | exact ⟨_, rfl, trivial⟩ | simp
    · obtain rfl : j = L.length := by omega
      go_wp2
      go_ret
      first | exact ⟨_, rfl, rfl⟩ | exact rfl | exact ⟨_, rfl, trivial⟩ | simp
end Go.Proofs.YtbekdcpdfmfopaaGreat
end

section
namespace Go.Proofs.YtbekdcpdfmfopaaGreat

/-- The polynomial, turned about. -/
def crcPoly : BitVec 32 := 0xEDB88320#32
/-- One step. -/
def hf (c : BitVec 32) : BitVec 32 := (c >>> 1) ^^^ (if c.getLsbD 0 then crcPoly else 0#32)
theorem hf_xor (a b : BitVec 32) : hf (a ^^^ b) = hf a ^^^ hf b := by
  unfold hf
  have e : (a ^^^ b) >>> 1 = (a >>> 1) ^^^ (b >>> 1) := by
    apply BitVec.eq_of_getLsbD_eq
    intro i hi
    simp [BitVec.getLsbD_ushiftRight]
  rw [e, BitVec.getLsbD_xor]
  cases a.getLsbD 0 <;> cases b.getLsbD 0 <;> simp [BitVec.xor_assoc, BitVec.xor_comm crcPoly]
theorem hf_zero : hf 0#32 = 0#32 := by decide
/-- So many steps. -/
def hfN : Nat → BitVec 32 → BitVec 32
  | 0, c => c
  | n + 1, c => hfN n (hf c)
theorem hfN_xor : ∀ (n : Nat) (a b : BitVec 32), hfN n (a ^^^ b) = hfN n a ^^^ hfN n b
  | 0, _, _ => rfl
  | n + 1, a, b => by rw [hfN, hfN, hfN, hf_xor, hfN_xor n]
theorem hfN_zero : ∀ n : Nat, hfN n 0#32 = 0#32
  | 0 => rfl
  | n + 1 => by rw [hfN, hf_zero, hfN_zero n]
theorem hfN_add : ∀ (n m : Nat) (c : BitVec 32), hfN (n + m) c = hfN m (hfN n c)
  | 0, m, c => by rw [Nat.zero_add]; rfl
  | n + 1, m, c => by rw [show n + 1 + m = (n + m) + 1 by omega, hfN, hfN, hfN_add n m]
theorem hfN_succ (n : Nat) (c : BitVec 32) : hfN (n + 1) c = hf (hfN n c) := hfN_add n 1 c
theorem hfN_comm (n m : Nat) (c : BitVec 32) : hfN n (hfN m c) = hfN m (hfN n c) := by rw [← hfN_add, Nat.add_comm, hfN_add]
/-- A step may be undone: bit 31 tells whether the polynomial came in. -/
theorem hf_top (c : BitVec 32) : (hf c).getLsbD 31 = c.getLsbD 0 := by
  unfold hf
  rw [BitVec.getLsbD_xor, BitVec.getLsbD_ushiftRight]
  have h32 : c.getLsbD 32 = false := BitVec.getLsbD_of_ge c 32 (Nat.le_refl _)
  cases c.getLsbD 0
  · simp
  · simp [crcPoly]
theorem hf_inj {a b : BitVec 32} (h : hf a = hf b) : a = b := by
  have h0 : a.getLsbD 0 = b.getLsbD 0 := by rw [← hf_top, ← hf_top, h]
  unfold hf at h
  rw [h0] at h
  have h1 : a >>> 1 = b >>> 1 := by
    have := congrArg (· ^^^ (if b.getLsbD 0 = true then crcPoly else 0#32)) h
    simpa [BitVec.xor_assoc, BitVec.xor_self] using this
  apply BitVec.eq_of_getLsbD_eq
  intro i hi
  cases i with
  | zero => exact h0
  | succ i =>
    have := congrArg (fun c : BitVec 32 => c.getLsbD i) h1
    simp only [BitVec.getLsbD_ushiftRight] at this
    rwa [Nat.add_comm 1 i] at this
theorem hfN_inj : ∀ (n : Nat) {a b : BitVec 32}, hfN n a = hfN n b → a = b
  | 0, _, _, h => h
  | n + 1, _, _, h => hf_inj (hfN_inj n h)
/-- A bit goes one place down. -/
theorem hf_bit : ∀ i, i < 31 → hf (1#32 <<< (i + 1)) = 1#32 <<< i := by decide
theorem hfN_bit (i : Nat) (hi : i < 32) : ∀ k, k ≤ i → hfN k (1#32 <<< i) = 1#32 <<< (i - k)
  | 0, _ => rfl
  | k + 1, h => by
    rw [hfN_succ, hfN_bit i hi k (by omega), show i - k = (i - (k + 1)) + 1 by omega, hf_bit _ (by omega)]

/-! ### Sums over bits -/
/-- The sum of the first n, by exclusive or. -/
def xsum (f : Nat → BitVec 32) : Nat → BitVec 32
  | 0 => 0#32
  | n + 1 => xsum f n ^^^ f n
theorem xsum_congr {f g : Nat → BitVec 32} : ∀ n, (∀ i, i < n → f i = g i) → xsum f n = xsum g n
  | 0, _ => rfl
  | n + 1, h => by rw [xsum, xsum, xsum_congr n (fun i hi => h i (by omega)), h n (by omega)]
theorem xsum_xor (f g : Nat → BitVec 32) : ∀ n, xsum (fun i => f i ^^^ g i) n = xsum f n ^^^ xsum g n
  | 0 => by simp [xsum]
  | n + 1 => by
    rw [xsum, xsum, xsum, xsum_xor f g n]
    rw [BitVec.xor_assoc, BitVec.xor_assoc, ← BitVec.xor_assoc (xsum g n), BitVec.xor_comm (xsum g n) (f n), BitVec.xor_assoc]
theorem xsum_hfN (f : Nat → BitVec 32) (k : Nat) : ∀ n, xsum (fun i => hfN k (f i)) n = hfN k (xsum f n)
  | 0 => by rw [xsum, xsum, hfN_zero]
  | n + 1 => by rw [xsum, xsum, xsum_hfN f k n, hfN_xor]
/-- If it is so: this; else nothing. -/
def ifB (b : Bool) (c : BitVec 32) : BitVec 32 := if b then c else 0#32
theorem ifB_hfN (b : Bool) (k : Nat) (c : BitVec 32) : hfN k (ifB b c) = ifB b (hfN k c) := by cases b <;> simp [ifB, hfN_zero]
theorem ifB_xor (b : Bool) (c d : BitVec 32) : ifB b (c ^^^ d) = ifB b c ^^^ ifB b d := by cases b <;> simp [ifB]
theorem ifB_sum (a b : Bool) (c : BitVec 32) : ifB (a ^^ b) c = ifB a c ^^^ ifB b c := by cases a <;> cases b <;> simp [ifB]
/-- What keeps sums. -/
def Lin (F : BitVec 32 → BitVec 32) : Prop := ∀ a b, F (a ^^^ b) = F a ^^^ F b
theorem Lin.zero {F : BitVec 32 → BitVec 32} (h : Lin F) : F 0#32 = 0#32 := by
  have := h 0#32 0#32
  rw [BitVec.xor_self] at this
  rw [this, BitVec.xor_self]
theorem Lin.xsum {F : BitVec 32 → BitVec 32} (h : Lin F) (f : Nat → BitVec 32) : ∀ n, F (xsum f n) = Go.Proofs.YtbekdcpdfmfopaaGreat.xsum (fun i => F (f i)) n
  | 0 => h.zero
  | n + 1 => by rw [Go.Proofs.YtbekdcpdfmfopaaGreat.xsum, Go.Proofs.YtbekdcpdfmfopaaGreat.xsum, h, Lin.xsum h f n]
theorem Lin.ifB {F : BitVec 32 → BitVec 32} (h : Lin F) (b : Bool) (c : BitVec 32) : F (ifB b c) = Go.Proofs.YtbekdcpdfmfopaaGreat.ifB b (F c) := by cases b <;> simp [Go.Proofs.YtbekdcpdfmfopaaGreat.ifB, h.zero]
theorem Lin.hfN (n : Nat) : Lin (hfN n) := hfN_xor n
/-- The bits of a number. -/
theorem bits_low (c : BitVec 32) : ∀ n, n ≤ 32 → ∀ i, (xsum (fun i => ifB (c.getLsbD i) (1#32 <<< i)) n).getLsbD i = (decide (i < n) && c.getLsbD i)
  | 0, _, i => by simp [xsum]
  | n + 1, h, i => by
    rw [xsum, BitVec.getLsbD_xor, bits_low c n (by omega) i]
    have e : (ifB (c.getLsbD n) (1#32 <<< n)).getLsbD i = (decide (i = n) && c.getLsbD n) := by
      have e1 : (1#32 <<< n).getLsbD i = decide (i = n) := by
        rw [BitVec.getLsbD_shiftLeft, BitVec.getLsbD_one]
        by_cases hin : i = n
        · subst hin; simp; omega
        · have : ¬ (decide (i < 32) && !decide (i < n) && decide (i - n = 0)) = true := by simp; omega
          simp [hin]
          intro _ h2 h3
          omega
      cases hc : c.getLsbD n
      · simp [ifB]
      · simp only [ifB, if_true, e1, Bool.and_true]
    rw [e]
    by_cases h1 : i < n
    · have h2 : ¬ i = n := by omega
      have h3 : i < n + 1 := by omega
      simp [h1, h2, h3]
    · by_cases h2 : i = n
      · subst h2; simp
      · have h3 : ¬ i < n + 1 := by omega
        simp [h1, h2, h3]
theorem bits_all (c : BitVec 32) : xsum (fun i => ifB (c.getLsbD i) (1#32 <<< i)) 32 = c := by
  apply BitVec.eq_of_getLsbD_eq
  intro i hi
  rw [bits_low c 32 (Nat.le_refl _) i]
  simp [hi]
/-- Rows of what each bit does: multiplied by a number. -/
theorem Lin.rows {F : BitVec 32 → BitVec 32} (h : Lin F) (c : BitVec 32) : Go.Proofs.YtbekdcpdfmfopaaGreat.xsum (fun i => Go.Proofs.YtbekdcpdfmfopaaGreat.ifB (c.getLsbD i) (F (1#32 <<< i))) 32 = F c := by
  have e := h.xsum (fun i => Go.Proofs.YtbekdcpdfmfopaaGreat.ifB (c.getLsbD i) (1#32 <<< i)) 32
  rw [bits_all] at e
  rw [e]
  exact xsum_congr 32 (fun i _ => (h.ifB _ _).symm)

/-! ### Products of polynomials -/
/-- The product of two polynomials. -/
def pr (a b : BitVec 32) : BitVec 32 := xsum (fun k => ifB (a.getLsbD (31 - k)) (hfN k b)) 32
theorem pr_lin (a : BitVec 32) : Lin (pr a) := fun b c => by
  unfold pr
  rw [← xsum_xor]
  exact xsum_congr 32 (fun i _ => by rw [hfN_xor, ifB_xor])
theorem pr_left (a b c : BitVec 32) : pr (a ^^^ b) c = pr a c ^^^ pr b c := by
  unfold pr
  rw [← xsum_xor]
  exact xsum_congr 32 (fun i _ => by rw [BitVec.getLsbD_xor, ifB_sum])
theorem pr_hfN (a b : BitVec 32) (k : Nat) : hfN k (pr a b) = pr a (hfN k b) := by
  unfold pr
  rw [← xsum_hfN]
  exact xsum_congr 32 (fun i _ => by rw [ifB_hfN, hfN_comm])
/-- Two products, either one first. -/
theorem pr_swap (a b c : BitVec 32) : pr a (pr b c) = pr b (pr a c) := by
  have e : pr a (pr b c) = xsum (fun k => ifB (b.getLsbD (31 - k)) (pr a (hfN k c))) 32 := by
    show pr a (xsum _ 32) = _
    rw [(pr_lin a).xsum]
    exact xsum_congr 32 (fun i _ => (pr_lin a).ifB _ _)
  rw [e]
  show _ = xsum _ 32
  exact xsum_congr 32 (fun i _ => by rw [pr_hfN])
theorem xsum_back (f : Nat → BitVec 32) : ∀ n, xsum f n = xsum (fun i => f (n - 1 - i)) n
  | 0 => rfl
  | n + 1 => by
    have key : ∀ (g : Nat → BitVec 32) (m : Nat), xsum g (m + 1) = g 0 ^^^ xsum (fun i => g (i + 1)) m := fun g m => by
      induction m with
      | zero => simp [xsum]
      | succ m ih => rw [xsum, ih, xsum, BitVec.xor_assoc]
    rw [key (fun i => f (n + 1 - 1 - i)) n, xsum, xsum_back f n, BitVec.xor_comm]
    congr 1
    exact xsum_congr n (fun i hi => by congr 1; omega)
/-- Each number is the product of itself and the number 1. -/
theorem pr_one (b : BitVec 32) : pr b (1#32 <<< 31) = b := by
  unfold pr
  have e : xsum (fun k => ifB (b.getLsbD (31 - k)) (hfN k (1#32 <<< 31))) 32 = xsum (fun k => ifB (b.getLsbD (32 - 1 - k)) (1#32 <<< (32 - 1 - k))) 32 :=
    xsum_congr 32 (fun i hi => by rw [hfN_bit 31 (by omega) i (by omega)])
  rw [e, ← xsum_back (fun i => ifB (b.getLsbD i) (1#32 <<< i)), bits_all]
theorem pr_comm (a b : BitVec 32) : pr a b = pr b a := by
  have h := pr_swap a b (1#32 <<< 31)
  rwa [pr_one, pr_one] at h
/-- A product, taken further. -/
theorem pr_step (a b : BitVec 32) (k : Nat) : pr (hfN k a) b = hfN k (pr a b) := by rw [pr_comm, ← pr_hfN, pr_comm]
theorem pr_x (k : Nat) (hk : k < 32) (b : BitVec 32) : pr (1#32 <<< (31 - k)) b = hfN k b := by
  have e : (1#32 <<< (31 - k)) = hfN k (1#32 <<< 31) := (hfN_bit 31 (by omega) k (by omega)).symm
  rw [e, pr_step, pr_comm, pr_one]
/-- What a power of x is. -/
def xp (n : Nat) : BitVec 32 := hfN n (1#32 <<< 31)
theorem pr_xp (n : Nat) (b : BitVec 32) : pr (xp n) b = hfN n b := by
  unfold xp
  rw [pr_step, pr_comm, pr_one]
theorem xp_add (n m : Nat) : pr (xp n) (xp m) = xp (m + n) := by rw [pr_xp]; unfold xp; rw [hfN_add]
theorem xp_one : xp 1 = 1#32 <<< 30 := by decide
end Go.Proofs.YtbekdcpdfmfopaaGreat
end
