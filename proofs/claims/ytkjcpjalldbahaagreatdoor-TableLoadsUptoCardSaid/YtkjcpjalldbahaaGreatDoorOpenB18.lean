/- A slice of acts among a law's arguments, opened, where what is read is of small bulk. -/
import Derived.Test.YtkjcpjalldbahaaGreatDoorM25
import Derived.Test.YtkjcpjalldbahaaGreatDoorM40
import Derived.Test.YtkjcpjalldbahaaGreatDoorRows
namespace Go.Proofs.YtkjcpjalldbahaaGreatDoor
open Go.ChangeShapes Go.WideShapes Go.ChangeAt Go.RowKit

/-! ### Bulk -/
section
variable {H : Type}
theorem blk_one (d : DataW H) : 1 ≤ Rows.uptoBulk d := by
  cases d with
  | lit l => cases l <;> simp [Rows.uptoBulk]
  | _ => simp [Rows.uptoBulk]
theorem blk_part {d : DataW H} : ∀ {l : List (DataW H)}, d ∈ l → Rows.uptoBulk d ≤ Rows.uptoBulkAll l
  | [], h => by cases h
  | x :: r, h => by
    simp only [Rows.uptoBulkAll]
    rcases List.mem_cons.1 h with rfl | h
    · omega
    · have := blk_part h
      omega
theorem blk_len : ∀ l : List (DataW H), l.length ≤ Rows.uptoBulkAll l
  | [] => Nat.zero_le _
  | x :: r => by
    have h1 := blk_one x
    have h2 := blk_len r
    simp only [Rows.uptoBulkAll, List.length_cons]
    omega
theorem blk_agg {l : List (DataW H)} {j : Nat} {d : DataW H} (h : l[j]? = some d) : Rows.uptoBulk d ≤ Rows.uptoBulk (.agg l) := by
  have := blk_part (List.mem_of_getElem? h)
  simp only [Rows.uptoBulk]
  omega
theorem blk_elem {l s : List (DataW H)} {d : DataW H} (h : d ∈ l) : Rows.uptoBulk d ≤ Rows.uptoBulk (.slice l s) := by
  have := blk_part h
  simp only [Rows.uptoBulk]
  omega
theorem blk_slen (l s : List (DataW H)) : l.length ≤ Rows.uptoBulk (.slice l s) := by
  have := blk_len l
  simp only [Rows.uptoBulk]
  omega
theorem blk_text (bytes : List UInt8) : Rows.uptoBulk (DataW.lit (H := H) (.string bytes)) = bytes.length + 1 := by simp [Rows.uptoBulk]
end
section
variable {H : Type} {enc : TypeId × Value → H} {W : World} {base : Nat} {v : Value} {d : DataW H} {p : List MemPlace}
theorem field_txt {xs : List (DataW H × List MemPlace)} {j : Nat} {s : ByteArray} (h : (xs.map (·.1))[j]? = some (.lit (.string s.data.toList))) (hb : Rows.uptoBulk (.agg (xs.map (·.1))) ≤ 1048576) : s.size ≤ 1048576 := by
  have h1 := blk_agg h
  rw [blk_text, size_list] at h1
  omega
theorem open_edito_B {fuel : Nat} {cs : List Value} (htr : DataW.trod enc Tryz.prog W 0 (fun _ => true) true fuel 62 cs = some (d, p)) (hb : Rows.uptoBulk d ≤ 1048576) :
    ∃ (x : EditO), cs = x.cells ∧ x.Ok ∧ x.Path.size ≤ 1048576 ∧ x.Text.size ≤ 1048576 := by
  obtain ⟨xs, n', _, hD, hcl, hlen, hfl⟩ := DataW.trod_struct Tryz.underlying62 htr
  have hlenN : xs.length = 6 := hlen
  simp only [Prod.mk.injEq] at hD
  obtain ⟨rfl, rfl⟩ := hD
  rw [cells_edito] at hcl
  have g0 : DataW.trod enc Tryz.prog W 0 (fun _ => true) true n' 5 ((cs.drop 0).take (Tryz.prog.cellsOf 5)) = xs[0]? := hfl 0 _ rfl
  rw [show Tryz.prog.cellsOf 5 = 1 from by kernel_rfl] at g0
  have g1 : DataW.trod enc Tryz.prog W 0 (fun _ => true) true n' 9 ((cs.drop 1).take (Tryz.prog.cellsOf 9)) = xs[1]? := hfl 1 _ rfl
  rw [show Tryz.prog.cellsOf 9 = 1 from by kernel_rfl] at g1
  have g2 : DataW.trod enc Tryz.prog W 0 (fun _ => true) true n' 4 ((cs.drop 2).take (Tryz.prog.cellsOf 4)) = xs[2]? := hfl 2 _ rfl
  rw [show Tryz.prog.cellsOf 4 = 1 from by kernel_rfl] at g2
  have g3 : DataW.trod enc Tryz.prog W 0 (fun _ => true) true n' 25 ((cs.drop 3).take (Tryz.prog.cellsOf 25)) = xs[3]? := hfl 3 _ rfl
  rw [show Tryz.prog.cellsOf 25 = 1 from by kernel_rfl] at g3
  have g4 : DataW.trod enc Tryz.prog W 0 (fun _ => true) true n' 25 ((cs.drop 4).take (Tryz.prog.cellsOf 25)) = xs[4]? := hfl 4 _ rfl
  rw [show Tryz.prog.cellsOf 25 = 1 from by kernel_rfl] at g4
  have g5 : DataW.trod enc Tryz.prog W 0 (fun _ => true) true n' 9 ((cs.drop 5).take (Tryz.prog.cellsOf 9)) = xs[5]? := hfl 5 _ rfl
  rw [show Tryz.prog.cellsOf 9 = 1 from by kernel_rfl] at g5
  obtain ⟨d0, e0, w0⟩ := field_at (k := .u8) (by omega) Tryz.underlying5 g0
  obtain ⟨s1, e1, x1⟩ := field_str (by omega) Tryz.underlying9 g1
  have hs1 := field_txt x1 hb
  obtain ⟨b2, e2⟩ := field_bool (by omega) Tryz.underlying4 g2
  obtain ⟨d3, e3, w3⟩ := field_at (k := .u64) (by omega) Tryz.underlying25 g3
  obtain ⟨d4, e4, w4⟩ := field_at (k := .u64) (by omega) Tryz.underlying25 g4
  obtain ⟨s5, e5, x5⟩ := field_str (by omega) Tryz.underlying9 g5
  have hs5 := field_txt x5 hb
  simp [Lit.wf, IntKind.min, IntKind.max, IntKind.signed, IntKind.bits] at w0 w3 w4
  have n0 : ((d0.toNat : Nat) : Int) = d0 := Int.toNat_of_nonneg (by omega)
  have n3 : ((d3.toNat : Nat) : Int) = d3 := Int.toNat_of_nonneg (by omega)
  have n4 : ((d4.toNat : Nat) : Int) = d4 := Int.toNat_of_nonneg (by omega)
  refine ⟨⟨d0.toNat, s1, b2, d3.toNat, d4.toNat, s5⟩, ?_, ⟨by show d0.toNat < _; omega, by show s1.size ≤ _; omega, by show d3.toNat < _; omega, by show d4.toNat < _; omega, by show s5.size ≤ _; omega⟩, hs1, hs5⟩
  unfold EditO.cells
  dsimp only
  rw [n0, n3, n4]
  exact edito_list hcl e0 e1 e2 e3 e4 e5
set_option maxRecDepth 100000 in
theorem open_editos_B {fuel : Nat} {a0 : Option Addr} {len cap : Nat} (hf : DataW.trod enc Tryz.prog W 0 (fun _ => true) true fuel 35 [.slice a0 len cap] = some (d, p)) (hlt : ∀ x ∈ p, x.block < W.heap.size) (hb : Rows.uptoBulk d ≤ 1048576) :
    ∃ (pa : Option Addr) (c : Nat) (L : List EditO), (.slice a0 len cap : Value) = .slice pa L.length c ∧ EditOsP W pa L ∧ (∀ x, x ∈ L → x.Ok ∧ x.Path.size ≤ 1048576 ∧ x.Text.size ≤ 1048576) ∧ L.length ≤ 1048576 := by
  rcases Deep.open_slice Tryz.underlying35 hf with ⟨hcs, hx⟩ | ⟨a, len', cap', m, n, D, Pl, hcs, _, hl, hm, hmm, hx, hi⟩
  · simp at hcs
    obtain ⟨rfl, rfl, rfl⟩ := hcs
    exact ⟨none, 0, [], rfl, fun k x hk => by simp at hk, fun x hx => by simp at hx, by simp⟩
  · simp at hcs
    obtain ⟨rfl, rfl, rfl⟩ := hcs
    simp only [Prod.mk.injEq] at hx
    obtain ⟨rfl, rfl⟩ := hx
    simp only [if_true] at hmm
    subst hmm
    have hr := blk_slen ((List.range len).map D) ((List.range (m - len)).map fun j => D (len + j))
    simp only [List.length_map, List.length_range] at hr
    obtain ⟨L, hL, hP⟩ := list_of_all (α := EditO) (P := fun k x => (x.Ok ∧ x.Path.size ≤ 1048576 ∧ x.Text.size ≤ 1048576) ∧ a.block < W.heap.size ∧ ∀ (i : Nat) (u : Value), (x.cells)[i]? = some u → W.cell? (a.add (k * 6 + i)) = some u) len (fun k hk => by
      obtain ⟨cs', hc, htr⟩ := hi k (by omega)
      rw [cells_edito] at hc
      obtain ⟨_, hcl, hat⟩ := World.cells?_some hc
      have hbe := blk_elem (s := (List.range (m - len)).map fun j => D (len + j)) (List.mem_map.2 ⟨k, List.mem_range.2 hk, rfl⟩ : D k ∈ (List.range len).map D)
      obtain ⟨x, rfl, h2⟩ := open_edito_B htr (Nat.le_trans hbe hb)
      refine ⟨x, h2, hlt (.cell a.block (a.off + k * 6)) (List.mem_append_left _ (MemPlace.mem_row.2 ⟨k * 6, by rw [cells_edito]; omega, rfl⟩)), fun i u hu => ?_⟩
      have hiN : i < 6 := (List.getElem?_eq_some_iff.1 hu).1
      have := hat i hiN
      rw [Deep.add_add] at this
      rw [this]
      exact hu)
    refine ⟨some a, m, L, by rw [hL], fun k x hk => ?_, fun x hx => ?_, by rw [hL]; omega⟩
    · obtain ⟨_, h2, h4⟩ := hP k x hk
      exact ⟨a, rfl, h2, h4⟩
    · obtain ⟨k, hk⟩ := List.getElem?_of_mem hx
      exact (hP k x hk).1
theorem open_verx_B {fuel : Nat} {cs : List Value} (htr : DataW.trod enc Tryz.prog W 0 (fun _ => true) true fuel 41 cs = some (d, p)) (hb : Rows.uptoBulk d ≤ 1048576) :
    ∃ (x : VerX), cs = x.cells ∧ x.Ok ∧ x.Text.size ≤ 1048576 := by
  obtain ⟨xs, n', _, hD, hcl, hlen, hfl⟩ := DataW.trod_struct Tryz.underlying41 htr
  have hlenN : xs.length = 3 := hlen
  simp only [Prod.mk.injEq] at hD
  obtain ⟨rfl, rfl⟩ := hD
  rw [cells_verx] at hcl
  have g0 : DataW.trod enc Tryz.prog W 0 (fun _ => true) true n' 25 ((cs.drop 0).take (Tryz.prog.cellsOf 25)) = xs[0]? := hfl 0 _ rfl
  rw [show Tryz.prog.cellsOf 25 = 1 from by kernel_rfl] at g0
  have g1 : DataW.trod enc Tryz.prog W 0 (fun _ => true) true n' 5 ((cs.drop 1).take (Tryz.prog.cellsOf 5)) = xs[1]? := hfl 1 _ rfl
  rw [show Tryz.prog.cellsOf 5 = 1 from by kernel_rfl] at g1
  have g2 : DataW.trod enc Tryz.prog W 0 (fun _ => true) true n' 9 ((cs.drop 2).take (Tryz.prog.cellsOf 9)) = xs[2]? := hfl 2 _ rfl
  rw [show Tryz.prog.cellsOf 9 = 1 from by kernel_rfl] at g2
  obtain ⟨d0, e0, w0⟩ := field_at (k := .u64) (by omega) Tryz.underlying25 g0
  obtain ⟨d1, e1, w1⟩ := field_at (k := .u8) (by omega) Tryz.underlying5 g1
  obtain ⟨s2, e2, x2⟩ := field_str (by omega) Tryz.underlying9 g2
  have hs2 := field_txt x2 hb
  simp [Lit.wf, IntKind.min, IntKind.max, IntKind.signed, IntKind.bits] at w0 w1
  have n0 : ((d0.toNat : Nat) : Int) = d0 := Int.toNat_of_nonneg (by omega)
  have n1 : ((d1.toNat : Nat) : Int) = d1 := Int.toNat_of_nonneg (by omega)
  refine ⟨⟨d0.toNat, d1.toNat, s2⟩, ?_, ⟨by show d0.toNat < _; omega, by show d1.toNat < _; omega, by show s2.size ≤ _; omega⟩, hs2⟩
  unfold VerX.cells
  dsimp only
  rw [n0, n1]
  exact verx_list hcl e0 e1 e2
set_option maxRecDepth 100000 in
theorem open_verxs_B {fuel : Nat} {a0 : Option Addr} {len cap : Nat} (hf : DataW.trod enc Tryz.prog W 0 (fun _ => true) true fuel 53 [.slice a0 len cap] = some (d, p)) (hlt : ∀ x ∈ p, x.block < W.heap.size) (hb : Rows.uptoBulk d ≤ 1048576) :
    ∃ (pa : Option Addr) (c : Nat) (L : List VerX), (.slice a0 len cap : Value) = .slice pa L.length c ∧ VerXsP W pa L ∧ (∀ x, x ∈ L → x.Ok ∧ x.Text.size ≤ 1048576) ∧ L.length ≤ 1048576 := by
  rcases Deep.open_slice Tryz.underlying53 hf with ⟨hcs, hx⟩ | ⟨a, len', cap', m, n, D, Pl, hcs, _, hl, hm, hmm, hx, hi⟩
  · simp at hcs
    obtain ⟨rfl, rfl, rfl⟩ := hcs
    exact ⟨none, 0, [], rfl, fun k x hk => by simp at hk, fun x hx => by simp at hx, by simp⟩
  · simp at hcs
    obtain ⟨rfl, rfl, rfl⟩ := hcs
    simp only [Prod.mk.injEq] at hx
    obtain ⟨rfl, rfl⟩ := hx
    simp only [if_true] at hmm
    subst hmm
    have hr := blk_slen ((List.range len).map D) ((List.range (m - len)).map fun j => D (len + j))
    simp only [List.length_map, List.length_range] at hr
    obtain ⟨L, hL, hP⟩ := list_of_all (α := VerX) (P := fun k x => (x.Ok ∧ x.Text.size ≤ 1048576) ∧ a.block < W.heap.size ∧ ∀ (i : Nat) (u : Value), (x.cells)[i]? = some u → W.cell? (a.add (k * 3 + i)) = some u) len (fun k hk => by
      obtain ⟨cs', hc, htr⟩ := hi k (by omega)
      rw [cells_verx] at hc
      obtain ⟨_, hcl, hat⟩ := World.cells?_some hc
      have hbe := blk_elem (s := (List.range (m - len)).map fun j => D (len + j)) (List.mem_map.2 ⟨k, List.mem_range.2 hk, rfl⟩ : D k ∈ (List.range len).map D)
      obtain ⟨x, rfl, h2⟩ := open_verx_B htr (Nat.le_trans hbe hb)
      refine ⟨x, h2, hlt (.cell a.block (a.off + k * 3)) (List.mem_append_left _ (MemPlace.mem_row.2 ⟨k * 3, by rw [cells_verx]; omega, rfl⟩)), fun i u hu => ?_⟩
      have hiN : i < 3 := (List.getElem?_eq_some_iff.1 hu).1
      have := hat i hiN
      rw [Deep.add_add] at this
      rw [this]
      exact hu)
    refine ⟨some a, m, L, by rw [hL], fun k x hk => ?_, fun x hx => ?_, by rw [hL]; omega⟩
    · obtain ⟨_, h2, h4⟩ := hP k x hk
      exact ⟨a, rfl, h2, h4⟩
    · obtain ⟨k, hk⟩ := List.getElem?_of_mem hx
      exact (hP k x hk).1
theorem open_cellx_B {fuel : Nat} {cs : List Value} (htr : DataW.trod enc Tryz.prog W 0 (fun _ => true) true fuel 55 cs = some (d, p)) (hlt : ∀ x ∈ p, x.block < W.heap.size) (hb : Rows.uptoBulk d ≤ 1048576) :
    ∃ (m : Nat) (q : Option Addr) (c : Nat) (L : List Ver), cs = [.int .u64 (m : Int), .slice q L.length c] ∧ m < 18446744073709551616 ∧ VersP W q L ∧ (∀ x ∈ L, x.Fit ∧ x.t.size ≤ 1048576) ∧ L.length ≤ 1048576 := by
  obtain ⟨xs, n', _, hD, hcl, hlen, hfl⟩ := DataW.trod_struct Tryz.underlying55 htr
  have hlenN : xs.length = 2 := hlen
  simp only [Prod.mk.injEq] at hD
  obtain ⟨rfl, rfl⟩ := hD
  rw [show Tryz.prog.cellsOf 55 = 2 by kernel_rfl] at hcl
  have g0 : DataW.trod enc Tryz.prog W 0 (fun _ => true) true n' 25 ((cs.drop 0).take (Tryz.prog.cellsOf 25)) = xs[0]? := hfl 0 _ rfl
  rw [show Tryz.prog.cellsOf 25 = 1 from by kernel_rfl] at g0
  have g1 : DataW.trod enc Tryz.prog W 0 (fun _ => true) true n' 53 ((cs.drop 1).take (Tryz.prog.cellsOf 53)) = xs[1]? := hfl 1 _ rfl
  rw [show Tryz.prog.cellsOf 53 = 1 from by kernel_rfl] at g1
  obtain ⟨d0, e0, w0⟩ := field_at (k := .u64) (by omega) Tryz.underlying25 g0
  obtain ⟨y1, hy1⟩ : ∃ y, xs[1]? = some y := ⟨_, List.getElem?_eq_getElem (by omega)⟩
  rw [hy1] at g1
  obtain ⟨a1, l1, c1, hc1⟩ := Go.Joins.slice_form Tryz.underlying53 g1
  have e1 := one_at hc1
  rw [hc1] at g1
  obtain ⟨q, c, L, hv, hP, hok, hl⟩ := open_verxs_B (d := y1.1) (p := y1.2) g1 (fun x hx => hlt x (List.mem_flatMap.2 ⟨y1, List.mem_of_getElem? hy1, hx⟩)) (Nat.le_trans (blk_agg (j := 1) (by rw [List.getElem?_map, hy1]; rfl)) hb)
  simp [Lit.wf, IntKind.min, IntKind.max, IntKind.signed, IntKind.bits] at w0
  have n0 : ((d0.toNat : Nat) : Int) = d0 := Int.toNat_of_nonneg (by omega)
  refine ⟨d0.toNat, q, c, L.map VerX.ver, ?_, by omega, versX hP, fun x hx => ?_, by rw [List.length_map]; exact hl⟩
  · rw [n0, List.length_map, ← hv]
    exact two_list hcl e0 e1
  · obtain ⟨y, hy, rfl⟩ := List.mem_map.1 hx
    obtain ⟨h1, h2⟩ := hok y hy
    exact ⟨⟨h1.N, h1.State, h1.Text⟩, h2⟩
/-- A row of small bulk. -/
def Ent.Small (e : Ent) : Prop := e.Fit ∧ e.L.length ≤ 1048576 ∧ ∀ v ∈ e.L, v.t.size ≤ 1048576
theorem open_rowx_B {fuel : Nat} {cs : List Value} (htr : DataW.trod enc Tryz.prog W 0 (fun _ => true) true fuel 57 cs = some (d, p)) (hlt : ∀ x ∈ p, x.block < W.heap.size) (hb : Rows.uptoBulk d ≤ 1048576) :
    ∃ (e : Ent), cs = e.cells ∧ VersP W e.a e.L ∧ e.Small := by
  obtain ⟨xs, n', _, hD, hcl, hlen, hfl⟩ := DataW.trod_struct Tryz.underlying57 htr
  have hlenN : xs.length = 2 := hlen
  simp only [Prod.mk.injEq] at hD
  obtain ⟨rfl, rfl⟩ := hD
  rw [cells_rowx] at hcl
  have g0 : DataW.trod enc Tryz.prog W 0 (fun _ => true) true n' 9 ((cs.drop 0).take (Tryz.prog.cellsOf 9)) = xs[0]? := hfl 0 _ rfl
  rw [show Tryz.prog.cellsOf 9 = 1 from by kernel_rfl] at g0
  have g1 : DataW.trod enc Tryz.prog W 0 (fun _ => true) true n' 55 ((cs.drop 1).take (Tryz.prog.cellsOf 55)) = xs[1]? := hfl 1 _ rfl
  rw [show Tryz.prog.cellsOf 55 = 2 from by kernel_rfl] at g1
  obtain ⟨s0, e0, x0⟩ := field_str (by omega) Tryz.underlying9 g0
  have hs0 := field_txt x0 hb
  obtain ⟨y1, hy1⟩ : ∃ y, xs[1]? = some y := ⟨_, List.getElem?_eq_getElem (by omega)⟩
  rw [hy1] at g1
  obtain ⟨m, q, c, L, hcc, hm, hP, hF, hl⟩ := open_cellx_B (d := y1.1) (p := y1.2) g1 (fun x hx => hlt x (List.mem_flatMap.2 ⟨y1, List.mem_of_getElem? hy1, hx⟩)) (Nat.le_trans (blk_agg (j := 1) (by rw [List.getElem?_map, hy1]; rfl)) hb)
  refine ⟨⟨s0, m, L, q, c⟩, ?_, hP, ⟨⟨by show s0.size ≤ _; omega, hm, fun x hx => (hF x hx).1, by show L.length * 32 ≤ _; omega⟩, hl, fun x hx => (hF x hx).2⟩⟩
  have hd1 : ∀ i u, i < 2 → (cs.drop 1 |>.take 2)[i]? = u → cs[i + 1]? = u := fun i u hi h => by
    rw [List.getElem?_take, if_pos hi, List.getElem?_drop] at h
    rw [Nat.add_comm]
    exact h
  rw [hcc] at hd1
  exact verx_list hcl e0 (hd1 0 _ (by decide) rfl) (hd1 1 _ (by decide) rfl)
set_option maxRecDepth 100000 in
theorem open_rows_B {fuel : Nat} {a0 : Option Addr} {len cap : Nat} (hf : DataW.trod enc Tryz.prog W 0 (fun _ => true) true fuel 31 [.slice a0 len cap] = some (d, p)) (hlt : ∀ x ∈ p, x.block < W.heap.size) (hb : Rows.uptoBulk d ≤ 1048576) :
    ∃ (pa : Option Addr) (c : Nat) (L : List Ent), (.slice a0 len cap : Value) = .slice pa L.length c ∧ RowsP W pa L ∧ (∀ x, x ∈ L → x.Small) ∧ L.length ≤ c ∧ L.length ≤ 1048576 := by
  rcases Deep.open_slice Tryz.underlying31 hf with ⟨hcs, hx⟩ | ⟨a, len', cap', m, n, D, Pl, hcs, _, hl, hm, hmm, hx, hi⟩
  · simp at hcs
    obtain ⟨rfl, rfl, rfl⟩ := hcs
    exact ⟨none, 0, [], rfl, ⟨fun k x hk => by simp at hk, fun x hx => by simp at hx⟩, fun x hx => by simp at hx, by simp, by simp⟩
  · simp at hcs
    obtain ⟨rfl, rfl, rfl⟩ := hcs
    simp only [Prod.mk.injEq] at hx
    obtain ⟨rfl, rfl⟩ := hx
    simp only [if_true] at hmm
    subst hmm
    have hr := blk_slen ((List.range len).map D) ((List.range (m - len)).map fun j => D (len + j))
    simp only [List.length_map, List.length_range] at hr
    obtain ⟨L, hL, hP⟩ := list_of_all (α := Ent) (P := fun k x => (x.Small ∧ VersP W x.a x.L) ∧ a.block < W.heap.size ∧ ∀ (i : Nat) (u : Value), (x.cells)[i]? = some u → W.cell? (a.add (k * 3 + i)) = some u) len (fun k hk => by
      obtain ⟨cs', hc, htr⟩ := hi k (by omega)
      rw [cells_rowx] at hc
      obtain ⟨_, hcl, hat⟩ := World.cells?_some hc
      have hbe := blk_elem (s := (List.range (m - len)).map fun j => D (len + j)) (List.mem_map.2 ⟨k, List.mem_range.2 hk, rfl⟩ : D k ∈ (List.range len).map D)
      obtain ⟨x, rfl, h2, h3⟩ := open_rowx_B htr (fun y hy => hlt y (List.mem_append_right _ (List.mem_flatMap.2 ⟨k, List.mem_range.2 (by omega), hy⟩))) (Nat.le_trans hbe hb)
      refine ⟨x, ⟨h3, h2⟩, hlt (.cell a.block (a.off + k * 3)) (List.mem_append_left _ (MemPlace.mem_row.2 ⟨k * 3, by rw [cells_rowx]; omega, rfl⟩)), fun i u hu => ?_⟩
      have hiN : i < 3 := (List.getElem?_eq_some_iff.1 hu).1
      have := hat i hiN
      rw [Deep.add_add] at this
      rw [this]
      exact hu)
    refine ⟨some a, m, L, by rw [hL], ⟨fun k x hk => ?_, fun x hx => ?_⟩, fun x hx => ?_, by rw [hL]; exact hl, by rw [hL]; omega⟩
    · obtain ⟨_, h2, h4⟩ := hP k x hk
      exact ⟨a, rfl, h2, h4⟩
    · obtain ⟨k, hk⟩ := List.getElem?_of_mem hx
      exact (hP k x hk).1.2
    · obtain ⟨k, hk⟩ := List.getElem?_of_mem hx
      exact (hP k x hk).1.1
set_option maxRecDepth 100000 in
theorem open_texts_B {fuel : Nat} {a0 : Option Addr} {len cap : Nat} (hf : DataW.trod enc Tryz.prog W 0 (fun _ => true) true fuel 36 [.slice a0 len cap] = some (d, p)) (hlt : ∀ x ∈ p, x.block < W.heap.size) (hb : Rows.uptoBulk d ≤ 1048576) :
    ∃ (pa : Option Addr) (c : Nat) (L : List ByteArray), (.slice a0 len cap : Value) = .slice pa L.length c ∧ TextsP W pa L ∧ (∀ x, x ∈ L → x.size ≤ 1048576) ∧ L.length ≤ 1048576 := by
  rcases Deep.open_slice Tryz.underlying36 hf with ⟨hcs, hx⟩ | ⟨a, len', cap', m, n, D, Pl, hcs, _, hl, hm, hmm, hx, hi⟩
  · simp at hcs
    obtain ⟨rfl, rfl, rfl⟩ := hcs
    exact ⟨none, 0, [], rfl, fun k x hk => by simp at hk, fun x hx => by simp at hx, by simp⟩
  · simp at hcs
    obtain ⟨rfl, rfl, rfl⟩ := hcs
    simp only [Prod.mk.injEq] at hx
    obtain ⟨rfl, rfl⟩ := hx
    simp only [if_true] at hmm
    subst hmm
    have hr := blk_slen ((List.range len).map D) ((List.range (m - len)).map fun j => D (len + j))
    simp only [List.length_map, List.length_range] at hr
    obtain ⟨L, hL, hP⟩ := list_of_all (α := ByteArray) (P := fun k x => x.size ≤ 1048576 ∧ a.block < W.heap.size ∧ W.cell? (a.add k) = some (.string x)) len (fun k hk => by
      obtain ⟨cs', hc, htr⟩ := hi k (by omega)
      rw [cells_string] at hc
      obtain ⟨_, hcl, hat⟩ := World.cells?_some hc
      have hbe := blk_elem (s := (List.range (m - len)).map fun j => D (len + j)) (List.mem_map.2 ⟨k, List.mem_range.2 hk, rfl⟩ : D k ∈ (List.range len).map D)
      obtain ⟨s, hz, hx, _⟩ := DataW.trod_string Tryz.underlying9 htr
      simp only [Prod.mk.injEq] at hx
      rw [hx.1, blk_text, size_list] at hbe
      refine ⟨s, by omega, hlt (.cell a.block (a.off + k * 1)) (List.mem_append_left _ (MemPlace.mem_row.2 ⟨k * 1, by rw [cells_string]; omega, rfl⟩)), ?_⟩
      have := hat 0 (by decide)
      rw [Deep.add_add, hz] at this
      simpa using this)
    refine ⟨some a, m, L, by rw [hL], fun k x hk => ?_, fun x hx => ?_, by rw [hL]; omega⟩
    · obtain ⟨_, h2, h4⟩ := hP k x hk
      exact ⟨a, rfl, h2, h4⟩
    · obtain ⟨k, hk⟩ := List.getElem?_of_mem hx
      exact (hP k x hk).1
end
end Go.Proofs.YtkjcpjalldbahaaGreatDoor
