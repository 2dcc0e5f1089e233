/- Contracts: the words of all round keys, by the program. Contracts: the bytes of all round keys, by the program. Contracts: the round keys of a key, by the program. Plain: a cipher as it is built, and once its round keys are there. Contracts: the cipher of a key, by the program. Contracts: what is no stream, by the program. Contracts: a stream, by the program. Contracts: a text, either or a stream, by the program. What the program's Turn gives, as a text. Contracts: envelopes: Close: by the program. Plain: bytes out of their number. Contracts: envelopes: of which epoch one is: by the program. Contracts: envelopes: Open: by the program. Contracts: what the laws of layer 14 play with: a nonce out of any text; whether texts are too long; two rings of the same keys; an envelope again. Plain words: the self-test of the laws of layer 14: its keys, its turned text and its tags, reckoned. Contracts: what was closed opens; an envelope again; the self-test: the laws of layer 14. Contract: the self-test of the laws of layer 14. Plain: envelopes: the bytes ahead of the text; each byte of the text hangs on its own byte alone. Contracts: whether texts are too long: the laws of layer 14. The walk of SealBlind: the bytes ahead of the text hang on no byte of it. The walk of SealBack: what was closed opens, behind whatever rotations; again closed, by the newest key; not, once its key is gone. -/
import Derived.Test.YtdnpgmoiapkhnaaDoorM44
import Derived.Test.YtdnpgmoiapkhnaaDoorM38
import Derived.Test.YtdnpgmoiapkhnaaDoorM40
import Derived.Test.YtdnpgmoiapkhnaaDoorM02
import Derived.Deep.RegionWith
import Derived.Test.YtdnpgmoiapkhnaaDoorM18
import Derived.Test.YtdnpgmoiapkhnaaDoorM16
import Derived.Test.YtdnpgmoiapkhnaaDoorM41
import Derived.StillTailTactics
import Derived.Test.YtdnpgmoiapkhnaaDoorM42
import Derived.Test.YtdnpgmoiapkhnaaDoorM43
import Derived.Test.YtdnpgmoiapkhnaaDoorM37
import Derived.Test.YtdnpgmoiapkhnaaDoorM26
import Derived.Test.YtdnpgmoiapkhnaaDoorM34
import Derived.Test.YtdnpgmoiapkhnaaDoorM13
import Derived.Deep.RegionHeld3
import Derived.Test.YtdnpgmoiapkhnaaDoorM17
import Derived.Test.YtdnpgmoiapkhnaaDoorM35
import Derived.Test.YtdnpgmoiapkhnaaDoorM05
import Derived.Outline
import Derived.Test.YtdnpgmoiapkhnaaDoorM06
import Derived.Test.YtdnpgmoiapkhnaaDoorAesEx
import Derived.Test.YtdnpgmoiapkhnaaDoorM12
import Derived.Test.YtdnpgmoiapkhnaaDoorM22
import Derived.BigQuiet
section
namespace Go.Proofs.YtdnpgmoiapkhnaaDoor
open Go.RowKit
attribute [local irreducible] rkey expand enc dec
def zc44 : Array Value := ((List.replicate 44 0).map cell32).toArray
theorem zero44 : (Tryd.prog.info? 171).bind (·.zero) = some (.agg zc44) := by kernel_rfl
theorem Row32.zero (w : World) (t : TypeId) : Row32 (w.alloc (.cells zc44 t)) w.heap.size t (List.replicate 44 0) := heap_alloc_new w _
theorem size44 : (Tryd.prog.info? 171).map (·.size) = some 44 := by kernel_rfl
theorem sized32 {t n : Nat} {l : List Nat} (h : (Tryd.prog.info? t).map (·.size) = some n) (hl : l.length = n) : (Tryd.prog.info? t).map (·.size) = some ((l.map cell32).toArray).size := by simp [h, hl]
def kws (key : List UInt8) (j : Nat) : List Nat := (List.range j).map (kw key)
theorem kws_length (key : List UInt8) (j : Nat) : (kws key j).length = j := by simp [kws]
theorem kws_succ (key : List UInt8) (j : Nat) : kws key (j + 1) = kws key j ++ [kw key j] := by simp [kws, List.range_succ]
theorem kws_at (key : List UInt8) (j i : Nat) (h : i < j) : (kws key j).getD i 0 = kw key i := by simp [kws, h]
def kwsZ (key : List UInt8) (j : Nat) : List Nat := kws key j ++ List.replicate (44 - j) 0
theorem kwsZ_length (key : List UInt8) (j : Nat) (h : j ≤ 44) : (kwsZ key j).length = 44 := by unfold kwsZ; rw [List.length_append, kws_length, List.length_replicate]; omega
theorem kwsZ_at (key : List UInt8) (j i : Nat) (h : i < j) : (kwsZ key j).getD i 0 = kw key i := by
  unfold kwsZ
  rw [List.getD_eq_getElem?_getD, List.getElem?_append_left (by rw [kws_length]; exact h), ← List.getD_eq_getElem?_getD, kws_at key j i h]
theorem kwsZ_set (key : List UInt8) (j : Nat) (h : j < 44) : (kwsZ key j).set j (kw key j) = kwsZ key (j + 1) := by
  unfold kwsZ
  have := set_zero32 (kws key j) 44 (kw key j) (by rw [kws_length]; exact h)
  rw [kws_length] at this
  rw [this, kws_succ]
theorem kwsZ_all (key : List UInt8) : kwsZ key 44 = kws key 44 := by simp [kwsZ]
theorem kwsZ_zero (key : List UInt8) : kwsZ key 0 = List.replicate 44 0 := by simp [kwsZ, kws]
attribute [irreducible] kws kwsZ
attribute [local irreducible] kw
theorem kwsZ_step {w : World} {g : Nat} {t : TypeId} {key : List UInt8} {j : Nat} (hj : j < 44) (h : Row32 w g t (kwsZ key j)) (x : Int) (hx : x = (kw key j : Nat)) : Row32 (w.setCell ⟨g, j, none⟩ (.int .u32 x)) g t (kwsZ key (j + 1)) := by
  have := h.set_ j x _ hx
  rw [kwsZ_set key j hj] at this
  exact this
theorem tm_two_right : ∀ x, x < 256 → tm x 2 = xt x := by decide +kernel
set_option maxRecDepth 100000 in
set_option maxHeartbeats 2000000 in
theorem keyWords_any (w : World) (k o : Nat) (s : ByteArray) (hs : s.size = 16) (hb : Bytes w k o boxT) (hk : k < w.heap.size) :
    Calls Tryd.prog 117 #[.pointer (some ⟨k, o, none⟩), .string s] w fun e w' => e = .returned (.agg ((kws s.data.toList 44).map cell32).toArray) ∧ Ext w w' := by
  have hz := zero_run zero44
  have hsl : s.data.toList.length = 16 := by rw [size_list]; exact hs
  have HG : Hid (∀ (i m : Nat), i < 4 → m = 4 * i → ∀ u, Calls Tryd.prog 33 #[.string s, .int .i64 (m : Int)] u fun e w' => e = .returned (.tuple #[.int .u32 (kw s.data.toList i : Nat), .bool true]) ∧ u = w') := Lib.hid (fun i m hi hm u => by
    have h := Get32_any s (m : Int) (by omega) u
    rw [getv_yes (by omega), gets_yes (by omega)] at h
    have e : num (Go.Proofs.YtdnpgmoiapkhnaaDoor.sub s m 4) = kw s.data.toList i := by unfold Go.Proofs.YtdnpgmoiapkhnaaDoor.sub; rw [hm]; exact kw_key hsl i hi
    rw [e] at h
    exact h)
  have HB := Lib.hid (fun u (hu : Ext w u) => hb.below hu hk)
  have HP := Lib.hid (fun i (h4 : 4 ≤ i) (hi : i < 44) => kw_plain hsl i h4 hi)
  have HF := Lib.hid (fun i (h4 : 4 ≤ i) (hi : i < 44) => kw_four hsl i h4 hi)
  have HL := Lib.hid (kw_lt s.data.toList)
  clear hs hb hk hsl
  generalize s.data.toList = key at *
  go_enter Tryd.func117, Tryd.ntmps117
  go_wp2
  go_loopw [8, 6] (fun i r wr => ∃ j : Nat, j ≤ 44 ∧ i = .int .i64 j ∧ r = .int .u8 ((rcon ((j - 1) / 4)).toNat : Int) ∧ Row32 wr (w.heap.size + 1) 171 (kwsZ key j) ∧ Row32 wr w.heap.size 171 (List.replicate 44 0) ∧ Ext w wr) (fun i _ _ => 44 - (intOf i).toNat)
  case atStart => exact ⟨0, Nat.zero_le _, rfl, rfl, by rw [kwsZ_zero]; simpa using Row32.zero (w.alloc _) 171, (Row32.zero w _).alloc _, ((Ext.refl w).alloc _).alloc _⟩
  case round =>
    obtain ⟨j, hj, rfl, rfl, hrow, hres, hext⟩ := hrel
    by_cases hlt : j < 44
    · have hc := hrow.cell j (by rw [kwsZ_length key j hj]; exact hlt)
      have hf := hrow.frozen j
      generalize (kwsZ key j).getD j 0 = old at *
      have HS := Lib.hid (fun q x hx => kwsZ_step hlt (hrow.drewN q) x hx)
      have HRes := Lib.hid hres; have HE := Lib.hid hext
      clear hres hext
      by_cases h4 : j < 4
      · obtain ⟨m, hm⟩ : ∃ m : Nat, 4 * (j : Int) = (m : Int) := ⟨4 * j, by omega⟩
        have HT := Lib.hid (HG.out j m h4 (by omega))
        have hrc : (j + 1 - 1) / 4 = (j - 1) / 4 := by omega
        have HR := Lib.hid hrc
        clear hrow hrc
        go_wp2_with (go_at_call 33; refine (HT.out _).mono ?_; rintro e w1 ⟨rfl, rfl⟩)
        go_roundw
        case rel => exact ⟨j + 1, by omega, by go_num, by rw [HR.out], HS.out 0 _ rfl, HRes.out.other (by omega) _ _, HE.out.setCell (by simp) _⟩
        case measure => simp [intOf]; omega
      · have h4i : ¬ (j : Int) < 4 := by omega
        obtain ⟨p, hp⟩ : ∃ p : Nat, (j : Int) - 4 = (p : Int) := ⟨j - 4, by omega⟩
        obtain ⟨s1, hs1⟩ : ∃ p : Nat, (j : Int) - 1 = (p : Int) := ⟨j - 1, by omega⟩
        have cp := hrow.cell p (by rw [kwsZ_length key j hj]; omega)
        have cs := hrow.cell s1 (by rw [kwsZ_length key j hj]; omega)
        rw [kwsZ_at key j p (by omega)] at cp
        rw [kwsZ_at key j s1 (by omega)] at cs
        have lp := HL.out p; have ls := HL.out s1
        have HPj := HP.out j (by omega) hlt
        have HFj := HF.out j (by omega) hlt
        rw [show j - 4 = p by omega, show j - 1 = s1 by omega] at HPj HFj
        have HPj := Lib.hid HPj; have HFj := Lib.hid HFj
        generalize kw key p = a at *
        generalize kw key s1 = b at *
        have hpl : (p : Int) < 44 := by omega
        have hsl : (s1 : Int) < 44 := by omega
        have hjl : (j : Int) < 44 := by omega
        have wp : IntKind.i64.wrap (p : Int) = (p : Int) := IntWalk.i64_in _ ⟨by omega, by omega⟩
        have ws : IntKind.i64.wrap (s1 : Int) = (s1 : Int) := IntWalk.i64_in _ ⟨by omega, by omega⟩
        clear hrow
        by_cases hm : j % 4 = 0
        · have hmi : (j : Int) % 4 = 0 := by omega
          have hrc : (j + 1 - 1) / 4 = s1 / 4 + 1 := by omega
          rw [show j - 1 = s1 by omega]
          have HR := Lib.hid hrc
          have e := HFj.out hm
          have hrl := (rcon (s1 / 4)).toNat_lt
          have hd : (rcon (s1 / 4 + 1)).toNat = xt (rcon (s1 / 4)).toNat := by rw [rcon_double, tm_two_right _ hrl]
          have HD := Lib.hid hd
          clear hrc hd
          generalize (rcon (s1 / 4)).toNat = r at *
          have hrot := rot_lt b 24 ls
          have hbw := bw_lt (rot b 24) 4
          have T1 : Hid (∀ u, Calls Tryd.prog 126 #[.int .u32 (b : Int), .int .i64 (-8)] u fun e w' => e = .returned (.int .u32 (rot b 24 : Nat)) ∧ u = w') := Lib.hid (fun u => turn_any b ls (-8) u)
          have T2 := Lib.hid (fun u (hu : Ext w u) => boxedWord_any u k o (rot b 24) hrot (HB.out u hu))
          generalize bw (rot b 24) 4 = d at *
          have hbw : d < 4294967296 := hbw
          have x1 := u32_xor_nat a d lp hbw
          have hx1 : a ^^^ d < 4294967296 := Nat.xor_lt_two_pow (n := 32) lp hbw
          have x2 := u32_xor_nat (a ^^^ d) (r * 16777216) hx1 (by omega)
          rw [← e] at x2
          have hrw : IntKind.u32.wrap (r : Int) = (r : Int) := IntWalk.u32_in _ ⟨by omega, by omega⟩
          have hrs : IntKind.u32.wrap ((r : Int) * 16777216) = ((r * 16777216 : Nat) : Int) := by rw [IntWalk.u32_in _ ⟨by omega, by omega⟩]; omega
          go_wp2
          go_region_with (first
            | (go_at_call 126; refine (T1.out _).mono ?_; rintro e w1 ⟨rfl, rfl⟩)
            | (go_at_call 135; refine (T2.out _ (HE.out.drewN 1)).mono ?_; rintro e w1 ⟨rfl, q, rfl⟩))
          all_goals
            clear x1 cp cs hc
            go_wp2_with (go_at_call 134; refine (double_any r hrl _).mono ?_; rintro e w1 ⟨rfl, rfl⟩)
            go_roundw
            case rel => exact ⟨j + 1, by omega, by go_num, by rw [HR.out, HD.out], HS.out _ _ (by first | rfl | exact x2), HRes.out.other (by omega) _ _, (HE.out.drewN _).setCell (by simp) _⟩
            case measure => simp [intOf]; omega
        · have hmi : ((j : Int) % 4 == 0) = false := by simp; omega
          have hrc : (j + 1 - 1) / 4 = s1 / 4 := by omega
          rw [show j - 1 = s1 by omega]
          have HR := Lib.hid hrc
          have e := HPj.out hm
          have x1 := u32_xor_nat a b lp ls
          rw [← e] at x1
          clear hrc
          go_wp2
          go_region
          go_wp2
          go_roundw
          case rel => exact ⟨j + 1, by omega, by go_num, by rw [HR.out], HS.out 0 _ (by first | exact x1 | rw [e]), (HRes.out.other (by omega) _ _).drew, (HE.out.setCell (by simp) _).drew⟩
          case measure => simp [intOf]; omega
    · obtain rfl : j = 44 := by omega
      rw [kwsZ_all] at hrow
      have e44 : ((44 : Nat) : Int) = 44 := rfl
      rw [e44]
      clear e44
      go_wp2_with (first
        | (refine wpList_load_row rfl 171 (.tmp 5) rfl _ rfl 171 _ (0, 0) _ hrow Tryd.underlying171 rfl (sized32 size44 (kws_length key 44)) ?_)
        | (refine wpList_store_row rfl 171 (.tmp 4) (.tmp 59) rfl w.heap.size _ rfl rfl 171 _ hres (sized32 size44 (kws_length key 44)) (by simp [kws_length]) (cells32_one _) ?_))
      exact bodyPost_ret (results_cell_row rfl _ _ w.heap.size 171 _ (0, 0) _ rfl (setRow_heap _ _ _ _ _ _ hres) Tryd.underlying171 rfl (sized32 size44 (kws_length key 44))) rfl ⟨rfl, hext.setRow (Nat.le_refl _) _⟩
end Go.Proofs.YtdnpgmoiapkhnaaDoor
end

section
namespace Go.Proofs.YtdnpgmoiapkhnaaDoor
open Go.RowKit
attribute [local irreducible] rkey expand enc dec kw
theorem info32s : (Tryd.prog.info? 29).map (·.size) = some 1 := by kernel_rfl
/-- An array of numbers, read by value. -/
theorem index_words (t n : Nat) (ht : Tryd.prog.underlying t = some (.array n 29)) (L : List Nat) (hL : L.length = n) (i : Nat) (hi : i < n) (w : World) :
    (Instr.index t (.agg (L.map cell32).toArray) (.int .i64 (i : Int))).run Tryd.prog w = .ok (.int .u32 (L.getD i 0 : Nat)) w := by
  have hi2 : i < L.length := by omega
  have hu2 := Tryd.underlying29
  have hg : L.getD i 0 = L[i] := by rw [List.getD_eq_getElem?_getD, List.getElem?_eq_getElem hi2]; rfl
  rw [hg]
  cases hq : Tryd.prog.info? 29 with
  | none => have := info32s; simp [hq] at this
  | some d =>
    have hs : d.size = 1 := by have := info32s; simpa [hq] using this
    simp [Instr.index, part, isAgg, run_underlying ht, run_underlying hu2, sizeOf, typeInfo, hq, hs, hL, asIntOf, go_sem, hi, cell32]
theorem four_of (l : List UInt8) (h : 4 ≤ l.length) : l.take 4 = [l.getD 0 0, l.getD 1 0, l.getD 2 0, l.getD 3 0] := by
  match l, h with
  | a :: b :: c :: d :: r, _ => simp
theorem take_kw {key : List UInt8} (h : key.length = 16) (j : Nat) (hj : j < 44) : (expand key 40).take (4 * (j + 1)) = (expand key 40).take (4 * j) ++ be 4 (kw key j) := by
  have hl := expand_length h 40
  rw [show 4 * (j + 1) = 4 * j + 4 by omega, List.take_add, four_of _ (by rw [List.length_drop]; omega)]
  unfold kw eB
  rw [be_w4]
  simp only [List.getD_eq_getElem?_getD, List.getElem?_drop, Nat.add_zero]
theorem be_len (n : Nat) : (be 4 n).length = 4 := be_length 4 n
set_option maxRecDepth 100000 in
set_option maxHeartbeats 1000000 in
theorem keyBytes_any (w : World) (key : List UInt8) (h : key.length = 16) :
    Calls Tryd.prog 116 #[.agg ((kws key 44).map cell32).toArray] w fun e w' => e = .returned (.string ⟨(expand key 40).toArray⟩) ∧ Ext w w' := by
  have HT := Lib.hid (fun j hj => take_kw h j hj)
  have HL := Lib.hid (expand_length h 40)
  have HI := Lib.hid (fun i (hi : i < 44) u => (index_words 171 44 Tryd.underlying171 (kws key 44) (kws_length key 44) i hi u).trans (by rw [kws_at key 44 i hi]))
  have HS := Lib.hid (sized32 size44 (kws_length key 44))
  have hr0 : Row32 (w.alloc (.cells ((kws key 44).map cell32).toArray 171)) w.heap.size 171 (kws key 44) := Row32.new w _ _
  have HR := Lib.hid (hr0.alloc (.cells #[.pointer none, .slice none 0 0] 97))
  have hb0 := IsB.new (w.alloc (.cells ((kws key 44).map cell32).toArray 171)) w.heap.size (by simp)
  have HB := Lib.hid hb0
  generalize expand key 40 = E at *
  clear h hr0 hb0
  go_enter Tryd.func116, Tryd.ntmps116
  go_wp2_with (refine wpList_load_row rfl 171 (.tmp 1) rfl w.heap.size rfl 171 _ (0, 0) _ HR.out Tryd.underlying171 rfl HS.out ?_)
  go_loopw [7] (fun i wr => ∃ j : Nat, j ≤ 44 ∧ i = .int .i64 j ∧ IsB wr w.heap.size (w.heap.size + 1) (E.take (4 * j)) ∧ Ext w wr) (fun i _ => 44 - (intOf i).toNat)
  case atStart => exact ⟨0, Nat.zero_le _, rfl, by simpa using HB.out, ((Ext.refl w).alloc _).alloc _⟩
  case round =>
    obtain ⟨j, hj, rfl, hb, hext⟩ := hrel
    have HB := Lib.hid hb; have HE := Lib.hid hext
    clear hb hext
    by_cases hlt : j < 44
    · have hix := HI.out j hlt
      have HTj := Lib.hid (HT.out j hlt)
      have H2 : Hid ((E.take (4 * j)).length + (be 4 (kw key j)).length ≤ 140737488355328) := Lib.hid (by rw [List.length_take, be_length]; omega)
      generalize kw key j = n at *
      go_wp2_with (first
        | (go_at_call 40; refine (Put32_any n _).mono ?_; rintro e w1 ⟨rfl, h1⟩; have x1 := Lib.hid (HE.out.trans h1); have b1 := Lib.hid (HB.out.ext h1); clear h1)
        | (go_at_call 55; refine (write_b w.heap.size (w.heap.size + 1) _ _ _ b1.out H2.out x1.out.size).mono ?_; rintro e w2 ⟨rfl, h2, h3⟩))
      go_roundw
      case rel => exact ⟨j + 1, by omega, by go_num, by rw [HTj.out]; exact h2, x1.out.trans3 h3⟩
      case measure => simp [intOf]; omega
    · obtain rfl : j = 44 := by omega
      have hbf := HB.out
      rw [List.take_of_length_le (by rw [HL.out]; omega)] at hbf
      have HBf := Lib.hid hbf
      clear hbf
      have e44 : ((44 : Nat) : Int) = 44 := rfl
      rw [e44]
      clear e44
      go_wp2_with (go_at_call 56; refine (string_b w.heap.size (w.heap.size + 1) _ _ HBf.out HE.out.size).mono ?_; rintro e w2 ⟨rfl, h3⟩)
      go_ret
      exact ⟨rfl, HE.out.trans3 h3⟩
end Go.Proofs.YtdnpgmoiapkhnaaDoor
end

section
namespace Go.Proofs.YtdnpgmoiapkhnaaDoor
open Go.RowKit
attribute [local irreducible] rkey expand enc dec kw
theorem slice_all_at (g o : Nat) (w : World) : (Instr.sliceAt 145 (.pointer (some ⟨g, o, none⟩)) none none none).run Tryd.prog w = .ok (.slice (some ⟨g, o, none⟩) 16 16) w := by
  have hu : Tryd.prog.underlying 145 = some (.array (Tryd.prog.arrayLen 145) (Tryd.prog.elem 145)) := by rw [len16, elem16]; exact Tryd.underlying145
  rw [run_sliceAt_array_all (P := Tryd.prog) w 145 ⟨g, o, none⟩ hu, elem16, size8_run, len16]
  simp only [Result.andThen, slicedAt, Nat.zero_mul]
  rw [if_neg (by omega), Addr.add_mid, Nat.add_zero]
/-- The first 16 i bytes laid. -/
def keysZ (E : List UInt8) (i : Nat) : List UInt8 := E.take (16 * i) ++ List.replicate (176 - 16 * i) 0
theorem keysZ_zero (E : List UInt8) : keysZ E 0 = List.replicate 176 0 := by simp [keysZ]
theorem keysZ_all {E : List UInt8} (h : E.length = 176) : keysZ E 11 = E := by
  unfold keysZ
  rw [List.take_of_length_le (by omega), show 176 - 16 * 11 = 0 from rfl, List.replicate_zero, List.append_nil]
theorem keysZ_length {E : List UInt8} (h : E.length = 176) (i : Nat) (hi : i ≤ 11) : (keysZ E i).length = 176 := by
  unfold keysZ
  rw [List.length_append, List.length_take, List.length_replicate, h]; omega
theorem keysZ_step {E : List UInt8} (h : E.length = 176) (i : Nat) (hi : i < 11) : ((keysZ E i).map cellOf).take (16 * i) ++ ((E.drop (16 * i)).take 16).map cellOf ++ ((keysZ E i).map cellOf).drop (16 * i + 16) = (keysZ E (i + 1)).map cellOf := by
  rw [← List.map_take, ← List.map_drop, ← List.map_append, ← List.map_append]
  congr 1
  unfold keysZ
  have hl : (E.take (16 * i)).length = 16 * i := by rw [List.length_take, h]; omega
  have e1 : (E.take (16 * i)).drop (16 * i + 16) = [] := List.drop_of_length_le (by omega)
  have e2 : (E.take (16 * i)).take (16 * i) = E.take (16 * i) := List.take_of_length_le (by omega)
  rw [List.take_append_of_le_length (by omega), e2, List.drop_append, hl, e1, List.nil_append, List.drop_replicate, ← List.take_add, show 16 * i + 16 = 16 * (i + 1) by omega]
  congr 2
  omega
attribute [irreducible] keysZ
set_option maxRecDepth 100000 in
set_option maxHeartbeats 1000000 in
theorem roundKeys_any (w : World) (k o : Nat) (s : ByteArray) (hs : s.size = 16) (hb : Bytes w k o boxT) (hk : k < w.heap.size) :
    Calls Tryd.prog 92 #[.pointer (some ⟨k, o, none⟩), .string s] w fun e w' => e = .returned (.agg ((expand s.data.toList 40).map cellOf).toArray) ∧ Ext w w' := by
  have hz := zero_run zero176
  have hsl : s.data.toList.length = 16 := by rw [size_list]; exact hs
  have HL : Hid ((expand s.data.toList 40).length = 176) := Lib.hid (by rw [expand_length hsl 40])
  have HW := Lib.hid (fun u (hu : Ext w u) => keyWords_any u k o s hs (hb.below hu hk) (Nat.lt_of_lt_of_le hk hu.size))
  have HY := Lib.hid (fun u => keyBytes_any u s.data.toList hsl)
  clear hs hb hk hsl
  generalize s.data.toList = key at *
  generalize expand key 40 = E at *
  go_enter Tryd.func92, Tryd.ntmps92
  go_wp2_with (first
    | (go_at_call 117; refine (HW.out _ (((Ext.refl w).alloc _).alloc _)).mono ?_; rintro e w1 ⟨rfl, h1⟩)
    | (go_at_call 116; refine (HY.out _).mono ?_; rintro e w2 ⟨rfl, h2⟩))
  have hx2 := h1.trans h2
  have hr0 : Row w2 (w.heap.size + 1) 146 (keysZ E 0) := by rw [keysZ_zero]; have := Row.ext (Row.zero (w.alloc (.cells (zc 176) 146)) 146 176) hx2; simpa using this
  have hs0 : Row w2 w.heap.size 146 (List.replicate 176 0) := ((Row.zero w _ 176).alloc _).ext hx2
  have hx0 : Ext w w2 := (((Ext.refl w).alloc _).alloc _).trans hx2
  obtain ⟨q, hq⟩ : ∃ q : ByteArray, q = ⟨E.toArray⟩ := ⟨_, rfl⟩
  rw [← hq]
  have HQS : Hid (q.size = 176) := Lib.hid (by rw [hq, ← HL.out]; simp [ByteArray.size])
  have HQD : Hid (q.data.toList = E) := Lib.hid (by rw [hq])
  clear hq
  have HR0 := Lib.hid hr0; have HS0 := Lib.hid hs0; have HX0 := Lib.hid hx0
  clear h1 h2 hx2 hr0 hs0 hx0
  go_loopw [12] (fun i wr => ∃ j : Nat, j ≤ 11 ∧ i = .int .i64 j ∧ Row wr (w.heap.size + 1) 146 (keysZ E j) ∧ Row wr w.heap.size 146 (List.replicate 176 0) ∧ Ext w wr) (fun i _ => 11 - (intOf i).toNat)
  case atStart => exact ⟨0, Nat.zero_le _, rfl, HR0.out, HS0.out, HX0.out⟩
  case round =>
    obtain ⟨j, hj, rfl, hrow, hres, hext⟩ := hrel
    clear HR0 HS0 HX0
    by_cases hlt : j < 11
    · have hall := fun u => slice_all_at (w.heap.size + 1) (j * 16) u
      obtain ⟨m, hm⟩ : ∃ m : Nat, 16 * (j : Int) = (m : Int) := ⟨16 * j, by omega⟩
      have hm2 : 16 * j = m := by omega
      have hqs := HQS.out
      have hmq : (m : Int) ≤ 176 := by omega
      have hmn : m ≤ 176 := by omega
      have hjl : (j : Int) < 11 := by omega
      have hcp := fun ty => run_copy_text wr.drew ty (w.heap.size + 1) (j * 16) 16 16 (q.extract m 176) _ 146 hrow.drew.blk (by rw [List.length_map, keysZ_length HL.out j hj]; omega) 16 (by rw [ByteArray.size_extract, hqs]; omega)
      have hE : (q.extract m 176).data.toList = E.drop (16 * j) := by rw [Lib.extract_data, HQD.out, ← hm2, List.take_of_length_le (by rw [List.length_drop, HL.out]; omega)]
      have hwm : IntKind.i64.wrap (m : Int) = (m : Int) := IntWalk.i64_in _ ⟨by omega, by omega⟩
      rw [hE, show j * 16 = 16 * j by omega, keysZ_step HL.out j hlt] at hcp
      rw [show 16 * j = j * 16 by omega] at hcp
      have hrow2 : Row (wr.drew.setRow (w.heap.size + 1) ((keysZ E (j + 1)).map cellOf).toArray) (w.heap.size + 1) 146 (keysZ E (j + 1)) := setRow_heap _ _ _ _ _ _ hrow.drew
      have hres2 : Row (wr.drew.setRow (w.heap.size + 1) ((keysZ E (j + 1)).map cellOf).toArray) w.heap.size 146 (List.replicate 176 0) := (setRow_other _ _ _ _ (by omega)).trans hres.drew
      have HR2 := Lib.hid hrow2; have HS2 := Lib.hid hres2; have HE := Lib.hid hext; have HM2 := Lib.hid hm2
      clear hrow hres hrow2 hres2 hext hm2 hE
      go_wp2
      go_still_tail 7, (by kernel_rfl)
      change wpList _ _ _ _ _ wr.drew
      go_wp2
      go_roundw
      case rel => exact ⟨j + 1, by omega, by go_num, HR2.out, HS2.out, HE.out.drew.setRow (by simp) _⟩
      case measure => simp [intOf]; omega
    · obtain rfl : j = 11 := by omega
      rw [keysZ_all HL.out] at hrow
      have e11 : ((11 : Nat) : Int) = 11 := rfl
      rw [e11]
      clear e11
      go_wp2_with (first
        | (refine wpList_load_row rfl 146 (.tmp 5) rfl _ rfl 146 _ (0, 0) _ hrow Tryd.underlying146 rfl (sized size176 HL.out) ?_)
        | (refine wpList_store_row rfl 146 (.tmp 4) (.tmp 24) rfl w.heap.size _ rfl rfl 146 _ hres (sized size176 HL.out) (by simp [HL.out]) (cells8_one _) ?_))
      exact bodyPost_ret (results_cell_row rfl _ _ w.heap.size 146 _ (0, 0) _ rfl (setRow_heap _ _ _ _ _ _ hres) Tryd.underlying146 rfl (sized size176 HL.out)) rfl ⟨rfl, hext.setRow (Nat.le_refl _) _⟩
end Go.Proofs.YtdnpgmoiapkhnaaDoor
end

section
namespace Go.Proofs.YtdnpgmoiapkhnaaDoor
open Go.RowKit
attribute [local irreducible] rkey expand enc dec
/-- The cells of a cipher whose round keys aren't there yet. -/
def cellsZ : List Value := [.bool true] ++ (boxesL ++ List.replicate 176 0).map cellOf
theorem cellsZ_length : cellsZ.length = 689 := by unfold cellsZ; rw [List.length_append, List.length_map, List.length_append, boxesL_length, List.length_replicate]; rfl
theorem built_cipher : Tryd.prog.built 148 [(0, .bool true), (1, .agg (boxesL.map cellOf).toArray)] = some cellsZ.toArray := by kernel_rfl
attribute [irreducible] cellsZ
theorem cellsZ_box {w : World} {c : Nat} (h : Blk w c 148 cellsZ) : Bytes w c 1 boxT := fun i b hi => by
  have hl : i < boxT.length := (List.getElem?_eq_some_iff.1 hi).1
  rw [boxT_length] at hl
  have e := boxesL_at i hl
  rw [boxT_at i hl] at hi
  apply h.cell
  unfold cellsZ
  rw [List.getElem?_append_right (by simp), List.map_append, List.getElem?_append_left (by rw [List.length_map, boxesL_length]; simp; omega)]
  have e2 : 1 + i - [Value.bool true].length = i := by simp
  rw [e2, List.getElem?_map, e, Option.some.inj hi]
  rfl
theorem cellsZ_keyed (E : List UInt8) (hE : E.length = 176) : cellsZ.take 513 ++ (E.map cellOf ++ cellsZ.drop (513 + (E.map cellOf).length)) = [.bool true] ++ (boxesL ++ E).map cellOf := by
  have e1 : cellsZ.drop (513 + (E.map cellOf).length) = [] := List.drop_of_length_le (by rw [cellsZ_length, List.length_map, hE]; omega)
  have e2 : cellsZ.take 513 = [.bool true] ++ boxesL.map cellOf := by
    unfold cellsZ
    rw [List.map_append, ← List.append_assoc, List.take_append_of_le_length (by rw [List.length_append, List.length_map, boxesL_length]; simp), List.take_of_length_le (by rw [List.length_append, List.length_map, boxesL_length]; simp)]
  rw [e1, e2, List.append_nil, List.map_append, List.append_assoc]
/-- A struct built whose cells are told. -/
theorem wpList_built {P : Program} {ops : Array Oper} {rest : List Oper} {o : Oper} {a : Act} {w : World} {Q : Exit → Act → World → Prop} (hg : o.guard = none) (t : TypeId) (l : List (Nat × Operand)) (ho : o.op = .build t l.toArray) (vs : List (Nat × Value)) (hv : l.map (fun p => (p.1, a.eval p.2)) = vs) (cells : Array Value)
    (hc : P.built t vs = some cells) (h : wpList P ops Q rest (a.put o.dst (.agg cells)) w) : wpList P ops Q (o :: rest) a w := by
  have e : (l.toArray.map fun (i, x) => (i, a.eval x)).toList = vs := by rw [← hv]; simp
  refine wpList_build hg t l.toArray ho (by rw [e, hc]; rfl) ?_
  rw [e, hc]
  exact h
end Go.Proofs.YtdnpgmoiapkhnaaDoor
end

section
namespace Go.Proofs.YtdnpgmoiapkhnaaDoor
open Go.RowKit
attribute [local irreducible] rkey expand enc dec
set_option maxRecDepth 100000 in
set_option maxHeartbeats 1000000 in
theorem New_yes (w : World) (s : ByteArray) (hs : s.size = 16) :
    Calls Tryd.prog 73 #[.string s] w fun e w' => ∃ c, e = .returned (.tuple #[.pointer (some ⟨c, 0, none⟩), .int .i64 0]) ∧ IsCipher w' c s.data.toList ∧ Ext w w' := by
  have hsl : s.data.toList.length = 16 := by rw [size_list]; exact hs
  have HEL : Hid ((expand s.data.toList 40).length = 176) := Lib.hid (by rw [expand_length hsl 40])
  have HK := Lib.hid (fun u c (h : Blk u c 148 cellsZ) => roundKeys_any u c 1 s hs (cellsZ_box h) h.lt)
  go_enter Tryd.func73, Tryd.ntmps73
  go_wp2_with (first
    | (refine wpList_built rfl 148 [(0, .const (.bool true)), (1, .tmp 8)] rfl _ rfl cellsZ.toArray built_cipher ?_)
    | (go_at_call 91; refine (newBoxes_any _).mono ?_; rintro e w1 ⟨rfl, h1⟩)
    | (go_at_call 92; refine (HK.out _ _ (Blk.new w1 cellsZ 148)).mono ?_; rintro e w2 ⟨rfl, h2⟩; have HB := Lib.hid (Blk.new w1 cellsZ 148))
    | (refine wpList_store_mid rfl 146 (.tmp 18) (.tmp 16) rfl w1.heap.size 513 _ rfl rfl ((HB.out.ext h2).there 513 _ (by rw [cellsZ_length, List.size_toArray, List.length_map, HEL.out]; decide)) (sized size176 HEL.out) (cells8_one _) ?_))
  go_ret2
  exact ⟨_, rfl, ⟨hsl, by have h := (HB.out.ext h2).setCells ((expand s.data.toList 40).map cellOf) 513 _ (by rw [cellsZ_length, List.length_map, HEL.out]; decide); rw [cellsZ_keyed _ HEL.out] at h; unfold cipherL; exact h⟩, ((h1.alloc _).trans h2).setCells h1.size _ _⟩
set_option maxRecDepth 100000 in
theorem New_no (w : World) (s : ByteArray) (hs : ¬ s.size = 16) :
    Calls Tryd.prog 73 #[.string s] w fun e w' => e = .returned (.tuple #[.pointer none, .int .i64 2]) ∧ w = w' := by
  have hn := size_ne s hs
  clear hs
  go_enter Tryd.func73, Tryd.ntmps73
  go_wp2
  go_ret2
  exact ⟨rfl, rfl⟩
end Go.Proofs.YtdnpgmoiapkhnaaDoor
end

section
namespace Go.Proofs.YtdnpgmoiapkhnaaDoor
open Go.RowKit
attribute [local irreducible] rkey expand enc dec

theorem room_any (f : Nat) (hfl : f < 4294967296) (w : World) :
    Calls Tryd.prog 74 #[.int .u32 (f : Int)] w fun e w' => e = .returned (.int .u64 (((4294967296 - f) * 16 : Nat) : Int)) ∧ w' = w := by
  obtain ⟨m, hm⟩ : ∃ m : Nat, (4294967295 : Int) - (f : Int) = (m : Int) := ⟨4294967295 - f, by omega⟩
  have e : (((4294967296 - f) * 16 : Nat) : Int) = ((m : Int) + 1) * 16 := by omega
  rw [e]
  have hml : m < 4294967296 := by omega
  clear e
  have w0 : IntKind.u64.wrap (f : Int) = (f : Int) := IntWalk.u64_in _ ⟨by omega, by omega⟩
  have w1 : IntKind.u64.wrap (m : Int) = (m : Int) := IntWalk.u64_in _ ⟨by omega, by omega⟩
  have w2 : IntKind.u64.wrap ((m : Int) + 1) = (m : Int) + 1 := IntWalk.u64_in _ ⟨by omega, by omega⟩
  have w3 : IntKind.u64.wrap (((m : Int) + 1) * 16) = ((m : Int) + 1) * 16 := IntWalk.u64_in _ ⟨by omega, by omega⟩
  clear hfl hml
  go_enter Tryd.func74, Tryd.ntmps74
  go_wp2
  go_ret
  exact ⟨rfl, rfl⟩
set_option maxRecDepth 100000 in
set_option maxHeartbeats 2000000 in
theorem stream_arg (key nonce : ByteArray) (f : Nat) (n : Int) (h : badArg key nonce n) (w : World) :
    Calls Tryd.prog 57 #[.string key, .string nonce, .int .u32 (f : Int), .int .i64 n] w
      fun e w' => e = .returned (.tuple #[.string ⟨#[]⟩, .int .i64 2]) ∧ Ext w w' := by
  go_enter Tryd.func57, Tryd.ntmps57
  by_cases hk : key.size = 16
  · have HNew := Lib.hid (fun u => New_yes u key hk)
    by_cases hn : nonce.size = 12
    · have hni : ((nonce.size : Int) != 12) = false := by simp [hn]
      have hneg : n < 0 := by
        rcases h with h | h | h
        · exact absurd hk h
        · exact absurd hn h
        · exact h
      clear h hk hn
      go_wp2_with (go_at_call 73; refine (HNew.out _).mono ?_; rintro e w1 ⟨c, rfl, hc1, h1x⟩)
      go_ret2
      exact ⟨rfl, h1x⟩
    · have hni : ((nonce.size : Int) != 12) = true := by simp; omega
      clear h hk hn
      go_wp2_with (go_at_call 73; refine (HNew.out _).mono ?_; rintro e w1 ⟨c, rfl, hc1, h1x⟩)
      go_ret2
      exact ⟨rfl, h1x⟩
  · have HNew := Lib.hid (fun u => New_no u key hk)
    clear h hk
    go_wp2_with (go_at_call 73; refine (HNew.out _).mono ?_; rintro e w1 ⟨rfl, rfl⟩)
    go_ret2
    exact ⟨rfl, Ext.refl _⟩
set_option maxRecDepth 100000 in
set_option maxHeartbeats 2000000 in
theorem stream_long (key nonce : ByteArray) (f : Nat) (n : Int) (hk : key.size = 16) (hn : nonce.size = 12) (h0 : 0 ≤ n) (hm : n ≤ 9223372036854775807) (hfl : f < 4294967296) (h : tooLong f n) (w : World) :
    Calls Tryd.prog 57 #[.string key, .string nonce, .int .u32 (f : Int), .int .i64 n] w
      fun e w' => e = .returned (.tuple #[.string ⟨#[]⟩, .int .i64 5]) ∧ Ext w w' := by
  have HNew := Lib.hid (fun u => New_yes u key hk)
  have HRoom := Lib.hid (fun u => room_any f hfl u)
  have hni : ((nonce.size : Int) != 12) = false := by simp [hn]
  obtain ⟨m, rfl⟩ : ∃ m : Nat, n = (m : Int) := ⟨n.toNat, by omega⟩
  have hw0 : IntKind.u64.wrap (m : Int) = (m : Int) := IntWalk.u64_in _ ⟨by omega, by omega⟩
  obtain ⟨r, hr⟩ : ∃ r : Nat, (4294967296 - f) * 16 = r := ⟨_, rfl⟩
  have h2 : ¬ (1048576 : Int) < (m : Int) → (r : Int) < (m : Int) := fun h1 => by
    unfold tooLong at h
    rcases h with h | h
    · exact absurd h h1
    · omega
  rw [hr] at HRoom
  clear h hr hk hn h0 hm hfl
  go_enter Tryd.func57, Tryd.ntmps57
  by_cases h1 : 1048576 < (m : Int)
  · clear h2
    go_wp2_with (go_at_call 73; refine (HNew.out _).mono ?_; rintro e w1 ⟨c, rfl, hc1, h1x⟩)
    go_ret2
    exact ⟨rfl, h1x⟩
  · have h3 := h2 h1
    clear h2
    go_wp2_with (first
      | (go_at_call 73; refine (HNew.out _).mono ?_; rintro e w1 ⟨c, rfl, hc1, h1x⟩)
      | (go_at_call 74; refine (HRoom.out _).mono ?_; rintro e w2 ⟨rfl, rfl⟩))
    go_ret2
    exact ⟨rfl, h1x⟩
end Go.Proofs.YtdnpgmoiapkhnaaDoor
end

section
namespace Go.Proofs.YtdnpgmoiapkhnaaDoor
open Go.RowKit Go.Shelf
attribute [local irreducible] rkey expand enc dec ctrB ctrC ctrL

theorem blocks_any (c : Nat) (nonce : ByteArray) (f : Nat) (w : World) :
    Calls Tryd.prog 76 #[.pointer (some ⟨c, 0, none⟩), .string nonce, .int .u32 (f : Int)] w
      fun e w' => e = .returned (.func (.func 93) #[] #[.pointer (some ⟨w.heap.size + 2, 0, none⟩), .pointer (some ⟨w.heap.size, 0, none⟩), .pointer (some ⟨w.heap.size + 1, 0, none⟩)]) ∧
        w' = ((w.alloc (.cells #[.pointer (some ⟨c, 0, none⟩)] 120)).alloc (.cells #[.string nonce] 9)).alloc (.cells #[.int .u32 (f : Int)] 29) := by
  go_enter Tryd.func76, Tryd.ntmps76
  go_wp2
  go_ret
  exact ⟨rfl, rfl⟩
theorem first_made (u : World) (c : Nat) (key : List UInt8) (nonce : ByteArray) (f n : Nat) (hno : nonce.size = 12) (hfl : f < 4294967296) (hn2 : n ≤ 1048576) (hf : f + blocksOf n ≤ 4294967296) (hB : IsCipher u c key) :
    Calls Tryd.prog 75 #[.func (.func 93) #[] #[.pointer (some ⟨u.heap.size + 2, 0, none⟩), .pointer (some ⟨u.heap.size, 0, none⟩), .pointer (some ⟨u.heap.size + 1, 0, none⟩)], .int .i64 (n : Int)]
      (((u.alloc (.cells #[.pointer (some ⟨c, 0, none⟩)] 120)).alloc (.cells #[.string nonce] 9)).alloc (.cells #[.int .u32 (f : Int)] 29))
      fun e w' => e = .returned (.string ⟨(ctrL key nonce.data.toList f n).toArray⟩) ∧ Ext u w' := by
  have z1 : (u.alloc (.cells #[.pointer (some ⟨c, 0, none⟩)] 120)).heap.size = u.heap.size + 1 := by simp
  have z2 : ((u.alloc (.cells #[.pointer (some ⟨c, 0, none⟩)] 120)).alloc (.cells #[.string nonce] 9)).heap.size = u.heap.size + 2 := by simp
  have hx : Ext u (((u.alloc (.cells #[.pointer (some ⟨c, 0, none⟩)] 120)).alloc (.cells #[.string nonce] 9)).alloc (.cells #[.int .u32 (f : Int)] 29)) := (((Ext.refl _).alloc _).alloc _).alloc _
  have b1 := ((Blk.new u [.pointer (some ⟨c, 0, none⟩)] 120).alloc (.cells #[.string nonce] 9)).alloc (.cells #[.int .u32 (f : Int)] 29)
  have b2 := (Blk.new (u.alloc (.cells #[.pointer (some ⟨c, 0, none⟩)] 120)) [.string nonce] 9).alloc (.cells #[.int .u32 (f : Int)] 29)
  have b3 := Blk.new ((u.alloc (.cells #[.pointer (some ⟨c, 0, none⟩)] 120)).alloc (.cells #[.string nonce] 9)) [.int .u32 (f : Int)] 29
  rw [z1] at b2
  rw [z2] at b3
  exact (first_any (u.heap.size + 2) u.heap.size (u.heap.size + 1) c key hB.size nonce f (4294967296 - f) n _ b3.lt b1.lt b2.lt hno (by omega) (by omega) hn2 (by unfold blocksOf at hf; omega) (hB.ext hx) (b3.cell 0 _ rfl) (b1.cell 0 _ rfl) (b2.cell 0 _ rfl)).mono fun e w' h => ⟨h.1, hx.trans h.2⟩
set_option maxRecDepth 100000 in
set_option maxHeartbeats 2000000 in
theorem stream_yes (key nonce : ByteArray) (f n : Nat) (hk : key.size = 16) (hn : nonce.size = 12) (hn2 : n ≤ 1048576) (hfl : f < 4294967296) (hf : f + blocksOf n ≤ 4294967296) (w : World) :
    Calls Tryd.prog 57 #[.string key, .string nonce, .int .u32 (f : Int), .int .i64 (n : Int)] w
      fun e w' => e = .returned (.tuple #[.string ⟨(ctrL key.data.toList nonce.data.toList f n).toArray⟩, .int .i64 0]) ∧ Ext w w' := by
  have hni : ((nonce.size : Int) != 12) = false := by simp [hn]
  have hkl : key.data.toList.length = 16 := by rw [size_list]; exact hk
  have HNew := Lib.hid (fun u => New_yes u key hk)
  have HRoom := Lib.hid (fun u => room_any f hfl u)
  have hw0 : IntKind.u64.wrap (n : Int) = (n : Int) := IntWalk.u64_in _ ⟨by omega, by omega⟩
  obtain ⟨r, hr⟩ : ∃ r : Nat, (4294967296 - f) * 16 = r := ⟨_, rfl⟩
  have hnr : (n : Int) ≤ (r : Int) := by unfold blocksOf at hf; omega
  have hn0 : ¬ (n : Int) < 0 := by omega
  have hn3 : (n : Int) ≤ 1048576 := by omega
  rw [hr] at HRoom
  have HF := Lib.hid (fun u c (gB : IsCipher u c key.data.toList) => first_made u c key.data.toList nonce f n hn hfl hn2 hf gB)
  clear hr hk hn hn2 hfl hf hkl hn0
  go_enter Tryd.func57, Tryd.ntmps57
  go_wp2_with (first
    | (go_at_call 73; refine (HNew.out _).mono ?_; rintro e w1 ⟨c, rfl, hc1, h1x⟩)
    | (go_at_call 74; refine (HRoom.out _).mono ?_; rintro e w2 ⟨rfl, rfl⟩)
    | (go_at_call 76; refine (blocks_any _ _ _ _).mono ?_; rintro e w3 ⟨rfl, rfl⟩)
    | (go_at_call 75; refine (HF.out _ _ hc1).mono ?_; rintro e w4 ⟨rfl, h4x⟩))
  go_ret2
  exact ⟨rfl, h1x.trans h4x⟩
end Go.Proofs.YtdnpgmoiapkhnaaDoor
end

section
namespace Go.Proofs.YtdnpgmoiapkhnaaDoor
open Go.RowKit
attribute [local irreducible] rkey expand enc dec ctrB ctrC ctrL xorL

set_option maxRecDepth 100000 in
set_option maxHeartbeats 1000000 in
theorem turn_yes (key nonce s : ByteArray) (f : Nat) (hk : key.size = 16) (hn : nonce.size = 12) (hn2 : s.size ≤ 1048576) (hfl : f < 4294967296) (hf : f + blocksOf s.size ≤ 4294967296) (w : World) :
    Calls Tryd.prog 39 #[.string key, .string nonce, .int .u32 (f : Int), .string s] w
      fun e w' => e = .returned (.tuple #[.string ⟨(turnL key.data.toList nonce.data.toList f s.data.toList).toArray⟩, .int .i64 0]) ∧ Ext w w' := by
  have HS := Lib.hid (fun u => stream_yes key nonce f s.size hk hn hn2 hfl hf u)
  have hkl : key.data.toList.length = 16 := by rw [size_list]; exact hk
  have HX := Lib.hid (fun u => xor_yes s ⟨(ctrL key.data.toList nonce.data.toList f s.size).toArray⟩ ((txt_size _).trans (ctrL_length hkl _ _ _)).symm (by omega) u)
  unfold turnL
  rw [size_list]
  clear hkl
  go_enter Tryd.func39, Tryd.ntmps39
  go_wp2_with (first
    | (go_at_call 57; refine (HS.out _).mono ?_; rintro e w1 ⟨rfl, h1⟩)
    | (go_at_call 58; refine (HX.out _).mono ?_; rintro e w2 ⟨rfl, h2⟩))
  go_ret2
  exact ⟨rfl, h1.trans h2⟩
theorem turn_err (key nonce s : ByteArray) (f : Nat) (c : Int) (hc : (c == 0) = false) (w : World)
    (h : ∀ u, Calls Tryd.prog 57 #[.string key, .string nonce, .int .u32 (f : Int), .int .i64 (s.size : Int)] u fun e w' => e = .returned (.tuple #[.string ⟨#[]⟩, .int .i64 c]) ∧ Ext u w') :
    Calls Tryd.prog 39 #[.string key, .string nonce, .int .u32 (f : Int), .string s] w
      fun e w' => e = .returned (.tuple #[.string ⟨#[]⟩, .int .i64 c]) ∧ Ext w w' := by
  have hne : (c != 0) = true := by simp [bne, hc]
  clear hc
  go_enter Tryd.func39, Tryd.ntmps39
  go_wp2_with (go_at_call 57; refine (h _).mono ?_; rintro e w1 ⟨rfl, h1⟩)
  go_ret2
  exact ⟨rfl, h1⟩
end Go.Proofs.YtdnpgmoiapkhnaaDoor
end

section
namespace Go.Proofs.YtdnpgmoiapkhnaaDoor
open Go.RowKit
attribute [local irreducible] rkey expand enc dec ctrB ctrC ctrL xorL turnL

/-- What the program's Turn gives. -/
def TurnsTo (K P : ByteArray) (f : Nat) (S X : ByteArray) : Prop :=
  ∀ u, Calls Tryd.prog 39 #[.string K, .string P, .int .u32 (f : Int), .string S] u fun e w' => e = .returned (.tuple #[.string X, .int .i64 0]) ∧ Ext u w'
theorem TurnsTo.out {K P : ByteArray} {f : Nat} {S X : ByteArray} (h : TurnsTo K P f S X) (u : World) :
    Calls Tryd.prog 39 #[.string K, .string P, .int .u32 (f : Int), .string S] u fun e w' => e = .returned (.tuple #[.string X, .int .i64 0]) ∧ Ext u w' := h u
/-- The text that it gives. -/
def turnT (K P : ByteArray) (f : Nat) (S : ByteArray) : ByteArray := ⟨(turnL K.data.toList P.data.toList f S.data.toList).toArray⟩
theorem turnT_to (K P : ByteArray) (f : Nat) (S : ByteArray) (hK : K.size = 16) (hP : P.size = 12) (hs : S.size ≤ 1048576) (hf : f + blocksOf S.size ≤ 4294967296) (hfl : f < 4294967296) : TurnsTo K P f S (turnT K P f S) :=
  fun u => turn_yes K P S f hK hP hs hfl hf u
theorem turnT_size (K P : ByteArray) (f : Nat) (S : ByteArray) (hK : K.size = 16) : (turnT K P f S).size = S.size := by
  unfold turnT; rw [txt_size, turnL_length (by rw [size_list]; exact hK), size_list]
theorem turnT_twice (K P : ByteArray) (f : Nat) (S : ByteArray) (hK : K.size = 16) : turnT K P f (turnT K P f S) = S := by
  have h := turnL_twice (key := K.data.toList) (by rw [size_list]; exact hK) P.data.toList f S.data.toList
  unfold turnT
  exact congrArg (fun l : List UInt8 => (⟨l.toArray⟩ : ByteArray)) h
theorem turnT_two (K P : ByteArray) (f : Nat) (L Q : ByteArray) (o : Nat) (S : ByteArray) (hK : K.size = 16) (hL : L.size = 16) : turnT L Q o (turnT K P f S) = turnT K P f (turnT L Q o S) := by
  have h := turnL_two (key := K.data.toList) (by rw [size_list]; exact hK) P.data.toList f S.data.toList (l := L.data.toList) (by rw [size_list]; exact hL) Q.data.toList o
  unfold turnT
  exact congrArg (fun l : List UInt8 => (⟨l.toArray⟩ : ByteArray)) h
theorem turnT_cut (K P : ByteArray) (f : Nat) (S : ByteArray) (hK : K.size = 16) (k : Nat) (hk : 16 * k ≤ S.size) : turnT K P f (S.extract 0 (16 * k)) ++ turnT K P (f + k) (S.extract (16 * k) S.size) = turnT K P f S := by
  have h := turnL_cut (key := K.data.toList) (by rw [size_list]; exact hK) P.data.toList f S.data.toList k (by rw [size_list]; exact hk)
  have e1 : (S.extract 0 (16 * k)).data.toList = S.data.toList.take (16 * k) := by rw [Lib.extract_data]; simp
  have e2 : (S.extract (16 * k) S.size).data.toList = S.data.toList.drop (16 * k) := by
    rw [Lib.extract_data]
    exact List.take_of_length_le (by rw [List.length_drop, size_list]; exact Nat.le_refl _)
  unfold turnT
  rw [e1, e2, str_append, h]
theorem turnT_zero (K P : ByteArray) (f n : Nat) (hK : K.size = 16) : turnT K P f ⟨(List.replicate n 0).toArray⟩ = ⟨(ctrL K.data.toList P.data.toList f n).toArray⟩ := by
  have h := turnL_zero (key := K.data.toList) (by rw [size_list]; exact hK) P.data.toList f n
  unfold turnT
  exact congrArg (fun l : List UInt8 => (⟨l.toArray⟩ : ByteArray)) h
end Go.Proofs.YtdnpgmoiapkhnaaDoor
end

section
namespace Go.Proofs.YtdnpgmoiapkhnaaDoor
open Go.RowKit
attribute [local irreducible] rkey expand enc dec ctrB ctrC ctrL xorL turnL turnT kd t4 t8 env5

def t1 : ByteArray := ⟨#[1]⟩
/-- The tag of an envelope of epoch e, its text turned to body. -/
def tagT (key path : ByteArray) (v : Nat) (a b c d : ByteArray) : ByteArray := ⟨(macL key.data.toList (joinL [t4 path.size, path, t8 v, a, b, c, d])).toArray⟩
theorem tagT_size (key path : ByteArray) (v : Nat) (a b c d : ByteArray) : (tagT key path v a b c d).size = 32 := by unfold tagT; rw [txt_size, macL_length]
/-- An envelope of epoch e, whose key is s. -/
def sealT (s : ByteArray) (e : Nat) (path : ByteArray) (v : Nat) (nonce text : ByteArray) : ByteArray :=
  env5 t1 (t4 e) nonce (turnT (kd s cipB 16) nonce 0 text) (tagT (kd s tagB 32) path v t1 (t4 e) nonce (turnT (kd s cipB 16) nonce 0 text))
theorem t4_size (n : Nat) : (t4 n).size = 4 := by unfold t4; rw [txt_size, be_length]
theorem t8_size (n : Nat) : (t8 n).size = 8 := by unfold t8; rw [txt_size, be_length]
theorem sealT_size (s : ByteArray) (e : Nat) (path : ByteArray) (v : Nat) (nonce text : ByteArray) (hn : nonce.size = 12) : (sealT s e path v nonce text).size = text.size + 49 := by
  unfold sealT
  rw [env5_size, t4_size, hn, turnT_size _ _ _ _ (kd_size _ _ _ (by omega)), tagT_size]
  have : t1.size = 1 := rfl
  omega
theorem joinL_7 (a b c d e f g : ByteArray) : (joinL [a, b, c, d, e, f, g]).length = a.size + (b.size + (c.size + (d.size + (e.size + (f.size + g.size))))) := by
  simp [joinL, List.length_append]
/-! ### Errors -/
theorem close_nil (w : World) (path : ByteArray) (v : Int) (nonce text : ByteArray) :
    Calls Tryd.prog 18 #[.pointer none, .string path, .int .u64 v, .string nonce, .string text] w fun e w' => e = .returned (.tuple #[.string ⟨#[]⟩, .int .i64 1]) ∧ w = w' := by
  go_enter Tryd.func18, Tryd.ntmps18
  go_wp2_with (go_at_call 38; refine (there_nil14 _).mono ?_; rintro e w1 ⟨rfl, rfl⟩)
  go_ret2
  exact ⟨rfl, rfl⟩
theorem close_arg (w : World) (r b : Nat) (L : List (Nat × ByteArray)) (h : IsK w r b L) (path : ByteArray) (v : Int) (nonce text : ByteArray) (hn : nonce.size ≠ 12) :
    Calls Tryd.prog 18 #[.pointer (some ⟨r, 0, none⟩), .string path, .int .u64 v, .string nonce, .string text] w fun e w' => e = .returned (.tuple #[.string ⟨#[]⟩, .int .i64 2]) ∧ Ext w w' := by
  have HT := Lib.hid (there_yes14 w r b L h)
  have hn2 : (nonce.size : Int) ≠ 12 := by omega
  have hn3 : ((nonce.size : Int) == 12) = false := by simpa using hn2
  clear h
  go_enter Tryd.func18, Tryd.ntmps18
  go_wp2_with (go_at_call 38; refine (HT.out).mono ?_; rintro e w1 ⟨rfl, x1⟩)
  go_ret2
  exact ⟨rfl, x1⟩
theorem close_long (w : World) (r b : Nat) (L : List (Nat × ByteArray)) (h : IsK w r b L) (path : ByteArray) (v : Int) (nonce text : ByteArray) (hn : nonce.size = 12) (hl : 1048576 < path.size ∨ 1048576 < text.size) :
    Calls Tryd.prog 18 #[.pointer (some ⟨r, 0, none⟩), .string path, .int .u64 v, .string nonce, .string text] w fun e w' => e = .returned (.tuple #[.string ⟨#[]⟩, .int .i64 5]) ∧ Ext w w' := by
  have HT := Lib.hid (there_yes14 w r b L h)
  have hn2 : (nonce.size : Int) = 12 := by omega
  clear h
  by_cases h1 : 1048576 < path.size
  · have h1i : (1048576 : Int) < (path.size : Int) := by omega
    go_enter Tryd.func18, Tryd.ntmps18
    go_wp2_with (go_at_call 38; refine (HT.out).mono ?_; rintro e w1 ⟨rfl, x1⟩)
    go_ret2
    exact ⟨rfl, x1⟩
  · have h1i : ¬ (1048576 : Int) < (path.size : Int) := by omega
    have h2i : (1048576 : Int) < (text.size : Int) := by omega
    go_enter Tryd.func18, Tryd.ntmps18
    go_wp2_with (go_at_call 38; refine (HT.out).mono ?_; rintro e w1 ⟨rfl, x1⟩)
    go_ret2
    exact ⟨rfl, x1⟩
/-! ### Close -/
set_option maxRecDepth 100000 in
set_option maxHeartbeats 4000000 in
theorem close_yes (w : World) (r b : Nat) (L : List (Nat × ByteArray)) (hL : Laid w) (h : IsK w r b L) (s : ByteArray) (hm : (top (eps L), s) ∈ L) (path : ByteArray) (v : Nat) (nonce text : ByteArray) (hn : nonce.size = 12) (hp : path.size ≤ 1048576) (ht : text.size ≤ 1048576) :
    Calls Tryd.prog 18 #[.pointer (some ⟨r, 0, none⟩), .string path, .int .u64 (v : Int), .string nonce, .string text] w fun e w' => e = .returned (.tuple #[.string (sealT s (top (eps L)) path v nonce text), .int .i64 0]) ∧ Ext w w' := by
  have hn2 : (nonce.size : Int) = 12 := by omega
  have h1i : ¬ (1048576 : Int) < (path.size : Int) := by omega
  have h2i : ¬ (1048576 : Int) < (text.size : Int) := by omega
  have hk1 : (kd s cipB 16).size = 16 := kd_size _ _ _ (by omega)
  have hk2 : (kd s tagB 32).size = 32 := kd_size _ _ _ (by omega)
  have hbs : (turnT (kd s cipB 16) nonce 0 text).size = text.size := turnT_size _ _ _ _ hk1
  have HT := Lib.hid (there_yes14 w r b L h)
  have HN := Lib.hid (fun u (hu : IsK u r b L) => newest_any u r b L hu)
  have HKy := Lib.hid (fun u (hx : Ext w u) (hu : IsK u r b L) => keys_yes u r b L (hL.ext hx) hu (top (eps L)) s hm)
  have HTu := Lib.hid (fun u => turnT_to (kd s cipB 16) nonce 0 text hk1 hn ht (by unfold blocksOf; omega) (by omega) u)
  have HP4 := Lib.hid (fun u => Put32_any (top (eps L)) u)
  have hz := sealT_size s (top (eps L)) path v nonce text hn
  unfold sealT at hz ⊢
  rw [show (⟨(be 4 (top (eps L))).toArray⟩ : ByteArray) = t4 (top (eps L)) by unfold t4; rfl] at HP4
  have htag : ∀ (u : World) (g c : Nat), Ext w u → Texts u ⟨g, 0, none⟩ ([t4 path.size, path, t8 v] ++ [t1, t4 (top (eps L)), nonce, turnT (kd s cipB 16) nonce 0 text]) →
      Calls Tryd.prog 41 #[.string (kd s tagB 32), .slice (some ⟨g, 0, none⟩) 7 c] u fun e w' => e = .returned (.string (tagT (kd s tagB 32) path v t1 (t4 (top (eps L))) nonce (turnT (kd s cipB 16) nonce 0 text))) ∧ Ext u w' := fun u g c hx hT =>
    Of_mac u _ _ [t4 path.size, path, t8 v, t1, t4 (top (eps L)), nonce, turnT (kd s cipB 16) nonce 0 text] (hL.ext hx) (by rw [hk2]; omega) (.inr ⟨⟨g, 0, none⟩, c, rfl, hT, by simp⟩) (by
      rw [joinL_7, t4_size, t8_size, t4_size, hbs, hn]
      have : t1.size = 1 := rfl
      omega)
  have HTag := Lib.hid htag
  have HK := Lib.hid h
  have HA := Lib.hid (fun u A B C D T => ahead_any u A B C D T)
  have HG := Lib.hid (fun u g (hb : Blk u g 9 ([t1, t4 (top (eps L)), nonce, turnT (kd s cipB 16) nonce 0 text].map Value.string)) => tagged_any u path v g _ hp hb rfl)
  clear h hL hm hk1 hk2 hbs htag
  unfold t1 at *
  generalize tagT (kd s tagB 32) path v ⟨#[1]⟩ (t4 (top (eps L))) nonce (turnT (kd s cipB 16) nonce 0 text) = X at *
  generalize turnT (kd s cipB 16) nonce 0 text = D at *
  generalize kd s cipB 16 = K1 at *
  generalize kd s tagB 32 = K2 at *
  generalize t4 (top (eps L)) = E at *
  generalize top (eps L) = tp at *
  have HB := Lib.hid (fun u => bytes_any14 u ⟨#[1]⟩ E nonce D X (by rw [hz]; omega))
  generalize env5 ⟨#[1]⟩ E nonce D X = Y at *
  clear hz
  go_enter Tryd.func18, Tryd.ntmps18
  go_wp2_with (first
    | (go_at_call 38; refine (HT.out).mono ?_; rintro e w1 ⟨rfl, x1⟩)
    | (go_at_call 20; refine (HN.out _ (HK.out.ext x1)).mono ?_; rintro e w2 ⟨rfl, x2⟩; have y2 := x1.trans x2)
    | (go_at_call 28; refine (HKy.out _ y2 (HK.out.ext y2)).mono ?_; rintro e w3 ⟨rfl, x3⟩; have y3 := y2.trans x3)
    | (go_at_call 39; refine (HTu.out _).mono ?_; rintro e w4 ⟨rfl, x4⟩; have y4 := y3.trans x4)
    | (go_at_call 40; refine (HP4.out _).mono ?_; rintro e w5 ⟨rfl, x5⟩; have y5 := (y4.trans x5).alloc (.cells #[.string ⟨#[1]⟩, .string E, .string nonce, .string D, .string ⟨#[]⟩] 82); have p5 := Blk.new w5 [.string ⟨#[1]⟩, .string E, .string nonce, .string D, .string ⟨#[]⟩] 82; have HPl := Lib.hid (y4.trans x5).size; have a0 := p5.cell 0 _ rfl; have a1 := p5.cell 1 _ rfl; have a2 := p5.cell 2 _ rfl; have a3 := p5.cell 3 _ rfl; have a4 := p5.cell 4 _ rfl; have P5 := Lib.hid p5; clear p5)
    | (go_at_call 43; refine (HA.out _ _ _ _ _ _).mono ?_; rintro e w6 ⟨g6, rfl, b6, q6, x6⟩; have y6 := y5.trans x6)
    | (go_at_call 42; refine (HG.out _ _ b6).mono ?_; rintro e w7 ⟨g7, c7, rfl, k7, x7⟩; have y7 := y6.trans x7)
    | (go_at_call 41; refine (HTag.out _ _ _ y7 k7).mono ?_; rintro e w8 ⟨rfl, x8⟩; have p8 := P5.out.ext ((x6.trans x7).trans x8); have c8 := p8.cell 4 _ rfl; have f8 := p8.frozen 4; have p9 := p8.set_ 4 (.string X); have d0 := p9.cell 0 _ rfl; have d1 := p9.cell 1 _ rfl; have d2 := p9.cell 2 _ rfl; have d3 := p9.cell 3 _ rfl; have d4 := p9.cell 4 _ rfl; have Y8 := Lib.hid ((y7.trans x8).setCell (p := ⟨w5.heap.size, 4, none⟩) HPl.out (.string X)); clear p8 p9)
    | (go_at_call 44; refine (HB.out _).mono ?_; rintro e w9 ⟨rfl, x9⟩))
  go_ret2
  exact ⟨rfl, Y8.out.trans x9⟩
end Go.Proofs.YtdnpgmoiapkhnaaDoor
end

section
namespace Go.Proofs.YtdnpgmoiapkhnaaDoor

theorem num_inj : ∀ (l r : List UInt8), l.length = r.length → num l = num r → l = r
  | [], [], _, _ => rfl
  | [], _ :: _, h, _ => by simp at h
  | _ :: _, [], h, _ => by simp at h
  | a :: l, b :: r, h, e => by
    have hl : l.length = r.length := by simpa using h
    rw [num_cons, num_cons, hl] at e
    have h1 := num_lt r.length l hl
    have h2 := num_lt r.length r rfl
    have hp : 0 < 256 ^ r.length := Nat.pow_pos (by decide)
    have ha : a.toNat = b.toNat := by
      have q1 : (a.toNat * 256 ^ r.length + num l) / 256 ^ r.length = a.toNat := by
        rw [Nat.add_comm, Nat.add_mul_div_right _ _ hp, Nat.div_eq_of_lt h1, Nat.zero_add]
      have q2 : (b.toNat * 256 ^ r.length + num r) / 256 ^ r.length = b.toNat := by
        rw [Nat.add_comm, Nat.add_mul_div_right _ _ hp, Nat.div_eq_of_lt h2, Nat.zero_add]
      rw [← q1, ← q2, e]
    have hb : a = b := UInt8.toNat_inj.1 ha
    subst hb
    rw [num_inj l r hl (by omega)]
theorem be_num (l : List UInt8) (k : Nat) (h : l.length = k) : be k (num l) = l :=
  num_inj _ _ (by rw [be_length, h]) (by rw [num_be, Nat.mod_eq_of_lt (num_lt k l h)])

end Go.Proofs.YtdnpgmoiapkhnaaDoor
end

section
namespace Go.Proofs.YtdnpgmoiapkhnaaDoor
open Go.RowKit
attribute [local irreducible] rkey expand enc dec ctrB ctrC ctrL xorL turnL turnT kd t8

/-- One byte. -/
def b1 (x : UInt8) : ByteArray := ⟨#[x]⟩
/-- A text that is long enough has the form of an envelope, but for its first byte. -/
theorem shape_ex (s : ByteArray) (h : 49 ≤ s.size) : ∃ (x : UInt8) (e : Nat) (C D T : ByteArray), e < 4294967296 ∧ C.size = 12 ∧ T.size = 32 ∧ D.size + 49 = s.size ∧ s = env5 (b1 x) (t4 e) C D T := by
  obtain ⟨l, hl⟩ : ∃ l, s.data.toList = l := ⟨_, rfl⟩
  have hs : l.length = s.size := by rw [← hl, size_list]
  cases l with
  | nil => simp at hs; omega
  | cons x r =>
    rw [List.length_cons] at hs
    refine ⟨x, num (r.take 4), ⟨((r.drop 4).take 12).toArray⟩, ⟨((r.drop 16).take (s.size - 49)).toArray⟩, ⟨(r.drop (s.size - 33)).toArray⟩, num_lt 4 _ (by rw [List.length_take]; omega), ?_, ?_, ?_, ?_⟩
    · rw [txt_size, List.length_take, List.length_drop]; omega
    · rw [txt_size, List.length_drop]; omega
    · rw [txt_size, List.length_take, List.length_drop]; omega
    · apply ByteArray.ext
      apply Array.toList_inj.1
      rw [hl]
      unfold env5 b1 t4
      simp only [be_num (r.take 4) 4 (by rw [List.length_take]; omega)]
      have e1 : (r.drop 16).take (s.size - 49) ++ r.drop (s.size - 33) = r.drop 16 := by
        have : r.drop (s.size - 33) = (r.drop 16).drop (s.size - 49) := by rw [List.drop_drop]; congr 1; omega
        rw [this, List.take_append_drop]
      have e2 : (r.drop 4).take 12 ++ r.drop 16 = r.drop 4 := by
        have : r.drop 16 = (r.drop 4).drop 12 := by rw [List.drop_drop]
        rw [this, List.take_append_drop]
      rw [e1, e2, List.take_append_drop]
      rfl
section
variable {x : UInt8} {e : Nat} {C D T : ByteArray}
theorem partsOf_env (hC : C.size = 12) (hT : T.size = 32) (hD : D.size ≤ 140737488351232) (w : World) :
    Calls Tryd.prog 46 #[.string (env5 (b1 x) (t4 e) C D T)] w fun r w' => r = .returned (.agg #[.string (b1 x), .string (t4 e), .string C, .string D, .string T]) ∧ Ext w w' := by
  have h := partsOf_cut w [x] (be 4 e) C.data.toList D.data.toList T.data.toList rfl (be_length 4 e) (by rw [size_list]; exact hC) (by rw [size_list]; exact hT) (by rw [size_list]; exact hD)
  rw [string_of, string_of, string_of] at h
  exact h
theorem size_lit (n : Nat) (k : Int) (hk : 17 + (n : Int) + 32 = k) (h : n ≤ 140737488351232) (w : World) :
    Calls Tryd.prog 37 #[.int .i64 (n : Int)] w fun e w' => e = .returned (.int .i64 k) ∧ w = w' := by subst hk; exact Size_any n h w
theorem size_zero (w : World) : Calls Tryd.prog 37 #[.int .i64 0] w fun e w' => e = .returned (.int .i64 49) ∧ w = w' := size_lit 0 49 (by decide) (by omega) w
theorem size_max (w : World) : Calls Tryd.prog 37 #[.int .i64 1048576] w fun e w' => e = .returned (.int .i64 1048625) ∧ w = w' := size_lit 1048576 1048625 (by decide) (by omega) w
theorem epoch_len (s : ByteArray) (h : s.size < 49 ∨ 1048625 < s.size) (w : World) :
    Calls Tryd.prog 24 #[.string s] w fun r w' => r = .returned (.tuple #[.int .u32 0, .int .i64 7]) ∧ w = w' := by
  by_cases h1 : s.size < 49
  · have h1i : (s.size : Int) < 49 := by omega
    go_enter Tryd.func24, Tryd.ntmps24
    go_wp2_with (first
      | (go_at_call 37; (with_reducible refine (size_zero _).mono ?_); rintro e w1 ⟨rfl, rfl⟩)
      | (go_at_call 37; (with_reducible refine (size_max _).mono ?_); rintro e w1 ⟨rfl, rfl⟩))
    go_ret2
    exact ⟨rfl, rfl⟩
  · have h1i : ¬ (s.size : Int) < 49 := by omega
    have h2i : (1048625 : Int) < (s.size : Int) := by omega
    go_enter Tryd.func24, Tryd.ntmps24
    go_wp2_with (first
      | (go_at_call 37; (with_reducible refine (size_zero _).mono ?_); rintro e w1 ⟨rfl, rfl⟩)
      | (go_at_call 37; (with_reducible refine (size_max _).mono ?_); rintro e w1 ⟨rfl, rfl⟩))
    go_ret2
    exact ⟨rfl, rfl⟩
theorem b1_ne (hx : x ≠ 1) : ((b1 x).toList == [1]) = false := by
  rw [beq_eq_false_iff_ne, ByteArray.toList_eq]
  intro q
  unfold b1 at q
  simp at q
  exact hx q
theorem epoch_first (hC : C.size = 12) (hT : T.size = 32) (hD : D.size ≤ 1048576) (hx : x ≠ 1) (w : World) :
    Calls Tryd.prog 24 #[.string (env5 (b1 x) (t4 e) C D T)] w fun r w' => r = .returned (.tuple #[.int .u32 0, .int .i64 7]) ∧ Ext w w' := by
  have hz := env5_size (b1 x) (t4 e) C D T
  rw [t4_size, hC, hT, show (b1 x).size = 1 from rfl] at hz
  have HP := Lib.hid (partsOf_env (x := x) (e := e) hC hT (D := D) (by omega) w)
  have hne := b1_ne hx
  have hne2 : ¬ (b1 x).toList = [1] := by simpa using hne
  generalize env5 (b1 x) (t4 e) C D T = S at *
  generalize b1 x = F at *
  generalize t4 e = E at *
  have h1i : ¬ (S.size : Int) < 49 := by omega
  have h2i : ¬ (1048625 : Int) < (S.size : Int) := by omega
  clear hz hC hT hD
  go_enter Tryd.func24, Tryd.ntmps24
  go_wp2_with (first
    | (go_at_call 37; (with_reducible refine (size_zero _).mono ?_); rintro e w1 ⟨rfl, rfl⟩)
    | (go_at_call 37; (with_reducible refine (size_max _).mono ?_); rintro e w1 ⟨rfl, rfl⟩)
    | (go_at_call 46; refine (HP.out).mono ?_; rintro e w2 ⟨rfl, x2⟩; have p2 := Blk.new w2 [.string F, .string E, .string C, .string D, .string T] 82; have a0 := p2.cell 0 _ rfl; have y2 := x2.alloc (.cells #[.string F, .string E, .string C, .string D, .string T] 82); clear p2))
  go_ret2
  exact ⟨rfl, y2⟩
theorem epoch_yes (he : e < 4294967296) (hC : C.size = 12) (hT : T.size = 32) (hD : D.size ≤ 1048576) (w : World) :
    Calls Tryd.prog 24 #[.string (env5 t1 (t4 e) C D T)] w fun r w' => r = .returned (.tuple #[.int .u32 (e : Int), .int .i64 0]) ∧ Ext w w' := by
  have hz := env5_size t1 (t4 e) C D T
  rw [t4_size, hC, hT, show t1.size = 1 from rfl] at hz
  have HP := Lib.hid (partsOf_env (x := 1) (e := e) hC hT (D := D) (by omega) w)
  have HG := Lib.hid (fun u => by
    have := Get32_any ⟨(be 4 e).toArray⟩ 0 (by rw [txt_size, be_length]; omega) u
    rw [(getK_be e he).1, (getK_be e he).2] at this
    exact this)
  rw [show b1 1 = t1 from rfl] at HP
  rw [show (⟨(be 4 e).toArray⟩ : ByteArray) = t4 e by unfold t4; rfl] at HG
  generalize env5 t1 (t4 e) C D T = S at *
  generalize t4 e = E at *
  have h1i : ¬ (S.size : Int) < 49 := by omega
  have h2i : ¬ (1048625 : Int) < (S.size : Int) := by omega
  clear hz hC hT hD
  unfold t1 at *
  go_enter Tryd.func24, Tryd.ntmps24
  go_wp2_with (first
    | (go_at_call 37; (with_reducible refine (size_zero _).mono ?_); rintro e w1 ⟨rfl, rfl⟩)
    | (go_at_call 37; (with_reducible refine (size_max _).mono ?_); rintro e w1 ⟨rfl, rfl⟩)
    | (go_at_call 46; refine (HP.out).mono ?_; rintro e w2 ⟨rfl, x2⟩; have p2 := Blk.new w2 [.string ⟨#[1]⟩, .string E, .string C, .string D, .string T] 82; have a0 := p2.cell 0 _ rfl; have a1 := p2.cell 1 _ rfl; have y2 := x2.alloc (.cells #[.string ⟨#[1]⟩, .string E, .string C, .string D, .string T] 82); clear p2)
    | (go_at_call 33; refine (HG.out _).mono ?_; rintro e w3 ⟨rfl, rfl⟩))
  go_ret2
  exact ⟨rfl, y2⟩
end
end Go.Proofs.YtdnpgmoiapkhnaaDoor
end

section
namespace Go.Proofs.YtdnpgmoiapkhnaaDoor
open Go.RowKit
attribute [local irreducible] rkey expand enc dec ctrB ctrC ctrL xorL turnL turnT kd t4 t8 env5 chk

theorem open_nil (w : World) (path : ByteArray) (v : Int) (s : ByteArray) :
    Calls Tryd.prog 22 #[.pointer none, .string path, .int .u64 v, .string s] w fun e w' => e = .returned (.tuple #[.string ⟨#[]⟩, .int .i64 1]) ∧ w = w' := by
  go_enter Tryd.func22, Tryd.ntmps22
  go_wp2_with (go_at_call 38; refine (there_nil14 _).mono ?_; rintro e w1 ⟨rfl, rfl⟩)
  go_ret2
  exact ⟨rfl, rfl⟩
section
variable {r b : Nat} {L : List (Nat × ByteArray)}
/-- What Epoch refuses Open refuses. -/
theorem open_form (w : World) (h : IsK w r b L) (path : ByteArray) (v : Int) (s : ByteArray) (hE : ∀ u, Calls Tryd.prog 24 #[.string s] u fun r w' => r = .returned (.tuple #[.int .u32 0, .int .i64 7]) ∧ Ext u w') :
    Calls Tryd.prog 22 #[.pointer (some ⟨r, 0, none⟩), .string path, .int .u64 v, .string s] w fun e w' => e = .returned (.tuple #[.string ⟨#[]⟩, .int .i64 7]) ∧ Ext w w' := by
  have HT := Lib.hid (there_yes14 w r b L h)
  have HE := Lib.hid hE
  clear h hE
  go_enter Tryd.func22, Tryd.ntmps22
  go_wp2_with (first
    | (go_at_call 38; refine (HT.out).mono ?_; rintro e w1 ⟨rfl, x1⟩)
    | (go_at_call 24; refine (HE.out _).mono ?_; rintro e w2 ⟨rfl, x2⟩))
  go_ret2
  exact ⟨rfl, x1.trans x2⟩
variable {e : Nat} {C D T : ByteArray}
theorem open_long (w : World) (h : IsK w r b L) (path : ByteArray) (v : Int) (he : e < 4294967296) (hC : C.size = 12) (hT : T.size = 32) (hD : D.size ≤ 1048576) (hp : 1048576 < path.size) :
    Calls Tryd.prog 22 #[.pointer (some ⟨r, 0, none⟩), .string path, .int .u64 v, .string (env5 t1 (t4 e) C D T)] w fun x w' => x = .returned (.tuple #[.string ⟨#[]⟩, .int .i64 5]) ∧ Ext w w' := by
  have HT := Lib.hid (there_yes14 w r b L h)
  have HE := Lib.hid (fun u => epoch_yes he hC hT hD u)
  have hpi : (1048576 : Int) < (path.size : Int) := by omega
  generalize env5 t1 (t4 e) C D T = S at *
  clear h hC hT hD
  go_enter Tryd.func22, Tryd.ntmps22
  go_wp2_with (first
    | (go_at_call 38; refine (HT.out).mono ?_; rintro e w1 ⟨rfl, x1⟩)
    | (go_at_call 24; refine (HE.out _).mono ?_; rintro e w2 ⟨rfl, x2⟩))
  go_ret2
  exact ⟨rfl, x1.trans x2⟩
theorem open_epoch (w : World) (h : IsK w r b L) (path : ByteArray) (v : Int) (he : e < 4294967296) (hC : C.size = 12) (hT : T.size = 32) (hD : D.size ≤ 1048576) (hp : path.size ≤ 1048576) (hn : e ∉ eps L) :
    Calls Tryd.prog 22 #[.pointer (some ⟨r, 0, none⟩), .string path, .int .u64 v, .string (env5 t1 (t4 e) C D T)] w fun x w' => x = .returned (.tuple #[.string ⟨#[]⟩, .int .i64 140]) ∧ Ext w w' := by
  have HT := Lib.hid (there_yes14 w r b L h)
  have HE := Lib.hid (fun u => epoch_yes he hC hT hD u)
  have HK := Lib.hid h
  have HKy := Lib.hid (fun u (hu : IsK u r b L) => keys_no u r b L hu e he hn)
  have hpi : ¬ (1048576 : Int) < (path.size : Int) := by omega
  generalize env5 t1 (t4 e) C D T = S at *
  clear h hC hT hD hn
  go_enter Tryd.func22, Tryd.ntmps22
  go_wp2_with (first
    | (go_at_call 38; refine (HT.out).mono ?_; rintro e w1 ⟨rfl, x1⟩)
    | (go_at_call 24; refine (HE.out _).mono ?_; rintro e w2 ⟨rfl, x2⟩; have y2 := x1.trans x2)
    | (go_at_call 28; refine (HKy.out _ (HK.out.ext y2)).mono ?_; rintro e w3 ⟨rfl, x3⟩))
  go_ret2
  exact ⟨rfl, y2.trans x3⟩
/-- What Open answers where there is a key: by whether the tag is right. -/
def OpenE (ok : Bool) (X : ByteArray) : Value := if ok then .tuple #[.string X, .int .i64 0] else .tuple #[.string ⟨#[]⟩, .int .i64 141]
set_option maxRecDepth 100000 in
set_option maxHeartbeats 4000000 in
theorem open_key (w : World) (hL : Laid w) (h : IsK w r b L) (s : ByteArray) (hm : (e, s) ∈ L) (path : ByteArray) (v : Nat) (hC : C.size = 12) (hT : T.size = 32) (hD : D.size ≤ 1048576) (hp : path.size ≤ 1048576) :
    Calls Tryd.prog 22 #[.pointer (some ⟨r, 0, none⟩), .string path, .int .u64 (v : Int), .string (env5 t1 (t4 e) C D T)] w fun x w' => x = .returned (OpenE (chk T.data.toList (tagT (kd s tagB 32) path v t1 (t4 e) C D).data.toList) (turnT (kd s cipB 16) C 0 D)) ∧ Ext w w' := by
  have he : e < 4294967296 := (h.good.each _ hm).2.1
  have HTh := Lib.hid (there_yes14 w r b L h)
  have HE := Lib.hid (fun u => epoch_yes he hC hT hD u)
  have HP := Lib.hid (fun u => partsOf_env (x := 1) (e := e) hC hT (D := D) (by omega) u)
  rw [show b1 1 = t1 from rfl] at HP
  have HK := Lib.hid h
  have hk1 : (kd s cipB 16).size = 16 := kd_size _ _ _ (by omega)
  have hk2 : (kd s tagB 32).size = 32 := kd_size _ _ _ (by omega)
  have HKy := Lib.hid (fun u (hx : Ext w u) (hu : IsK u r b L) => keys_yes u r b L (hL.ext hx) hu e s hm)
  have HTu := Lib.hid (fun u => turnT_to (kd s cipB 16) C 0 D hk1 hC hD (by unfold blocksOf; omega) (by omega) u)
  have hck : ∀ (u : World) (g c : Nat), Ext w u → Texts u ⟨g, 0, none⟩ ([t4 path.size, path, t8 v] ++ [t1, t4 e, C, D]) →
      Calls Tryd.prog 47 #[.string (kd s tagB 32), .string T, .slice (some ⟨g, 0, none⟩) 7 c] u fun x w' => x = .returned (.bool (chk T.data.toList (tagT (kd s tagB 32) path v t1 (t4 e) C D).data.toList)) ∧ Ext u w' := fun u g c hx hTx =>
    Check_any u _ _ _ [t4 path.size, path, t8 v, t1, t4 e, C, D] (hL.ext hx) (by rw [hk2]; omega) (by omega) (.inr ⟨⟨g, 0, none⟩, c, rfl, hTx, by simp⟩) (by
      rw [joinL_7, t4_size, t8_size, t4_size, hC]
      have : t1.size = 1 := rfl
      omega)
  have HCk := Lib.hid hck
  have HA := Lib.hid (fun u A B C D T => ahead_any u A B C D T)
  have HG := Lib.hid (fun u g (hb : Blk u g 9 ([t1, t4 e, C, D].map Value.string)) => tagged_any u path v g _ hp hb rfl)
  have hpi : ¬ (1048576 : Int) < (path.size : Int) := by omega
  clear h hL hm hk1 hk2 hck hC hT hD hp
  generalize env5 t1 (t4 e) C D T = S at *
  unfold t1 at *
  generalize chk T.data.toList (tagT (kd s tagB 32) path v ⟨#[1]⟩ (t4 e) C D).data.toList = ok at *
  generalize turnT (kd s cipB 16) C 0 D = X at *
  generalize kd s cipB 16 = K1 at *
  generalize kd s tagB 32 = K2 at *
  generalize t4 e = E at *
  go_enter Tryd.func22, Tryd.ntmps22
  go_upto_region 12 with (first
    | (go_at_call 38; refine (HTh.out).mono ?_; rintro e w1 ⟨rfl, x1⟩)
    | (go_at_call 24; refine (HE.out _).mono ?_; rintro e w2 ⟨rfl, x2⟩; have y2 := x1.trans x2)
    | (go_at_call 28; refine (HKy.out _ y2 (HK.out.ext y2)).mono ?_; rintro e w3 ⟨rfl, x3⟩; have y3 := y2.trans x3)
    | (go_at_call 46; refine (HP.out _).mono ?_; rintro e w4 ⟨rfl, x4⟩; have y4 := y3.trans x4))
  have p4 := Blk.new w4 [.string ⟨#[1]⟩, .string E, .string C, .string D, .string T] 82
  have y5 := y4.alloc (.cells #[.string ⟨#[1]⟩, .string E, .string C, .string D, .string T] 82)
  generalize w4.alloc (.cells #[.string ⟨#[1]⟩, .string E, .string C, .string D, .string T] 82) = W at *
  generalize w4.heap.size = P at *
  have HKeep : Hid (∀ u, Ext W u → u.cell? ⟨P, 0, none⟩ = some (.string ⟨#[1]⟩) ∧ u.cell? ⟨P, 1, none⟩ = some (.string E) ∧ u.cell? ⟨P, 2, none⟩ = some (.string C) ∧ u.cell? ⟨P, 3, none⟩ = some (.string D) ∧ u.cell? ⟨P, 4, none⟩ = some (.string T) ∧ Ext W u) :=
    Lib.hid fun u hu => ⟨(p4.ext hu).cell 0 _ rfl, (p4.ext hu).cell 1 _ rfl, (p4.ext hu).cell 2 _ rfl, (p4.ext hu).cell 3 _ rfl, (p4.ext hu).cell 4 _ rfl, hu⟩
  have hS := HKeep.out W.drew (Ext.refl W).drew
  have Y5 := Lib.hid y5
  clear p4 y5 x1 x2 x3 x4 y2 y3 y4
  go_region_held3 (fun u => u.cell? ⟨P, 0, none⟩ = some (.string ⟨#[1]⟩) ∧ u.cell? ⟨P, 1, none⟩ = some (.string E) ∧ u.cell? ⟨P, 2, none⟩ = some (.string C) ∧ u.cell? ⟨P, 3, none⟩ = some (.string D) ∧ u.cell? ⟨P, 4, none⟩ = some (.string T) ∧ Ext W u) (first | exact hS | exact hS1 | exact hS2 | exact hS3 | assumption | exact HKeep.out _ (by repeat' (first | assumption | exact Ext.refl _ | refine Ext.drew ?_ | refine Ext.alloc ?_ _)) | go_keep) (first
    | (go_at_call 43; refine (HA.out _ _ _ _ _ _).mono ?_; rintro e w6 ⟨g6, rfl, b6, q6, x6⟩; have y6 := Ext.trans (a := W) (by repeat' (first | assumption | exact Ext.refl _ | refine Ext.drew ?_ | refine Ext.alloc ?_ _)) x6; have hS1 := HKeep.out _ y6)
    | (go_at_call 42; refine (HG.out _ _ (b6.ext (by repeat' (first | assumption | exact Ext.refl _ | refine Ext.drew ?_ | refine Ext.alloc ?_ _)))).mono ?_; rintro e w7 ⟨g7, c7, rfl, k7, x7⟩; have y7 := y6.trans x7; have hS2 := HKeep.out _ y7)
    | (go_at_call 47; refine (HCk.out _ _ _ (Y5.out.trans y7) k7).mono ?_; rintro e w8 ⟨rfl, x8⟩; have y8 := y7.trans x8; have hS3 := HKeep.out _ y8))
  all_goals
    clear hS hS1 hS2
    obtain ⟨c0, c1, c2, c3, c4, _⟩ := hS3
    cases ok
    · go_wp2
      go_ret2
      exact ⟨rfl, Y5.out.trans y8⟩
    · go_wp2_with (go_at_call 39; refine (HTu.out _).mono ?_; rintro e w9 ⟨rfl, x9⟩)
      go_ret2
      exact ⟨rfl, Y5.out.trans (y8.trans x9)⟩
end
end Go.Proofs.YtdnpgmoiapkhnaaDoor
end

section
namespace Go.Proofs.YtdnpgmoiapkhnaaDoor
open Go.RowKit
attribute [local irreducible] rkey expand enc dec ctrB ctrC ctrL xorL turnL turnT kd t4 t8 env5 chk f32B

/-! ### A nonce -/
/-- The first 12 bytes, with bytes 0 behind. -/
def f12L (s : ByteArray) : List UInt8 := (s.data.toList ++ List.replicate 12 0).take 12
theorem f12L_length (s : ByteArray) : (f12L s).length = 12 := by unfold f12L; rw [List.length_take, List.length_append, List.length_replicate]; omega
def f12B (s : ByteArray) : ByteArray := ⟨(f12L s).toArray⟩
theorem f12B_size (s : ByteArray) : (f12B s).size = 12 := by unfold f12B; rw [txt_size, f12L_length]
theorem make12 (u : World) : (Instr.makeSlice 35 (.int .i64 12) (.int .i64 12)).run Tryd.prog u = .ok (.slice (some ⟨u.heap.size, 0, none⟩) 12 12) (u.alloc (.cells (zc 12) 5)) := by
  have h := make_bytes 12 (by decide) u
  have e : madeCells #[Value.int .u8 0] 12 = zc 12 := by kernel_rfl
  rw [e] at h
  exact h
theorem nonce_any (s : ByteArray) (w : World) : Calls Tryd.prog 19 #[.string s] w fun e w' => e = .returned (.string (f12B s)) ∧ Ext w w' := by
  unfold f12B
  have hmk := make12
  have hr0 := Row.zero w 5 12
  obtain ⟨k, hk⟩ : ∃ k, k = min s.size 12 := ⟨_, rfl⟩
  have hcp := fun ty => run_copy_text (w.alloc (.cells (zc 12) 5)) ty w.heap.size 0 12 12 s _ 5 hr0.blk (by simp) k hk
  have e : ((List.replicate 12 (0 : UInt8)).map cellOf).take 0 ++ (s.data.toList.take k).map cellOf ++ ((List.replicate 12 (0 : UInt8)).map cellOf).drop (0 + k) = (f12L s).map cellOf := by
    rw [List.take_zero, List.nil_append, ← List.map_drop, ← List.map_append]
    congr 1
    unfold f12L
    rw [List.drop_replicate, List.take_append, size_list, List.take_replicate]
    congr 1
    · rcases Nat.le_total s.size 12 with h | h
      · rw [List.take_of_length_le (by rw [size_list]; omega), List.take_of_length_le (by rw [size_list]; omega)]
      · rw [show k = 12 by omega]
    · congr 1; omega
  rw [e] at hcp
  have hr1 : Row ((w.alloc (.cells (zc 12) 5)).setRow w.heap.size ((f12L s).map cellOf).toArray) w.heap.size 5 (f12L s) := setRow_heap _ _ _ _ _ _ hr0
  have ht := hr1.text (P := Tryd.prog) 35 5 9 Tryd.underlying35 Tryd.underlying5 Tryd.underlying9 12 12 (f12L_length s)
  have hx : Ext w ((w.alloc (.cells (zc 12) 5)).setRow w.heap.size ((f12L s).map cellOf).toArray) := ((Ext.refl w).alloc _).setRow (Nat.le_refl _) _
  have HX := Lib.hid hx
  clear hr0 hr1 e hk hx
  go_enter Tryd.func19, Tryd.ntmps19
  go_wp2
  go_ret
  exact ⟨rfl, HX.out⟩
/-! ### Rings -/
/-- Both rings' keys: of the text k, then of these. -/
def ringOf (K : List ByteArray) : Nat → List (Nat × ByteArray)
  | 0 => [(1, f32B ⟨#[107]⟩)]
  | i + 1 => ringOf K i ++ [(i + 2, f32B (K.getD i ⟨#[]⟩))]
theorem ringOf_length (K : List ByteArray) : ∀ i, (ringOf K i).length = i + 1
  | 0 => rfl
  | i + 1 => by rw [ringOf, List.length_append, ringOf_length K i]; rfl
theorem ringOf_top (K : List ByteArray) : ∀ i, top (eps (ringOf K i)) = i + 1
  | 0 => by simp [ringOf, eps, top]
  | i + 1 => by rw [ringOf, top_snoc _ _ _ (by rw [ringOf_top K i]; omega)]
/-- The newest key. -/
def lastOf (K : List ByteArray) : Nat → ByteArray
  | 0 => f32B ⟨#[107]⟩
  | i + 1 => f32B (K.getD i ⟨#[]⟩)
theorem ringOf_last (K : List ByteArray) : ∀ i, (i + 1, lastOf K i) ∈ ringOf K i
  | 0 => by simp [ringOf, lastOf]
  | i + 1 => by simp [ringOf, lastOf]
/-- What rings gives. -/
structure Rings (w w' : World) (L : List (Nat × ByteArray)) (e : Ending) : Prop where
  is : ∃ r b d p c, e = .returned (.tuple #[.pointer (some ⟨r, 0, none⟩), .pointer (some ⟨d, 0, none⟩)]) ∧ IsK w' r b L ∧ IsR w' w.heap.size d p c L ∧ w.heap.size ≤ r ∧ w.heap.size ≤ b
  ext : Ext w w'
theorem IsK.grow9 {w w' : World} {b : Nat} (g : w.grownBy w' (some b)) {B : Nat} {v : World} (hv : Ext v w) (hb : v.heap.size ≤ b) (_ : B = v.heap.size) : Ext v w' := hv.grownBack g hb
theorem Ext.turnedD {v w w' : World} (hv : Ext v w) (t : TurnD v.heap.size w w') : Ext v w' := hv.trans3 t.below
set_option maxRecDepth 100000 in
set_option maxHeartbeats 4000000 in
theorem rings_any (w : World) (p : Option Addr) (c : Nat) (K : List ByteArray) (hP : TextsP w p K) (hl : K.length ≤ 140737488355328) :
    Calls Tryd.prog 17 #[.slice p K.length c] w fun e w' => Rings w w' (ringOf K (min K.length 8)) e := by
  have HP := Lib.hid hP
  have zA := f32B_size ⟨#[107]⟩
  have HF := Lib.hid (fun u => fullK_any ⟨#[107]⟩ u)
  have h0 : ringOf K 0 = [(1, f32B ⟨#[107]⟩)] := rfl
  have H0 := Lib.hid h0
  clear hP h0
  generalize hA : f32B ⟨#[107]⟩ = A at *
  clear hA
  go_enter Tryd.func17, Tryd.ntmps17
  go_wp2_with (first
    | (go_at_call 9; refine (HF.out _).mono ?_; rintro e w1 ⟨rfl, x1⟩)
    | (go_at_call 26; refine (newK_yes _ A zA).mono ?_; rintro e w2 ⟨r, b, rfl, i2, q2, p2, x2⟩; have I2 := Lib.hid i2; have Q2 := Lib.hid (Nat.le_trans x1.size q2); have P2 := Lib.hid (Nat.le_trans x1.size p2); have X2 := Lib.hid (x1.trans x2); clear i2 q2 p2 x1 x2)
    | (go_at_call 8; refine (rnewK_any _ A).mono ?_; rintro e w3 ⟨d, pd, rfl, i3, x3⟩; have D3 := Lib.hid i3; have I3 := Lib.hid (I2.out.ext x3); have X3 := Lib.hid (X2.out.trans x3); clear i3 x3))
  have hD3 : IsR w3 w.heap.size d pd 1 [(1, A)] := ⟨D3.out.ring, D3.out.ents, Nat.le_trans X2.out.size D3.out.low, fun g hg => Nat.le_trans X2.out.size (D3.out.lowp g hg), D3.out.apart⟩
  have D4 := Lib.hid hD3
  clear hD3 D3 I2 X2
  go_loopw [4, 8] (fun kv iv wr => ∃ (i : Nat) (kb : ByteArray) (pd : Option Addr) (cd : Nat), i ≤ min K.length 8 ∧ iv = .int .i64 (i : Int) ∧ kv = .string kb ∧ Hid (IsK wr r b (ringOf K i)) ∧ Hid (IsR wr w.heap.size d pd cd (ringOf K i)) ∧ Hid (Ext w wr)) (fun _ iv _ => 8 - (intOf iv).toNat)
  case atStart => exact ⟨0, A, pd, 1, Nat.zero_le _, rfl, rfl, by rw [H0.out]; exact I3, by rw [H0.out]; exact D4, X3⟩
  case round =>
    obtain ⟨i, kb, pd, cd, hi, rfl, rfl, HK, HD, HX⟩ := hrel
    clear I3 X3 D4
    by_cases hlt : i < min K.length 8
    · have h1 : i < K.length := by omega
      have h1i : (i : Int) < (K.length : Int) := by omega
      have h2i : (i : Int) < 8 := by omega
      obtain ⟨x, hx⟩ : ∃ x, K[i]? = some x := ⟨_, List.getElem?_eq_getElem h1⟩
      obtain ⟨a, rfl, ha, hc⟩ := (HP.out.ext HX.out) i x hx
      have hgd : K.getD i ⟨#[]⟩ = x := by simp [List.getD, hx]
      have hs : ringOf K (i + 1) = ringOf K i ++ [(i + 2, f32B x)] := by rw [ringOf, hgd]
      have HS := Lib.hid hs
      have HFx := Lib.hid (fun u => fullK_any x u)
      have hz := f32B_size x
      have htp := ringOf_top K i
      have hln := ringOf_length K i
      have HRo := Lib.hid (fun u (hu : IsK u r b (ringOf K i)) => by
        have := rotate_yes u r b _ hu (f32B x) hz (by rw [hln]; omega) (by rw [htp]; omega)
        rw [htp] at this
        exact this)
      have HRd := Lib.hid (fun u (hB : w.heap.size ≤ u.heap.size) (hG : GoodK (ringOf K i)) (hu : IsR u w.heap.size d pd cd (ringOf K i)) => by
        have := rrotate_yes u w.heap.size d pd cd _ hB hu hG (f32B x) hz (by rw [hln]; omega) (by rw [htp]; omega)
        rw [htp] at this
        exact this)
      clear hx hgd hs hz htp hln ha
      rw [show i + 1 + 1 = i + 2 from rfl, ← HS.out] at HRo HRd
      generalize f32B x = Bx at *
      generalize hL2 : ringOf K (i + 1) = L2 at *
      have HL2 := Lib.hid hL2
      clear hL2
      generalize ringOf K i = L1 at *
      go_wp2_with (first
        | (go_at_call 9; refine (HFx.out _).mono ?_; rintro e w4 ⟨rfl, x4⟩; have K4 := Lib.hid (HK.out.ext x4); have D4 := Lib.hid (HD.out.ext x4); have X4 := Lib.hid (HX.out.trans x4); clear x4)
        | (go_at_call 21; refine (HRo.out _ K4.out).mono ?_; rintro e w5 ⟨rfl, i5, g5⟩; have K5 := Lib.hid i5; have D5 := Lib.hid (D4.out.grown K4.out.map g5); have X5 := Lib.hid (X4.out.grownBack g5 P2.out); clear i5 g5)
        | (go_at_call 10; refine (HRd.out _ X5.out.size K4.out.good D5.out).mono ?_; rintro e w6 ⟨p6, c6, rfl, i6, t6⟩; have D6 := Lib.hid i6; have K6 := Lib.hid (K5.out.turnD t6); have X6 := Lib.hid (X5.out.turnedD t6); clear i6 t6))
      go_roundw
      case rel => exact ⟨i + 1, Bx, p6, c6, by omega, by go_num, rfl, by rw [HL2.out]; exact K6, by rw [HL2.out]; exact D6, X6⟩
      case measure => simp [intOf]; omega
    · have he : i = min K.length 8 := by omega
      have HE := Lib.hid he
      by_cases h1 : i < K.length
      · have h1i : (i : Int) < (K.length : Int) := by omega
        have h2i : ¬ (i : Int) < 8 := by omega
        clear he
        go_wp2
        go_ret2
        exact ⟨⟨r, b, d, pd, cd, rfl, by rw [← HE.out]; exact HK.out, by rw [← HE.out]; exact HD.out, Q2.out, P2.out⟩, HX.out⟩
      · have h1i : ¬ (i : Int) < (K.length : Int) := by omega
        clear he
        go_wp2
        go_ret2
        exact ⟨⟨r, b, d, pd, cd, rfl, by rw [← HE.out]; exact HK.out, by rw [← HE.out]; exact HD.out, Q2.out, P2.out⟩, HX.out⟩
end Go.Proofs.YtdnpgmoiapkhnaaDoor
end

section
namespace Go.Proofs.YtdnpgmoiapkhnaaDoor
open Go.RowKit

def seK : List UInt8 := [107, 0, 0, 0, 0, 0, 0, 0, 0, 0, 0, 0, 0, 0, 0, 0, 0, 0, 0, 0, 0, 0, 0, 0, 0, 0, 0, 0, 0, 0, 0, 0]
def seiB : List UInt8 := [93, 54, 54, 54, 54, 54, 54, 54, 54, 54, 54, 54, 54, 54, 54, 54, 54, 54, 54, 54, 54, 54, 54, 54, 54, 54, 54, 54, 54, 54, 54, 54, 54, 54, 54, 54, 54, 54, 54, 54, 54, 54, 54, 54, 54, 54, 54, 54, 54, 54, 54, 54, 54, 54, 54, 54, 54, 54, 54, 54, 54, 54, 54, 54]
def seiW : List Nat := [1563833910, 909522486, 909522486, 909522486, 909522486, 909522486, 909522486, 909522486, 909522486, 909522486, 909522486, 909522486, 909522486, 909522486, 909522486, 909522486, 1482941411, 828629987, 3777983320, 3776264696, 2878520065, 2408496505, 1583191976, 4277229273, 3354916032, 2148879784, 54271565, 3627118009, 970721748, 387502154, 2720899341, 2778474484, 1975490473, 1023356010, 2520551847, 1200472809, 3944672126, 3381781786, 2793006780, 2802739345, 3875544543, 2914500485, 2349853181, 2561056535, 2955940313, 3240383950, 1211990414, 3871475755, 2908278417, 2277139514, 1482283053, 3504614643, 3643801514, 3117414545, 987636532, 4231383426, 901358519, 1959151247, 3732185576, 4268888639, 3218368161, 3177082546, 3443369150, 477220250]
def seiS : St := ⟨3690320081, 3937412416, 514508918, 3184350150, 1139450408, 531523931, 3833582886, 4168685675⟩
theorem sei16 : ws seiB 16 = seiW.take 16 := by decide +kernel
theorem sei64 : evalW 48 (seiW.take 16) = seiW := by decide +kernel
theorem seistp : stp seiB init = seiS := stp_by seiB init ⟨1911286378, 793278139, 3795571972, 410869388, 4074524585, 2225668303, 3304848251, 2627226450⟩ seiS (seiW.take 16) seiW sei16 sei64 (by decide) (by kernel_rfl) (by kernel_rfl)
def sciB : List UInt8 := [99, 105, 112, 104, 101, 114, 1, 128, 0, 0, 0, 0, 0, 0, 0, 0, 0, 0, 0, 0, 0, 0, 0, 0, 0, 0, 0, 0, 0, 0, 0, 0, 0, 0, 0, 0, 0, 0, 0, 0, 0, 0, 0, 0, 0, 0, 0, 0, 0, 0, 0, 0, 0, 0, 0, 0, 0, 0, 0, 0, 0, 0, 2, 56]
def sciW : List Nat := [1667854440, 1701970304, 0, 0, 0, 0, 0, 0, 0, 0, 0, 0, 0, 0, 0, 568, 4016975319, 1724711296, 3546993105, 552176895, 853936492, 4159196682, 3315017957, 510135537, 3626778931, 3679193291, 3379767554, 3090173753, 3917197159, 4092399602, 828073133, 934216301, 4127048321, 2675375271, 2116814583, 145235926, 3273546199, 1314413605, 3354763241, 2799996689, 2194232344, 112697213, 3397596085, 4039356518, 4024029059, 4014529658, 3528221636, 2650181033, 2656933925, 3787765914, 2568189135, 3849868443, 3684604529, 3994532142, 411144177, 3844468470, 2006153569, 2828013130, 3277670289, 1022157257, 3357853994, 2142834538, 2565071537, 4207940885]
def sciS : St := ⟨3543095373, 2725614615, 457914746, 2932894931, 1204815395, 3505996631, 2922318552, 2310943884⟩
theorem sci16 : ws sciB 16 = sciW.take 16 := by decide +kernel
theorem sci64 : evalW 48 (sciW.take 16) = sciW := by decide +kernel
theorem scistp : stp sciB seiS = sciS := stp_by sciB seiS ⟨4147742588, 3083169495, 4238373124, 4043512077, 65364987, 2974472700, 3383702962, 2437225505⟩ sciS (sciW.take 16) sciW sci16 sci64 (by decide) (by kernel_rfl) (by kernel_rfl)
def sciM : List UInt8 := [93, 54, 54, 54, 54, 54, 54, 54, 54, 54, 54, 54, 54, 54, 54, 54, 54, 54, 54, 54, 54, 54, 54, 54, 54, 54, 54, 54, 54, 54, 54, 54, 54, 54, 54, 54, 54, 54, 54, 54, 54, 54, 54, 54, 54, 54, 54, 54, 54, 54, 54, 54, 54, 54, 54, 54, 54, 54, 54, 54, 54, 54, 54, 54, 99, 105, 112, 104, 101, 114, 1]
theorem sci_sum : shaL sciM = [211, 47, 88, 77, 162, 117, 148, 23, 27, 75, 57, 122, 174, 208, 108, 211, 71, 208, 6, 35, 208, 249, 67, 87, 174, 47, 10, 216, 137, 190, 52, 140] := by
  have e : (sciM.length + zeros sciM.length + 9) / 64 = 0 + 1 + 1 := by decide
  unfold shaL
  rw [e, folds_succ, folds_succ, folds_zero]
  have e0 : (sciM ++ tailOf sciM.length).take 64 = seiB := by decide +kernel
  have e1 : ((sciM ++ tailOf sciM.length).drop 64).take 64 = sciB := by decide +kernel
  rw [e0, seistp, e1, scistp]
  decide +kernel
def seoB : List UInt8 := [55, 92, 92, 92, 92, 92, 92, 92, 92, 92, 92, 92, 92, 92, 92, 92, 92, 92, 92, 92, 92, 92, 92, 92, 92, 92, 92, 92, 92, 92, 92, 92, 92, 92, 92, 92, 92, 92, 92, 92, 92, 92, 92, 92, 92, 92, 92, 92, 92, 92, 92, 92, 92, 92, 92, 92, 92, 92, 92, 92, 92, 92, 92, 92]
def seoW : List Nat := [928799836, 1549556828, 1549556828, 1549556828, 1549556828, 1549556828, 1549556828, 1549556828, 1549556828, 1549556828, 1549556828, 1549556828, 1549556828, 1549556828, 1549556828, 1549556828, 3717173134, 42962830, 2464068465, 2467512273, 3972999540, 1427315712, 3465327888, 3416618234, 3475631560, 2821720556, 1593996379, 4080105232, 3393495420, 1684267315, 2429117116, 2652269046, 581234668, 3105238267, 4005792767, 1866600382, 3539408382, 1092118001, 2264171653, 531272004, 694236266, 3519650322, 3980066474, 2368404933, 3189821422, 1080638951, 2468100943, 1757531489, 4207382116, 2253513352, 2777168852, 488398703, 569861267, 3011765150, 2116344802, 1147600302, 4284753110, 278747724, 3337896057, 2933000013, 2744860701, 2240367571, 1547345009, 705495743]
def seoS : St := ⟨1124968994, 333640425, 3398940844, 2892595454, 3493942986, 552989959, 3679927956, 1637605473⟩
theorem seo16 : ws seoB 16 = seoW.take 16 := by decide +kernel
theorem seo64 : evalW 48 (seoW.take 16) = seoW := by decide +kernel
theorem seostp : stp seoB init = seoS := stp_by seoB init ⟨3640902587, 1484473444, 2385036602, 119114692, 2134049867, 2247134331, 3151193321, 96146248⟩ seoS (seoW.take 16) seoW seo16 seo64 (by decide) (by kernel_rfl) (by kernel_rfl)
def scoB : List UInt8 := [211, 47, 88, 77, 162, 117, 148, 23, 27, 75, 57, 122, 174, 208, 108, 211, 71, 208, 6, 35, 208, 249, 67, 87, 174, 47, 10, 216, 137, 190, 52, 140, 128, 0, 0, 0, 0, 0, 0, 0, 0, 0, 0, 0, 0, 0, 0, 0, 0, 0, 0, 0, 0, 0, 0, 0, 0, 0, 0, 0, 0, 0, 3, 0]
def scoW : List Nat := [3543095373, 2725614615, 457914746, 2932894931, 1204815395, 3505996631, 2922318552, 2310943884, 2147483648, 0, 0, 0, 0, 0, 0, 768, 826214788, 3713469350, 721244651, 1667153618, 805143658, 3218375303, 2783597519, 2637839168, 3238946946, 2246862239, 1556101646, 3998928316, 3659946109, 3845967908, 2231507815, 2137169915, 2602818048, 3718572239, 3067652122, 3616101413, 2390943435, 3833579762, 1899568706, 3711936516, 2189049680, 2006767760, 1680160234, 3944052680, 1549562933, 3306242613, 1975066427, 1880889345, 2103742557, 3667311017, 2155853290, 4282185413, 2339895405, 219432235, 3700137101, 1131900324, 858402672, 3905517671, 2265170173, 2245070033, 626452599, 2298671498, 1833998289, 1532862720]
def scoS : St := ⟨471164893, 2448803915, 194989165, 3004332173, 3480748741, 3402200833, 670187406, 1001396334⟩
theorem sco16 : ws scoB 16 = scoW.take 16 := by decide +kernel
theorem sco64 : evalW 48 (scoW.take 16) = scoW := by decide +kernel
theorem scostp : stp scoB seoS = scoS := stp_by scoB seoS ⟨3641163195, 2115163490, 1091015617, 111736719, 4281773051, 2849210874, 1285226746, 3658758157⟩ scoS (scoW.take 16) scoW sco16 sco64 (by decide) (by kernel_rfl) (by kernel_rfl)
def scoM : List UInt8 := [55, 92, 92, 92, 92, 92, 92, 92, 92, 92, 92, 92, 92, 92, 92, 92, 92, 92, 92, 92, 92, 92, 92, 92, 92, 92, 92, 92, 92, 92, 92, 92, 92, 92, 92, 92, 92, 92, 92, 92, 92, 92, 92, 92, 92, 92, 92, 92, 92, 92, 92, 92, 92, 92, 92, 92, 92, 92, 92, 92, 92, 92, 92, 92, 211, 47, 88, 77, 162, 117, 148, 23, 27, 75, 57, 122, 174, 208, 108, 211, 71, 208, 6, 35, 208, 249, 67, 87, 174, 47, 10, 216, 137, 190, 52, 140]
theorem sco_sum : shaL scoM = [28, 21, 103, 221, 145, 245, 200, 75, 11, 159, 76, 109, 179, 18, 120, 141, 207, 120, 2, 197, 202, 201, 119, 1, 39, 242, 63, 142, 59, 176, 24, 110] := by
  have e : (scoM.length + zeros scoM.length + 9) / 64 = 0 + 1 + 1 := by decide
  unfold shaL
  rw [e, folds_succ, folds_succ, folds_zero]
  have e0 : (scoM ++ tailOf scoM.length).take 64 = seoB := by decide +kernel
  have e1 : ((scoM ++ tailOf scoM.length).drop 64).take 64 = scoB := by decide +kernel
  rw [e0, seostp, e1, scostp]
  decide +kernel
def scT : List UInt8 := [99, 105, 112, 104, 101, 114, 1]
theorem sc_mac : macL seK scT = [28, 21, 103, 221, 145, 245, 200, 75, 11, 159, 76, 109, 179, 18, 120, 141, 207, 120, 2, 197, 202, 201, 119, 1, 39, 242, 63, 142, 59, 176, 24, 110] := by
  have h1 : mixL seK 54 ++ scT = sciM := by decide +kernel
  have h2 : ∀ l, l = [211, 47, 88, 77, 162, 117, 148, 23, 27, 75, 57, 122, 174, 208, 108, 211, 71, 208, 6, 35, 208, 249, 67, 87, 174, 47, 10, 216, 137, 190, 52, 140] → mixL seK 92 ++ l = scoM := by rintro l rfl; decide +kernel
  rw [macL_eq, h1, h2 _ sci_sum, sco_sum]
def stiB : List UInt8 := [116, 97, 103, 1, 128, 0, 0, 0, 0, 0, 0, 0, 0, 0, 0, 0, 0, 0, 0, 0, 0, 0, 0, 0, 0, 0, 0, 0, 0, 0, 0, 0, 0, 0, 0, 0, 0, 0, 0, 0, 0, 0, 0, 0, 0, 0, 0, 0, 0, 0, 0, 0, 0, 0, 0, 0, 0, 0, 0, 0, 0, 0, 2, 32]
def stiW : List Nat := [1952540417, 2147483648, 0, 0, 0, 0, 0, 0, 0, 0, 0, 0, 0, 0, 0, 544, 2237761281, 2169765888, 4081166973, 2149582208, 3763181474, 38819861, 2031960426, 2892643445, 2312779005, 1289823156, 3705866459, 2517446470, 3885106500, 2878036982, 790972527, 3270519861, 4036783662, 16103635, 1419885500, 256342422, 3001116520, 284869889, 1296850432, 1044566006, 1502371569, 1302362108, 1696039302, 2456664941, 1481858361, 3984114271, 2875998651, 3998542215, 2938699339, 1822964571, 996852103, 559713081, 2329326403, 2953702034, 601201941, 870424766, 807778491, 1297655773, 2574060727, 322921191, 3274620724, 3771710979, 2417091660, 77465554]
def stiS : St := ⟨1056908400, 2468533133, 3880784682, 3874584753, 2820853411, 3799964712, 2958057793, 890534805⟩
theorem sti16 : ws stiB 16 = stiW.take 16 := by decide +kernel
theorem sti64 : evalW 48 (stiW.take 16) = stiW := by decide +kernel
theorem stistp : stp stiB seiS = stiS := stp_by stiB seiS ⟨1661555615, 2826088013, 3366275764, 690234603, 1681403003, 3268440781, 3419442203, 1016816426⟩ stiS (stiW.take 16) stiW sti16 sti64 (by decide) (by kernel_rfl) (by kernel_rfl)
def stiM : List UInt8 := [93, 54, 54, 54, 54, 54, 54, 54, 54, 54, 54, 54, 54, 54, 54, 54, 54, 54, 54, 54, 54, 54, 54, 54, 54, 54, 54, 54, 54, 54, 54, 54, 54, 54, 54, 54, 54, 54, 54, 54, 54, 54, 54, 54, 54, 54, 54, 54, 54, 54, 54, 54, 54, 54, 54, 54, 54, 54, 54, 54, 54, 54, 54, 54, 116, 97, 103, 1]
theorem sti_sum : shaL stiM = [62, 255, 36, 112, 147, 34, 211, 141, 231, 80, 19, 42, 230, 241, 120, 177, 168, 34, 206, 163, 226, 126, 220, 40, 176, 80, 97, 65, 53, 20, 123, 149] := by
  have e : (stiM.length + zeros stiM.length + 9) / 64 = 0 + 1 + 1 := by decide
  unfold shaL
  rw [e, folds_succ, folds_succ, folds_zero]
  have e0 : (stiM ++ tailOf stiM.length).take 64 = seiB := by decide +kernel
  have e1 : ((stiM ++ tailOf stiM.length).drop 64).take 64 = stiB := by decide +kernel
  rw [e0, seistp, e1, stistp]
  decide +kernel
def stoB : List UInt8 := [62, 255, 36, 112, 147, 34, 211, 141, 231, 80, 19, 42, 230, 241, 120, 177, 168, 34, 206, 163, 226, 126, 220, 40, 176, 80, 97, 65, 53, 20, 123, 149, 128, 0, 0, 0, 0, 0, 0, 0, 0, 0, 0, 0, 0, 0, 0, 0, 0, 0, 0, 0, 0, 0, 0, 0, 0, 0, 0, 0, 0, 0, 3, 0]
def stoW : List Nat := [1056908400, 2468533133, 3880784682, 3874584753, 2820853411, 3799964712, 2958057793, 890534805, 2147483648, 0, 0, 0, 0, 0, 0, 768, 4238385038, 3807440676, 1687769448, 859619343, 623117776, 1740918255, 1691987512, 4060670252, 1169356736, 3458774759, 1480984289, 1925225164, 729736345, 3271341398, 2711509243, 930279090, 543612517, 3988355482, 3025291018, 2551950293, 347515951, 3254108283, 2647790277, 2688538560, 2053779308, 3685442718, 4071975557, 4102098681, 2654170857, 2092682359, 4120434326, 3411868608, 3821136891, 1429852565, 3293837328, 15787773, 3025242869, 1130378361, 3186635933, 4245136565, 3967525628, 369432736, 1200137662, 4082405118, 981499318, 407243280, 3390114226, 224789437]
def stoS : St := ⟨3946597283, 1331685257, 1360638769, 4167255482, 2045197426, 2334449460, 2207969094, 3433340701⟩
theorem sto16 : ws stoB 16 = stoW.take 16 := by decide +kernel
theorem sto64 : evalW 48 (stoW.take 16) = stoW := by decide +kernel
theorem stostp : stp stoB seoS = stoS := stp_by stoB seoS ⟨2821628289, 998044832, 2256665221, 1274660028, 2846221736, 1781459501, 2823008434, 1795735228⟩ stoS (stoW.take 16) stoW sto16 sto64 (by decide) (by kernel_rfl) (by kernel_rfl)
def stoM : List UInt8 := [55, 92, 92, 92, 92, 92, 92, 92, 92, 92, 92, 92, 92, 92, 92, 92, 92, 92, 92, 92, 92, 92, 92, 92, 92, 92, 92, 92, 92, 92, 92, 92, 92, 92, 92, 92, 92, 92, 92, 92, 92, 92, 92, 92, 92, 92, 92, 92, 92, 92, 92, 92, 92, 92, 92, 92, 92, 92, 92, 92, 92, 92, 92, 92, 62, 255, 36, 112, 147, 34, 211, 141, 231, 80, 19, 42, 230, 241, 120, 177, 168, 34, 206, 163, 226, 126, 220, 40, 176, 80, 97, 65, 53, 20, 123, 149]
theorem sto_sum : shaL stoM = [235, 60, 75, 163, 79, 95, 231, 137, 81, 25, 179, 49, 248, 99, 69, 186, 121, 231, 60, 114, 139, 36, 223, 52, 131, 154, 239, 70, 204, 164, 159, 29] := by
  have e : (stoM.length + zeros stoM.length + 9) / 64 = 0 + 1 + 1 := by decide
  unfold shaL
  rw [e, folds_succ, folds_succ, folds_zero]
  have e0 : (stoM ++ tailOf stoM.length).take 64 = seoB := by decide +kernel
  have e1 : ((stoM ++ tailOf stoM.length).drop 64).take 64 = stoB := by decide +kernel
  rw [e0, seostp, e1, stostp]
  decide +kernel
def stT : List UInt8 := [116, 97, 103, 1]
theorem st_mac : macL seK stT = [235, 60, 75, 163, 79, 95, 231, 137, 81, 25, 179, 49, 248, 99, 69, 186, 121, 231, 60, 114, 139, 36, 223, 52, 131, 154, 239, 70, 204, 164, 159, 29] := by
  have h1 : mixL seK 54 ++ stT = stiM := by decide +kernel
  have h2 : ∀ l, l = [62, 255, 36, 112, 147, 34, 211, 141, 231, 80, 19, 42, 230, 241, 120, 177, 168, 34, 206, 163, 226, 126, 220, 40, 176, 80, 97, 65, 53, 20, 123, 149] → mixL seK 92 ++ l = stoM := by rintro l rfl; decide +kernel
  rw [macL_eq, h1, h2 _ sti_sum, sto_sum]
def saK : List UInt8 := [28, 21, 103, 221, 145, 245, 200, 75, 11, 159, 76, 109, 179, 18, 120, 141]
def saB : List UInt8 := [110, 0, 0, 0, 0, 0, 0, 0, 0, 0, 0, 0, 0, 0, 0, 0]
def saE : List UInt8 := [28, 21, 103, 221, 145, 245, 200, 75, 11, 159, 76, 109, 179, 18, 120, 141, 212, 169, 58, 176, 69, 92, 242, 251, 78, 195, 190, 150, 253, 209, 198, 27, 232, 29, 149, 228, 173, 65, 103, 31, 227, 130, 217, 137, 30, 83, 31, 146, 1, 221, 218, 150, 172, 156, 189, 137, 79, 30, 100, 0, 81, 77, 123, 146, 234, 252, 149, 71, 70, 96, 40, 206, 9, 126, 76, 206, 88, 51, 55, 92, 57, 102, 223, 45, 127, 6, 247, 227, 118, 120, 187, 45, 46, 75, 140, 113, 170, 2, 124, 28, 213, 4, 139, 255, 163, 124, 48, 210, 141, 55, 188, 163, 112, 103, 118, 65, 165, 99, 253, 190, 6, 31, 205, 108, 139, 40, 113, 207, 196, 196, 252, 124, 97, 167, 1, 194, 103, 184, 204, 174, 236, 144, 189, 97, 191, 190, 19, 178, 222, 25, 18, 112, 185, 161, 222, 222, 85, 49, 99, 191, 78, 69, 27, 78, 144, 92, 9, 62, 41, 253, 215, 224, 124, 204, 180, 95]
theorem sa_expand : expand saK 40 = saE := by
  have h := evalE_eq saK 40 0
  rw [Nat.zero_add] at h
  rw [← h]
  decide +kernel
theorem sa_k0 : rkey saK 0 = [28, 21, 103, 221, 145, 245, 200, 75, 11, 159, 76, 109, 179, 18, 120, 141] := by unfold rkey; rw [sa_expand]; decide +kernel
theorem sa_k1 : rkey saK 1 = [212, 169, 58, 176, 69, 92, 242, 251, 78, 195, 190, 150, 253, 209, 198, 27] := by unfold rkey; rw [sa_expand]; decide +kernel
theorem sa_k2 : rkey saK 2 = [232, 29, 149, 228, 173, 65, 103, 31, 227, 130, 217, 137, 30, 83, 31, 146] := by unfold rkey; rw [sa_expand]; decide +kernel
theorem sa_k3 : rkey saK 3 = [1, 221, 218, 150, 172, 156, 189, 137, 79, 30, 100, 0, 81, 77, 123, 146] := by unfold rkey; rw [sa_expand]; decide +kernel
theorem sa_k4 : rkey saK 4 = [234, 252, 149, 71, 70, 96, 40, 206, 9, 126, 76, 206, 88, 51, 55, 92] := by unfold rkey; rw [sa_expand]; decide +kernel
theorem sa_k5 : rkey saK 5 = [57, 102, 223, 45, 127, 6, 247, 227, 118, 120, 187, 45, 46, 75, 140, 113] := by unfold rkey; rw [sa_expand]; decide +kernel
theorem sa_k6 : rkey saK 6 = [170, 2, 124, 28, 213, 4, 139, 255, 163, 124, 48, 210, 141, 55, 188, 163] := by unfold rkey; rw [sa_expand]; decide +kernel
theorem sa_k7 : rkey saK 7 = [112, 103, 118, 65, 165, 99, 253, 190, 6, 31, 205, 108, 139, 40, 113, 207] := by unfold rkey; rw [sa_expand]; decide +kernel
theorem sa_k8 : rkey saK 8 = [196, 196, 252, 124, 97, 167, 1, 194, 103, 184, 204, 174, 236, 144, 189, 97] := by unfold rkey; rw [sa_expand]; decide +kernel
theorem sa_k9 : rkey saK 9 = [191, 190, 19, 178, 222, 25, 18, 112, 185, 161, 222, 222, 85, 49, 99, 191] := by unfold rkey; rw [sa_expand]; decide +kernel
theorem sa_k10 : rkey saK 10 = [78, 69, 27, 78, 144, 92, 9, 62, 41, 253, 215, 224, 124, 204, 180, 95] := by unfold rkey; rw [sa_expand]; decide +kernel
theorem sa_s0 : encN (rkey saK) saB 0 = [114, 21, 103, 221, 145, 245, 200, 75, 11, 159, 76, 109, 179, 18, 120, 141] := by rw [encN, sa_k0]; decide +kernel
theorem sa_s1 : encN (rkey saK) saB 1 = [17, 24, 41, 5, 87, 110, 147, 157, 110, 70, 131, 218, 24, 17, 125, 101] := by rw [show 1 = 0 + 1 from rfl, encN, sa_s0, sa_k1]; decide +kernel
theorem sa_s2 : encN (rkey saK) saB 2 = [236, 216, 156, 144, 97, 223, 62, 129, 160, 168, 119, 168, 56, 151, 69, 161] := by rw [show 2 = 1 + 1 from rfl, encN, sa_s1, sa_k2]; decide +kernel
theorem sa_s3 : encN (rkey saK) saB 3 = [248, 2, 45, 208, 58, 62, 236, 207, 197, 128, 191, 117, 140, 135, 63, 215] := by rw [show 3 = 2 + 1 from rfl, encN, sa_s2, sa_k3]; decide +kernel
theorem sa_s4 : encN (rkey saK) saB 4 = [163, 212, 100, 34, 20, 142, 31, 13, 53, 15, 211, 255, 90, 109, 31, 104] := by rw [show 4 = 3 + 1 from rfl, encN, sa_s3, sa_k4]; decide +kernel
theorem sa_s5 : encN (rkey saK) saB 5 = [37, 177, 207, 198, 89, 216, 78, 125, 145, 132, 245, 70, 71, 40, 219, 12] := by rw [show 5 = 4 + 1 from rfl, encN, sa_s4, sa_k5]; decide +kernel
theorem sa_s6 : encN (rkey saK) saB 6 = [111, 48, 236, 61, 180, 21, 177, 44, 147, 239, 144, 17, 224, 55, 100, 11] := by rw [show 6 = 5 + 1 from rfl, encN, sa_s5, sa_k6]; decide +kernel
theorem sa_s7 : encN (rkey saK) saB 7 = [155, 246, 58, 205, 186, 169, 64, 224, 175, 212, 159, 165, 20, 0, 130, 36] := by rw [show 7 = 6 + 1 from rfl, encN, sa_s6, sa_k7]; decide +kernel
theorem sa_s8 : encN (rkey saK) saB 8 = [111, 45, 204, 36, 228, 75, 71, 255, 81, 125, 245, 31, 202, 243, 29, 51] := by rw [show 8 = 7 + 1 from rfl, encN, sa_s7, sa_k8]; decide +kernel
theorem sa_s9 : encN (rkey saK) saB 9 = [31, 153, 129, 153, 132, 84, 141, 252, 74, 161, 174, 220, 174, 213, 207, 192] := by rw [show 9 = 8 + 1 from rfl, encN, sa_s8, sa_k9]; decide +kernel
theorem sa_enc : enc (rkey saK) saB = [142, 101, 255, 244, 207, 110, 131, 208, 255, 254, 219, 80, 152, 34, 233, 217] := by unfold enc; rw [sa_s9, sa_k10]; decide +kernel
theorem sa_turn : turnL saK [110, 0, 0, 0, 0, 0, 0, 0, 0, 0, 0, 0] 0 [115, 101, 99, 114, 101, 116] = [253, 0, 156, 134, 170, 26] := by
  have e : [110, 0, 0, 0, 0, 0, 0, 0, 0, 0, 0, 0] ++ be 4 (0 + 0) = saB := by decide +kernel
  have e2 : ctrL saK [110, 0, 0, 0, 0, 0, 0, 0, 0, 0, 0, 0] 0 6 = [142, 101, 255, 244, 207, 110] := by
    unfold ctrL
    rw [show blocksOf 6 = 0 + 1 from rfl, ctrC_succ, ctrC_zero]
    unfold ctrB
    rw [e, sa_enc]
    rfl
  unfold turnL
  rw [show ([115, 101, 99, 114, 101, 116] : List UInt8).length = 6 from rfl, e2]
  decide +kernel
def suK : List UInt8 := [235, 60, 75, 163, 79, 95, 231, 137, 81, 25, 179, 49, 248, 99, 69, 186, 121, 231, 60, 114, 139, 36, 223, 52, 131, 154, 239, 70, 204, 164, 159, 29]
def suiB : List UInt8 := [221, 10, 125, 149, 121, 105, 209, 191, 103, 47, 133, 7, 206, 85, 115, 140, 79, 209, 10, 68, 189, 18, 233, 2, 181, 172, 217, 112, 250, 146, 169, 43, 54, 54, 54, 54, 54, 54, 54, 54, 54, 54, 54, 54, 54, 54, 54, 54, 54, 54, 54, 54, 54, 54, 54, 54, 54, 54, 54, 54, 54, 54, 54, 54]
def suiW : List Nat := [3708452245, 2036978111, 1731167495, 3461706636, 1339099716, 3172133122, 3048003952, 4203915563, 909522486, 909522486, 909522486, 909522486, 909522486, 909522486, 909522486, 909522486, 4139858921, 1893387942, 3033491510, 119274287, 2278610772, 935310527, 1077003680, 88121088, 1756123250, 781064130, 3332811491, 1849763268, 3577300041, 332418462, 2906036935, 1378524899, 3031642821, 4130906725, 3259914066, 2914625051, 315364350, 113928123, 1162047564, 922184559, 966804256, 3214252339, 1791001173, 3636246127, 1522041336, 1663912814, 2690474188, 3923477941, 2387785723, 996756168, 4086750448, 2401863561, 453901060, 3866099280, 1953239456, 498425337, 381957528, 1066009180, 2141314083, 282174393, 2569741259, 2462136823, 1263759880, 128538311]
def suiS : St := ⟨276939823, 2047970729, 2855942888, 1733995589, 3869376962, 4018850480, 1439829189, 708807768⟩
theorem sui16 : ws suiB 16 = suiW.take 16 := by decide +kernel
theorem sui64 : evalW 48 (suiW.take 16) = suiW := by decide +kernel
theorem suistp : stp suiB init = suiS := stp_by suiB init ⟨2792873416, 3198803748, 1842038646, 3255482123, 2509483843, 1418027556, 911094554, 3462315839⟩ suiS (suiW.take 16) suiW sui16 sui64 (by decide) (by kernel_rfl) (by kernel_rfl)
def taiB : List UInt8 := [0, 0, 0, 1, 97, 0, 0, 0, 0, 0, 0, 0, 1, 1, 0, 0, 0, 1, 110, 0, 0, 0, 0, 0, 0, 0, 0, 0, 0, 0, 253, 0, 156, 134, 170, 26, 128, 0, 0, 0, 0, 0, 0, 0, 0, 0, 0, 0, 0, 0, 0, 0, 0, 0, 0, 0, 0, 0, 0, 0, 0, 0, 3, 32]
def taiW : List Nat := [1, 1627389952, 0, 16842752, 93696, 0, 0, 64768, 2626071066, 2147483648, 0, 0, 0, 0, 0, 800, 2363627585, 1660157952, 2402152875, 3701059392, 1187310351, 3799995316, 674765818, 1554450203, 520300855, 1923603889, 3461635051, 1547119103, 2302304170, 2584699985, 24208042, 2451410422, 2837807997, 3812261430, 1331328528, 55588693, 4162090121, 4175144307, 1814882761, 1401545963, 2279743674, 1772832236, 1699863334, 4068282045, 3261482066, 964195608, 3685291685, 3704259934, 2863532609, 263310001, 2916333213, 3012861568, 4042866481, 1450247832, 2804376329, 2409614993, 4194123382, 1826688990, 2008448393, 3059926584, 878425011, 838972288, 576930323, 3675609847]
def taiS : St := ⟨809020990, 1974724854, 534405815, 3443563823, 3825468585, 1372079705, 3790833977, 2444609811⟩
theorem tai16 : ws taiB 16 = taiW.take 16 := by decide +kernel
theorem tai64 : evalW 48 (taiW.take 16) = taiW := by decide +kernel
theorem taistp : stp taiB suiS = taiS := stp_by taiB suiS ⟨532081167, 4221721421, 1973430223, 1709568234, 4251058919, 1648196521, 2351004788, 1735802043⟩ taiS (taiW.take 16) taiW tai16 tai64 (by decide) (by kernel_rfl) (by kernel_rfl)
def taiM : List UInt8 := [221, 10, 125, 149, 121, 105, 209, 191, 103, 47, 133, 7, 206, 85, 115, 140, 79, 209, 10, 68, 189, 18, 233, 2, 181, 172, 217, 112, 250, 146, 169, 43, 54, 54, 54, 54, 54, 54, 54, 54, 54, 54, 54, 54, 54, 54, 54, 54, 54, 54, 54, 54, 54, 54, 54, 54, 54, 54, 54, 54, 54, 54, 54, 54, 0, 0, 0, 1, 97, 0, 0, 0, 0, 0, 0, 0, 1, 1, 0, 0, 0, 1, 110, 0, 0, 0, 0, 0, 0, 0, 0, 0, 0, 0, 253, 0, 156, 134, 170, 26]
theorem tai_sum : shaL taiM = [48, 56, 174, 62, 117, 179, 232, 246, 31, 218, 98, 183, 205, 64, 157, 47, 228, 4, 4, 169, 81, 200, 70, 89, 225, 243, 137, 57, 145, 181, 201, 19] := by
  have e : (taiM.length + zeros taiM.length + 9) / 64 = 0 + 1 + 1 := by decide
  unfold shaL
  rw [e, folds_succ, folds_succ, folds_zero]
  have e0 : (taiM ++ tailOf taiM.length).take 64 = suiB := by decide +kernel
  have e1 : ((taiM ++ tailOf taiM.length).drop 64).take 64 = taiB := by decide +kernel
  rw [e0, suistp, e1, taistp]
  decide +kernel
def suoB : List UInt8 := [183, 96, 23, 255, 19, 3, 187, 213, 13, 69, 239, 109, 164, 63, 25, 230, 37, 187, 96, 46, 215, 120, 131, 104, 223, 198, 179, 26, 144, 248, 195, 65, 92, 92, 92, 92, 92, 92, 92, 92, 92, 92, 92, 92, 92, 92, 92, 92, 92, 92, 92, 92, 92, 92, 92, 92, 92, 92, 92, 92, 92, 92, 92, 92]
def suoW : List Nat := [3076528127, 319011797, 222687085, 2755598822, 633036846, 3614999400, 3754341146, 2432222017, 1549556828, 1549556828, 1549556828, 1549556828, 1549556828, 1549556828, 1549556828, 1549556828, 2251738, 3044819013, 4025403468, 697973998, 717726455, 272073769, 54615833, 1742007099, 980169316, 3646059254, 3381313253, 2723939990, 424952836, 2272457213, 316294732, 3768307311, 3543411278, 1408919865, 2030126938, 3226382260, 4005536869, 181903239, 1264517165, 987445266, 1485689744, 3396655115, 372245252, 2724909722, 2108867433, 301370089, 3083219636, 1521144630, 1600203771, 2283433238, 2791681732, 4162909981, 1274555485, 3152489014, 2800493999, 1777635144, 2949406068, 1365062048, 1228886677, 2599081799, 4014712896, 3716848887, 2516325388, 3757431149]
def suoS : St := ⟨706576840, 769574175, 2192701792, 3157509534, 4075547814, 1116226878, 1308270876, 3932618477⟩
theorem suo16 : ws suoB 16 = suoW.take 16 := by decide +kernel
theorem suo64 : evalW 48 (suoW.take 16) = suoW := by decide +kernel
theorem suostp : stp suoB init = suoS := stp_by suoB init ⟨3222510433, 1920407194, 1178797550, 384028772, 2715654695, 2810371250, 779536241, 2391159252⟩ suoS (suoW.take 16) suoW suo16 suo64 (by decide) (by kernel_rfl) (by kernel_rfl)
def taoB : List UInt8 := [48, 56, 174, 62, 117, 179, 232, 246, 31, 218, 98, 183, 205, 64, 157, 47, 228, 4, 4, 169, 81, 200, 70, 89, 225, 243, 137, 57, 145, 181, 201, 19, 128, 0, 0, 0, 0, 0, 0, 0, 0, 0, 0, 0, 0, 0, 0, 0, 0, 0, 0, 0, 0, 0, 0, 0, 0, 0, 0, 0, 0, 0, 3, 0]
def taoW : List Nat := [809020990, 1974724854, 534405815, 3443563823, 3825468585, 1372079705, 3790833977, 2444609811, 2147483648, 0, 0, 0, 0, 0, 0, 768, 1218000353, 1828530267, 1035104152, 1289843575, 121718482, 2000858194, 3036108335, 4010656982, 788281739, 2558318766, 3907043622, 4272277209, 4023401902, 276807718, 153559897, 3456784700, 1210875762, 1771277331, 2826296365, 3918895556, 1854722109, 2630305181, 906920414, 2675262831, 2709383359, 2880764286, 4185285588, 2688229602, 1215087859, 3065263418, 2577705705, 4259915671, 2094439610, 1399170311, 3642155987, 3678261618, 3433879697, 2749901518, 3370992740, 1034227781, 3589189680, 3709488211, 2086599551, 3139330108, 4263082299, 1721123187, 3832662918, 2561946475]
def taoS : St := ⟨1816605157, 2390476160, 1497244641, 598684641, 3328979284, 1355156977, 2839335620, 760563129⟩
theorem tao16 : ws taoB 16 = taoW.take 16 := by decide +kernel
theorem tao64 : evalW 48 (taoW.take 16) = taoW := by decide +kernel
theorem taostp : stp taoB suoS = taoS := stp_by taoB suoS ⟨1110028317, 1620901985, 3599510145, 1736142403, 3548398766, 238930099, 1531064744, 1122911948⟩ taoS (taoW.take 16) taoW tao16 tao64 (by decide) (by kernel_rfl) (by kernel_rfl)
def taoM : List UInt8 := [183, 96, 23, 255, 19, 3, 187, 213, 13, 69, 239, 109, 164, 63, 25, 230, 37, 187, 96, 46, 215, 120, 131, 104, 223, 198, 179, 26, 144, 248, 195, 65, 92, 92, 92, 92, 92, 92, 92, 92, 92, 92, 92, 92, 92, 92, 92, 92, 92, 92, 92, 92, 92, 92, 92, 92, 92, 92, 92, 92, 92, 92, 92, 92, 48, 56, 174, 62, 117, 179, 232, 246, 31, 218, 98, 183, 205, 64, 157, 47, 228, 4, 4, 169, 81, 200, 70, 89, 225, 243, 137, 57, 145, 181, 201, 19]
theorem tao_sum : shaL taoM = [108, 71, 49, 229, 142, 123, 197, 128, 89, 62, 35, 225, 35, 175, 51, 225, 198, 108, 49, 84, 80, 198, 13, 241, 169, 60, 210, 196, 45, 85, 69, 185] := by
  have e : (taoM.length + zeros taoM.length + 9) / 64 = 0 + 1 + 1 := by decide
  unfold shaL
  rw [e, folds_succ, folds_succ, folds_zero]
  have e0 : (taoM ++ tailOf taoM.length).take 64 = suoB := by decide +kernel
  have e1 : ((taoM ++ tailOf taoM.length).drop 64).take 64 = taoB := by decide +kernel
  rw [e0, suostp, e1, taostp]
  decide +kernel
def taT : List UInt8 := [0, 0, 0, 1, 97, 0, 0, 0, 0, 0, 0, 0, 1, 1, 0, 0, 0, 1, 110, 0, 0, 0, 0, 0, 0, 0, 0, 0, 0, 0, 253, 0, 156, 134, 170, 26]
theorem ta_mac : macL suK taT = [108, 71, 49, 229, 142, 123, 197, 128, 89, 62, 35, 225, 35, 175, 51, 225, 198, 108, 49, 84, 80, 198, 13, 241, 169, 60, 210, 196, 45, 85, 69, 185] := by
  have h1 : mixL suK 54 ++ taT = taiM := by decide +kernel
  have h2 : ∀ l, l = [48, 56, 174, 62, 117, 179, 232, 246, 31, 218, 98, 183, 205, 64, 157, 47, 228, 4, 4, 169, 81, 200, 70, 89, 225, 243, 137, 57, 145, 181, 201, 19] → mixL suK 92 ++ l = taoM := by rintro l rfl; decide +kernel
  rw [macL_eq, h1, h2 _ tai_sum, tao_sum]
def tbiB : List UInt8 := [0, 0, 0, 1, 98, 0, 0, 0, 0, 0, 0, 0, 1, 1, 0, 0, 0, 1, 110, 0, 0, 0, 0, 0, 0, 0, 0, 0, 0, 0, 253, 0, 156, 134, 170, 26, 128, 0, 0, 0, 0, 0, 0, 0, 0, 0, 0, 0, 0, 0, 0, 0, 0, 0, 0, 0, 0, 0, 0, 0, 0, 0, 3, 32]
def tbiW : List Nat := [1, 1644167168, 0, 16842752, 93696, 0, 0, 64768, 2626071066, 2147483648, 0, 0, 0, 0, 0, 800, 2357467265, 1676935168, 3482712340, 3701075872, 1134332230, 3390264228, 349909017, 3695775062, 260401236, 4140605698, 4122826504, 137961437, 3412811488, 3237108597, 3786388423, 2333325413, 3215823246, 1391898178, 1953150277, 3517474283, 2498064679, 3874788792, 2883907282, 1749292448, 2156577052, 1314155414, 4241736609, 1695325369, 2973682047, 3383851195, 1008557353, 234926634, 950822951, 3360888743, 1736264307, 1845017423, 3011652614, 4186380108, 1447370948, 2746838400, 3170942869, 4256563904, 204045292, 883957406, 1843015204, 792356960, 2885365031, 2544265886]
def tbiS : St := ⟨1661151238, 2929492841, 2907851058, 2188827161, 2554238209, 3079241580, 3870654901, 2541548880⟩
theorem tbi16 : ws tbiB 16 = tbiW.take 16 := by decide +kernel
theorem tbi64 : evalW 48 (tbiW.take 16) = tbiW := by decide +kernel
theorem tbistp : stp tbiB suiS = tbiS := stp_by tbiB suiS ⟨1384211415, 881522112, 51908170, 454831572, 2979828543, 3355358396, 2430825712, 1832741112⟩ tbiS (tbiW.take 16) tbiW tbi16 tbi64 (by decide) (by kernel_rfl) (by kernel_rfl)
def tbiM : List UInt8 := [221, 10, 125, 149, 121, 105, 209, 191, 103, 47, 133, 7, 206, 85, 115, 140, 79, 209, 10, 68, 189, 18, 233, 2, 181, 172, 217, 112, 250, 146, 169, 43, 54, 54, 54, 54, 54, 54, 54, 54, 54, 54, 54, 54, 54, 54, 54, 54, 54, 54, 54, 54, 54, 54, 54, 54, 54, 54, 54, 54, 54, 54, 54, 54, 0, 0, 0, 1, 98, 0, 0, 0, 0, 0, 0, 0, 1, 1, 0, 0, 0, 1, 110, 0, 0, 0, 0, 0, 0, 0, 0, 0, 0, 0, 253, 0, 156, 134, 170, 26]
theorem tbi_sum : shaL tbiM = [99, 3, 40, 6, 174, 156, 131, 105, 173, 82, 73, 50, 130, 118, 218, 25, 152, 62, 149, 1, 183, 137, 127, 108, 230, 181, 129, 181, 151, 124, 245, 80] := by
  have e : (tbiM.length + zeros tbiM.length + 9) / 64 = 0 + 1 + 1 := by decide
  unfold shaL
  rw [e, folds_succ, folds_succ, folds_zero]
  have e0 : (tbiM ++ tailOf tbiM.length).take 64 = suiB := by decide +kernel
  have e1 : ((tbiM ++ tailOf tbiM.length).drop 64).take 64 = tbiB := by decide +kernel
  rw [e0, suistp, e1, tbistp]
  decide +kernel
def tboB : List UInt8 := [99, 3, 40, 6, 174, 156, 131, 105, 173, 82, 73, 50, 130, 118, 218, 25, 152, 62, 149, 1, 183, 137, 127, 108, 230, 181, 129, 181, 151, 124, 245, 80, 128, 0, 0, 0, 0, 0, 0, 0, 0, 0, 0, 0, 0, 0, 0, 0, 0, 0, 0, 0, 0, 0, 0, 0, 0, 0, 0, 0, 0, 0, 3, 0]
def tboW : List Nat := [1661151238, 2929492841, 2907851058, 2188827161, 2554238209, 3079241580, 3870654901, 2541548880, 2147483648, 0, 0, 0, 0, 0, 0, 768, 1230498514, 2469972553, 1262475287, 3023559015, 1067395328, 3870442351, 3875194698, 1538827073, 1320049500, 2434678938, 2601377403, 672761404, 998686975, 3670957752, 350699178, 2323178719, 114206879, 1863428491, 611231738, 2675608827, 4114197010, 1277098467, 4076489274, 772118664, 3779981164, 3367289576, 2714252599, 1604754505, 2700964747, 77775619, 4059398715, 983247025, 2991142097, 1532329025, 2296579259, 2751483773, 1311255689, 1707140126, 3038391142, 219445786, 2245261894, 2048673943, 107820217, 3134413530, 4192628013, 2301187212, 2837533834, 964598588]
def tboS : St := ⟨3396697347, 1603465408, 414999608, 1469330783, 3854939759, 106249205, 4036464438, 2159735861⟩
theorem tbo16 : ws tboB 16 = tboW.take 16 := by decide +kernel
theorem tbo64 : evalW 48 (tboW.take 16) = tboW := by decide +kernel
theorem tbostp : stp tboB suoS = tboS := stp_by tboB suoS ⟨2690120507, 833891233, 2517265112, 2606788545, 4074359241, 3284989623, 2728193562, 2522084680⟩ tboS (tboW.take 16) tboW tbo16 tbo64 (by decide) (by kernel_rfl) (by kernel_rfl)
def tboM : List UInt8 := [183, 96, 23, 255, 19, 3, 187, 213, 13, 69, 239, 109, 164, 63, 25, 230, 37, 187, 96, 46, 215, 120, 131, 104, 223, 198, 179, 26, 144, 248, 195, 65, 92, 92, 92, 92, 92, 92, 92, 92, 92, 92, 92, 92, 92, 92, 92, 92, 92, 92, 92, 92, 92, 92, 92, 92, 92, 92, 92, 92, 92, 92, 92, 92, 99, 3, 40, 6, 174, 156, 131, 105, 173, 82, 73, 50, 130, 118, 218, 25, 152, 62, 149, 1, 183, 137, 127, 108, 230, 181, 129, 181, 151, 124, 245, 80]
theorem tbo_sum : shaL tboM = [202, 117, 125, 3, 95, 146, 240, 192, 24, 188, 100, 56, 87, 148, 53, 95, 229, 197, 182, 111, 6, 85, 59, 245, 240, 151, 143, 54, 128, 186, 244, 53] := by
  have e : (tboM.length + zeros tboM.length + 9) / 64 = 0 + 1 + 1 := by decide
  unfold shaL
  rw [e, folds_succ, folds_succ, folds_zero]
  have e0 : (tboM ++ tailOf tboM.length).take 64 = suoB := by decide +kernel
  have e1 : ((tboM ++ tailOf tboM.length).drop 64).take 64 = tboB := by decide +kernel
  rw [e0, suostp, e1, tbostp]
  decide +kernel
def tbT : List UInt8 := [0, 0, 0, 1, 98, 0, 0, 0, 0, 0, 0, 0, 1, 1, 0, 0, 0, 1, 110, 0, 0, 0, 0, 0, 0, 0, 0, 0, 0, 0, 253, 0, 156, 134, 170, 26]
theorem tb_mac : macL suK tbT = [202, 117, 125, 3, 95, 146, 240, 192, 24, 188, 100, 56, 87, 148, 53, 95, 229, 197, 182, 111, 6, 85, 59, 245, 240, 151, 143, 54, 128, 186, 244, 53] := by
  have h1 : mixL suK 54 ++ tbT = tbiM := by decide +kernel
  have h2 : ∀ l, l = [99, 3, 40, 6, 174, 156, 131, 105, 173, 82, 73, 50, 130, 118, 218, 25, 152, 62, 149, 1, 183, 137, 127, 108, 230, 181, 129, 181, 151, 124, 245, 80] → mixL suK 92 ++ l = tboM := by rintro l rfl; decide +kernel
  rw [macL_eq, h1, h2 _ tbi_sum, tbo_sum]
theorem f32_k : f32B ⟨#[107]⟩ = ⟨#[107, 0, 0, 0, 0, 0, 0, 0, 0, 0, 0, 0, 0, 0, 0, 0, 0, 0, 0, 0, 0, 0, 0, 0, 0, 0, 0, 0, 0, 0, 0, 0]⟩ := by
  apply ByteArray.ext
  apply Array.toList_inj.1
  decide +kernel
theorem f12_n : f12B ⟨#[110]⟩ = ⟨#[110, 0, 0, 0, 0, 0, 0, 0, 0, 0, 0, 0]⟩ := by
  apply ByteArray.ext
  apply Array.toList_inj.1
  decide +kernel
theorem derL_first (k l : List UInt8) (n : Nat) (h : n ≤ 32) : derL k l n = (macL k (l ++ [1])).take n := by
  rw [derL_of k l n 1 (by omega) (by omega), rowL_succ, tagL_succ]
  rfl
theorem kd_c14 : kd (f32B ⟨#[107]⟩) cipB 16 = ⟨#[28, 21, 103, 221, 145, 245, 200, 75, 11, 159, 76, 109, 179, 18, 120, 141]⟩ := by
  rw [f32_k]
  unfold kd cipB
  have e : derL (⟨#[107, 0, 0, 0, 0, 0, 0, 0, 0, 0, 0, 0, 0, 0, 0, 0, 0, 0, 0, 0, 0, 0, 0, 0, 0, 0, 0, 0, 0, 0, 0, 0]⟩ : ByteArray).data.toList (⟨#[99, 105, 112, 104, 101, 114]⟩ : ByteArray).data.toList 16 = [28, 21, 103, 221, 145, 245, 200, 75, 11, 159, 76, 109, 179, 18, 120, 141] := by
    rw [derL_first _ _ _ (by omega)]
    have h := sc_mac
    unfold seK scT at h
    show (macL [107, 0, 0, 0, 0, 0, 0, 0, 0, 0, 0, 0, 0, 0, 0, 0, 0, 0, 0, 0, 0, 0, 0, 0, 0, 0, 0, 0, 0, 0, 0, 0] [99, 105, 112, 104, 101, 114, 1]).take 16 = _
    rw [h]
    rfl
  rw [e]
theorem kd_t14 : kd (f32B ⟨#[107]⟩) tagB 32 = ⟨#[235, 60, 75, 163, 79, 95, 231, 137, 81, 25, 179, 49, 248, 99, 69, 186, 121, 231, 60, 114, 139, 36, 223, 52, 131, 154, 239, 70, 204, 164, 159, 29]⟩ := by
  rw [f32_k]
  unfold kd tagB
  have e : derL (⟨#[107, 0, 0, 0, 0, 0, 0, 0, 0, 0, 0, 0, 0, 0, 0, 0, 0, 0, 0, 0, 0, 0, 0, 0, 0, 0, 0, 0, 0, 0, 0, 0]⟩ : ByteArray).data.toList (⟨#[116, 97, 103]⟩ : ByteArray).data.toList 32 = [235, 60, 75, 163, 79, 95, 231, 137, 81, 25, 179, 49, 248, 99, 69, 186, 121, 231, 60, 114, 139, 36, 223, 52, 131, 154, 239, 70, 204, 164, 159, 29] := by
    rw [derL_first _ _ _ (by omega)]
    have h := st_mac
    unfold seK stT at h
    show (macL [107, 0, 0, 0, 0, 0, 0, 0, 0, 0, 0, 0, 0, 0, 0, 0, 0, 0, 0, 0, 0, 0, 0, 0, 0, 0, 0, 0, 0, 0, 0, 0] [116, 97, 103, 1]).take 32 = _
    rw [h]
    rfl
  rw [e]
theorem turn_14 : turnT (kd (f32B ⟨#[107]⟩) cipB 16) (f12B ⟨#[110]⟩) 0 ⟨#[115, 101, 99, 114, 101, 116]⟩ = ⟨#[253, 0, 156, 134, 170, 26]⟩ := by
  rw [kd_c14, f12_n]
  unfold turnT
  have h := sa_turn
  unfold saK at h
  show (⟨(turnL [28, 21, 103, 221, 145, 245, 200, 75, 11, 159, 76, 109, 179, 18, 120, 141] [110, 0, 0, 0, 0, 0, 0, 0, 0, 0, 0, 0] 0 [115, 101, 99, 114, 101, 116]).toArray⟩ : ByteArray) = _
  rw [h]
theorem tag_a14 : tagT (kd (f32B ⟨#[107]⟩) tagB 32) ⟨#[97]⟩ 1 t1 (t4 1) (f12B ⟨#[110]⟩) (turnT (kd (f32B ⟨#[107]⟩) cipB 16) (f12B ⟨#[110]⟩) 0 ⟨#[115, 101, 99, 114, 101, 116]⟩) = ⟨#[108, 71, 49, 229, 142, 123, 197, 128, 89, 62, 35, 225, 35, 175, 51, 225, 198, 108, 49, 84, 80, 198, 13, 241, 169, 60, 210, 196, 45, 85, 69, 185]⟩ := by
  rw [turn_14, kd_t14, f12_n]
  unfold tagT
  have e : joinL [t4 (⟨#[97]⟩ : ByteArray).size, ⟨#[97]⟩, t8 1, t1, t4 1, ⟨#[110, 0, 0, 0, 0, 0, 0, 0, 0, 0, 0, 0]⟩, ⟨#[253, 0, 156, 134, 170, 26]⟩] = taT := by decide +kernel
  have h := ta_mac
  unfold suK at h
  rw [e]
  show (⟨(macL [235, 60, 75, 163, 79, 95, 231, 137, 81, 25, 179, 49, 248, 99, 69, 186, 121, 231, 60, 114, 139, 36, 223, 52, 131, 154, 239, 70, 204, 164, 159, 29] taT).toArray⟩ : ByteArray) = _
  rw [h]
theorem tag_b14 : tagT (kd (f32B ⟨#[107]⟩) tagB 32) ⟨#[98]⟩ 1 t1 (t4 1) (f12B ⟨#[110]⟩) (turnT (kd (f32B ⟨#[107]⟩) cipB 16) (f12B ⟨#[110]⟩) 0 ⟨#[115, 101, 99, 114, 101, 116]⟩) = ⟨#[202, 117, 125, 3, 95, 146, 240, 192, 24, 188, 100, 56, 87, 148, 53, 95, 229, 197, 182, 111, 6, 85, 59, 245, 240, 151, 143, 54, 128, 186, 244, 53]⟩ := by
  rw [turn_14, kd_t14, f12_n]
  unfold tagT
  have e : joinL [t4 (⟨#[98]⟩ : ByteArray).size, ⟨#[98]⟩, t8 1, t1, t4 1, ⟨#[110, 0, 0, 0, 0, 0, 0, 0, 0, 0, 0, 0]⟩, ⟨#[253, 0, 156, 134, 170, 26]⟩] = tbT := by decide +kernel
  have h := tb_mac
  unfold suK at h
  rw [e]
  show (⟨(macL [235, 60, 75, 163, 79, 95, 231, 137, 81, 25, 179, 49, 248, 99, 69, 186, 121, 231, 60, 114, 139, 36, 223, 52, 131, 154, 239, 70, 204, 164, 159, 29] tbT).toArray⟩ : ByteArray) = _
  rw [h]
theorem chk_b14 : chk (tagT (kd (f32B ⟨#[107]⟩) tagB 32) ⟨#[97]⟩ 1 t1 (t4 1) (f12B ⟨#[110]⟩) (turnT (kd (f32B ⟨#[107]⟩) cipB 16) (f12B ⟨#[110]⟩) 0 ⟨#[115, 101, 99, 114, 101, 116]⟩)).data.toList (tagT (kd (f32B ⟨#[107]⟩) tagB 32) ⟨#[98]⟩ 1 t1 (t4 1) (f12B ⟨#[110]⟩) (turnT (kd (f32B ⟨#[107]⟩) cipB 16) (f12B ⟨#[110]⟩) 0 ⟨#[115, 101, 99, 114, 101, 116]⟩)).data.toList = false := by
  rw [tag_a14, tag_b14]
  decide +kernel
end Go.Proofs.YtdnpgmoiapkhnaaDoor
end

section
namespace Go.Proofs.YtdnpgmoiapkhnaaDoor
open Go.RowKit

theorem chk_self (m : List UInt8) (h : m.length = 32) : chk m m = true := by
  unfold chk
  rw [h]
  simp [List.take_of_length_le (Nat.le_of_eq h)]
attribute [local irreducible] rkey expand enc dec ctrB ctrC ctrL xorL turnL turnT kd t4 t8 env5 chk f32B f12B tagT
theorem open_sealed (w : World) (r b : Nat) (L : List (Nat × ByteArray)) (hL : Laid w) (h : IsK w r b L) (e : Nat) (s : ByteArray) (hm : (e, s) ∈ L) (path : ByteArray) (v : Nat) (nonce text : ByteArray) (hn : nonce.size = 12) (hp : path.size ≤ 1048576) (ht : text.size ≤ 1048576) :
    Calls Tryd.prog 22 #[.pointer (some ⟨r, 0, none⟩), .string path, .int .u64 (v : Int), .string (sealT s e path v nonce text)] w fun x w' => x = .returned (.tuple #[.string text, .int .i64 0]) ∧ Ext w w' := by
  have hk1 : (kd s cipB 16).size = 16 := kd_size _ _ _ (by omega)
  have h1 := open_key w hL h s hm path v (C := nonce) (D := turnT (kd s cipB 16) nonce 0 text) (T := tagT (kd s tagB 32) path v t1 (t4 e) nonce (turnT (kd s cipB 16) nonce 0 text)) hn (tagT_size _ _ _ _ _ _ _) (by rw [turnT_size _ _ _ _ hk1]; exact ht) hp
  rw [chk_self _ (by rw [size_list]; exact tagT_size _ _ _ _ _ _ _), turnT_twice _ _ _ _ hk1] at h1
  exact h1
theorem epoch_sealed (s : ByteArray) (e : Nat) (he : e < 4294967296) (path : ByteArray) (v : Nat) (nonce text : ByteArray) (hn : nonce.size = 12) (ht : text.size ≤ 1048576) (w : World) :
    Calls Tryd.prog 24 #[.string (sealT s e path v nonce text)] w fun x w' => x = .returned (.tuple #[.int .u32 (e : Int), .int .i64 0]) ∧ Ext w w' :=
  epoch_yes he hn (tagT_size _ _ _ _ _ _ _) (by rw [turnT_size _ _ _ _ (kd_size _ _ _ (by omega))]; exact ht) w
theorem open_gone (w : World) (r b : Nat) (L : List (Nat × ByteArray)) (h : IsK w r b L) (s : ByteArray) (e : Nat) (he : e < 4294967296) (path : ByteArray) (v : Nat) (nonce text : ByteArray) (hn : nonce.size = 12) (hp : path.size ≤ 1048576) (ht : text.size ≤ 1048576) (hg : e ∉ eps L) :
    Calls Tryd.prog 22 #[.pointer (some ⟨r, 0, none⟩), .string path, .int .u64 (v : Int), .string (sealT s e path v nonce text)] w fun x w' => x = .returned (.tuple #[.string ⟨#[]⟩, .int .i64 140]) ∧ Ext w w' :=
  open_epoch w h path v he hn (tagT_size _ _ _ _ _ _ _) (by rw [turnT_size _ _ _ _ (kd_size _ _ _ (by omega))]; exact ht) hp hg
/-- What Open refuses Again refuses. -/
theorem again_err (w : World) (a : Value) (path : ByteArray) (v : Int) (nonce s : ByteArray) (c : Int) (hc : (c == 0) = false) (hO : Calls Tryd.prog 22 #[a, .string path, .int .u64 v, .string s] w fun x w' => x = .returned (.tuple #[.string ⟨#[]⟩, .int .i64 c]) ∧ Ext w w') :
    Calls Tryd.prog 23 #[a, .string path, .int .u64 v, .string nonce, .string s] w fun x w' => x = .returned (.tuple #[.string ⟨#[]⟩, .int .i64 c]) ∧ Ext w w' := by
  have HO := Lib.hid hO
  have hc2 : ¬ c = 0 := by simpa using hc
  clear hO
  go_enter Tryd.func23, Tryd.ntmps23
  go_wp2_with (go_at_call 22; refine (HO.out).mono ?_; rintro e w1 ⟨rfl, x1⟩)
  go_ret2
  exact ⟨rfl, x1⟩
/-- What opens is closed again. -/
theorem again_yes (w : World) (a : Value) (path : ByteArray) (v : Int) (nonce s X Y : ByteArray) (c : Int) (hO : Calls Tryd.prog 22 #[a, .string path, .int .u64 v, .string s] w fun x w' => x = .returned (.tuple #[.string X, .int .i64 0]) ∧ Ext w w')
    (hC : ∀ u, Ext w u → Calls Tryd.prog 18 #[a, .string path, .int .u64 v, .string nonce, .string X] u fun x w' => x = .returned (.tuple #[.string Y, .int .i64 c]) ∧ Ext u w') :
    Calls Tryd.prog 23 #[a, .string path, .int .u64 v, .string nonce, .string s] w fun x w' => x = .returned (.tuple #[.string Y, .int .i64 c]) ∧ Ext w w' := by
  have HO := Lib.hid hO; have HC := Lib.hid hC
  clear hO hC
  go_enter Tryd.func23, Tryd.ntmps23
  go_wp2_with (first
    | (go_at_call 22; refine (HO.out).mono ?_; rintro e w1 ⟨rfl, x1⟩)
    | (go_at_call 18; refine (HC.out _ x1).mono ?_; rintro e w2 ⟨rfl, x2⟩))
  go_ret2
  exact ⟨rfl, x1.trans x2⟩
end Go.Proofs.YtdnpgmoiapkhnaaDoor
end

section
namespace Go.Proofs.YtdnpgmoiapkhnaaDoor
open Go.RowKit
attribute [local irreducible] rkey expand enc dec ctrB ctrC ctrL xorL turnL turnT kd t4 t8 env5 chk f32B f12B tagT sealT

theorem open_other14 (w : World) (r b : Nat) (hL : Laid w) (h : IsK w r b [(1, f32B ⟨#[107]⟩)]) :
    Calls Tryd.prog 22 #[.pointer (some ⟨r, 0, none⟩), .string ⟨#[98]⟩, .int .u64 1, .string (sealT (f32B ⟨#[107]⟩) 1 ⟨#[97]⟩ 1 (f12B ⟨#[110]⟩) ⟨#[115, 101, 99, 114, 101, 116]⟩)] w fun x w' => x = .returned (.tuple #[.string ⟨#[]⟩, .int .i64 141]) ∧ Ext w w' := by
  have hk1 : (kd (f32B ⟨#[107]⟩) cipB 16).size = 16 := kd_size _ _ _ (by omega)
  have h1 := open_key (e := 1) w hL h (f32B ⟨#[107]⟩) (by simp) ⟨#[98]⟩ 1 (C := f12B ⟨#[110]⟩) (D := turnT (kd (f32B ⟨#[107]⟩) cipB 16) (f12B ⟨#[110]⟩) 0 ⟨#[115, 101, 99, 114, 101, 116]⟩) (T := tagT (kd (f32B ⟨#[107]⟩) tagB 32) ⟨#[97]⟩ 1 t1 (t4 1) (f12B ⟨#[110]⟩) (turnT (kd (f32B ⟨#[107]⟩) cipB 16) (f12B ⟨#[110]⟩) 0 ⟨#[115, 101, 99, 114, 101, 116]⟩)) (f12B_size _) (tagT_size _ _ _ _ _ _ _) (by rw [turnT_size _ _ _ _ hk1]; decide) (by decide)
  rw [chk_b14] at h1
  unfold sealT
  exact h1
set_option maxRecDepth 100000 in
set_option maxHeartbeats 4000000 in
theorem works14_any (w : World) (hL : Laid w) : Calls Tryd.prog 16 #[] w fun e w' => e = .returned (.bool true) ∧ Ext w w' := by
  have HR := Lib.hid (fun u => rings_any u none 0 [] (fun i s hs => by simp at hs) (by simp))
  have hrn : ringOf [] (min ([] : List ByteArray).length 8) = [(1, f32B ⟨#[107]⟩)] := rfl
  rw [hrn] at HR
  have HN := Lib.hid (fun u => nonce_any ⟨#[110]⟩ u)
  have HLd := Lib.hid hL
  have htop : top (eps [(1, f32B ⟨#[107]⟩)]) = 1 := by simp [eps, top]
  have HC := Lib.hid (fun u r b (hx : Ext w u) (hu : IsK u r b [(1, f32B ⟨#[107]⟩)]) => by
    have := close_yes u r b _ (hL.ext hx) hu (f32B ⟨#[107]⟩) (by rw [htop]; simp) ⟨#[97]⟩ 1 (f12B ⟨#[110]⟩) ⟨#[115, 101, 99, 114, 101, 116]⟩ (f12B_size _) (by decide) (by decide)
    rw [htop] at this
    exact this)
  have HO : Hid (∀ u r b, Ext w u → IsK u r b [(1, f32B ⟨#[107]⟩)] → Calls Tryd.prog 22 #[.pointer (some ⟨r, 0, none⟩), .string ⟨#[97]⟩, .int .u64 1, .string (sealT (f32B ⟨#[107]⟩) 1 ⟨#[97]⟩ 1 (f12B ⟨#[110]⟩) ⟨#[115, 101, 99, 114, 101, 116]⟩)] u fun x w' => x = .returned (.tuple #[.string ⟨#[115, 101, 99, 114, 101, 116]⟩, .int .i64 0]) ∧ Ext u w') := Lib.hid (fun u r b (hx : Ext w u) (hu : IsK u r b [(1, f32B ⟨#[107]⟩)]) => open_sealed u r b _ (hL.ext hx) hu 1 (f32B ⟨#[107]⟩) (by simp) ⟨#[97]⟩ 1 (f12B ⟨#[110]⟩) ⟨#[115, 101, 99, 114, 101, 116]⟩ (f12B_size _) (by decide) (by decide))
  have HB := Lib.hid (fun u r b (hx : Ext w u) (hu : IsK u r b [(1, f32B ⟨#[107]⟩)]) => open_other14 u r b (hL.ext hx) hu)
  have HE : Hid (∀ u, Calls Tryd.prog 24 #[.string (sealT (f32B ⟨#[107]⟩) 1 ⟨#[97]⟩ 1 (f12B ⟨#[110]⟩) ⟨#[115, 101, 99, 114, 101, 116]⟩)] u fun x w' => x = .returned (.tuple #[.int .u32 1, .int .i64 0]) ∧ Ext u w') := Lib.hid (fun u => epoch_sealed (f32B ⟨#[107]⟩) 1 (by decide) ⟨#[97]⟩ 1 (f12B ⟨#[110]⟩) ⟨#[115, 101, 99, 114, 101, 116]⟩ (f12B_size _) (by decide) u)
  have hz := sealT_size (f32B ⟨#[107]⟩) 1 ⟨#[97]⟩ 1 (f12B ⟨#[110]⟩) ⟨#[115, 101, 99, 114, 101, 116]⟩ (f12B_size _)
  have hz2 : (sealT (f32B ⟨#[107]⟩) 1 ⟨#[97]⟩ 1 (f12B ⟨#[110]⟩) ⟨#[115, 101, 99, 114, 101, 116]⟩).size = 55 := hz
  have HS6 := Lib.hid (fun u => size_lit 6 55 (by decide) (by decide) u)
  clear hrn htop hz hL
  generalize sealT (f32B ⟨#[107]⟩) 1 ⟨#[97]⟩ 1 (f12B ⟨#[110]⟩) ⟨#[115, 101, 99, 114, 101, 116]⟩ = S at *
  generalize f12B ⟨#[110]⟩ = N at *
  generalize [(1, f32B ⟨#[107]⟩)] = L at *
  have hzi : (S.size : Int) = 55 := by omega
  clear hz2
  go_enter Tryd.func16, Tryd.ntmps16
  go_wp2_with (first
    | (go_at_call 17; refine (HR.out _).mono ?_; rintro e w1 ⟨⟨r, b, d, p, c, rfl, k1, d1, q1, p1⟩, x1⟩; have K1 := Lib.hid k1; clear k1 d1 q1 p1)
    | (go_at_call 19; refine (HN.out _).mono ?_; rintro e w2 ⟨rfl, x2⟩; have K2 := Lib.hid (K1.out.ext x2); have y2 := x1.trans x2)
    | (go_at_call 18; refine (HC.out _ _ _ y2 K2.out).mono ?_; rintro e w3 ⟨rfl, x3⟩; have K3 := Lib.hid (K2.out.ext x3); have y3 := y2.trans x3)
    | (go_at_call 22; (with_reducible refine (HO.out _ _ _ y3 K3.out).mono ?_); rintro e w4 ⟨rfl, x4⟩; have K4 := Lib.hid (K3.out.ext x4); have y4 := y3.trans x4)
    | (go_at_call 22; (with_reducible refine (HB.out _ _ _ y4 K4.out).mono ?_); rintro e w5 ⟨rfl, x5⟩; have y5 := y4.trans x5)
    | (go_at_call 24; refine (HE.out _).mono ?_; rintro e w6 ⟨rfl, x6⟩; have y6 := y5.trans x6)
    | (go_at_call 37; refine (HS6.out _).mono ?_; rintro e w7 ⟨rfl, rfl⟩))
  all_goals
    go_ret
    exact ⟨by first | rfl | simp [hzi], y6⟩
end Go.Proofs.YtdnpgmoiapkhnaaDoor
end

section
namespace Go.Proofs.YtdnpgmoiapkhnaaDoor
open Go.RowKit

/-- The bytes ahead of the text. -/
def headT (e : Nat) (N : ByteArray) : ByteArray := ⟨([1] ++ (be 4 e ++ N.data.toList)).toArray⟩
theorem sealT_head (s : ByteArray) (e : Nat) (path : ByteArray) (v : Nat) (N text : ByteArray) (hN : N.size = 12) : (sealT s e path v N text).extract 0 17 = headT e N := by
  unfold sealT env5 headT
  rw [cut_text]
  congr 2
  have h1 : t1.data.toList = [1] := rfl
  have h4 : (t4 e).data.toList = be 4 e := by unfold t4; rfl
  rw [h1, h4, ← List.append_assoc, ← List.append_assoc, List.append_assoc [1], List.take_append_of_le_length (by simp [be_length, hN])]
  exact List.take_of_length_le (by simp [be_length, hN])
/-- The key stream's bytes. -/
def ksAt (s N : ByteArray) (i : Nat) : UInt8 := ((ctrC (kd s cipB 16).data.toList N.data.toList 0 (i / 16 + 1))[i]?).getD 0
theorem ctrC_get {key : List UInt8} (h : key.length = 16) (nonce : List UInt8) (i m : Nat) (hm : i < 16 * m) : (ctrC key nonce 0 m)[i]? = some (((ctrC key nonce 0 (i / 16 + 1))[i]?).getD 0) := by
  obtain ⟨d, hd⟩ : ∃ d, m = (i / 16 + 1) + d := ⟨m - (i / 16 + 1), by omega⟩
  have hl : (ctrC key nonce 0 (i / 16 + 1)).length = 16 * (i / 16 + 1) := ctrC_length h nonce 0 _
  have e : (ctrC key nonce 0 m)[i]? = (ctrC key nonce 0 (i / 16 + 1))[i]? := by
    unfold ctrC at hl ⊢
    rw [hd, catC_add, List.getElem?_append_left (by rw [hl]; omega)]
  rw [e, List.getElem?_eq_getElem (by rw [hl]; omega)]
  rfl
theorem sealT_byte (s : ByteArray) (e : Nat) (path : ByteArray) (v : Nat) (N text : ByteArray) (hN : N.size = 12) (i : Nat) (x : UInt8) (hx : text.data.toList[i]? = some x) : (sealT s e path v N text).data.toList[17 + i]? = some (x ^^^ ksAt s N i) := by
  have hi : i < text.data.toList.length := (List.getElem?_eq_some_iff.1 hx).1
  have hk : (kd s cipB 16).data.toList.length = 16 := by rw [size_list]; exact kd_size _ _ _ (by omega)
  have hD : (turnT (kd s cipB 16) N 0 text).data.toList = turnL (kd s cipB 16).data.toList N.data.toList 0 text.data.toList := by unfold turnT; rfl
  unfold sealT env5
  have h1 : t1.data.toList = [1] := rfl
  have h4 : (t4 e).data.toList = be 4 e := by unfold t4; rfl
  rw [h1, h4, List.getElem?_append_right (by simp; omega), List.getElem?_append_right (by simp [be_length]; omega), List.getElem?_append_right (by simp [be_length, hN]; omega)]
  simp only [List.length_cons, List.length_nil, be_length, size_list, hN]
  rw [show 17 + i - (0 + 1) - 4 - 12 = i by omega, hD, List.getElem?_append_left (by rw [turnL_length hk]; exact hi)]
  unfold turnL xorL
  have hb := blocksOf_le text.data.toList.length
  have hks : (ctrL (kd s cipB 16).data.toList N.data.toList 0 text.data.toList.length)[i]? = some (ksAt s N i) := by
    unfold ctrL ksAt
    rw [List.getElem?_take, if_pos hi, ctrC_get hk _ _ _ (by omega)]
  rw [List.getElem?_zipWith, hx, hks]
theorem index_int (s : ByteArray) (i : Nat) (k : Int) (hk : (i : Int) = k) (b : UInt8) (hb : s.data.toList[i]? = some b) (w : World) :
    (Instr.index 9 (.string s) (.int .i64 k)).run Tryd.prog w = .ok (.int .u8 (b.toNat : Int)) w := by
  subst hk
  exact index_text s i b hb w
theorem xor_same (x y k : UInt8) : (x ^^^ k) ^^^ (y ^^^ k) = x ^^^ y := by
  rw [UInt8.xor_comm y k, ← UInt8.xor_assoc, UInt8.xor_assoc x k k, UInt8.xor_self, UInt8.xor_zero]
/-- How four bytes go together. -/
theorem xor_bytes (x y k : UInt8) : bits BinOp.xor IntKind.u8 ((x ^^^ k).toNat : Int) ((y ^^^ k).toNat : Int) = bits BinOp.xor IntKind.u8 (x.toNat : Int) (y.toNat : Int) := by
  rw [xor_byte, xor_byte, xor_same]
theorem run_min64 (ts : Array TypeId) (t : TypeId) (a b n : Nat) (hn : n = min a b) (u : World) : (Builtin.min_ ts t #[.int .i64 (a : Int), .int .i64 (b : Int)]).run Tryd.prog u = .ok (.int .i64 (n : Int)) u := by
  simp [Builtin.min_, Builtin.min2]
  omega
end Go.Proofs.YtdnpgmoiapkhnaaDoor
end

section
namespace Go.Proofs.YtdnpgmoiapkhnaaDoor
open Go.RowKit

/-! ### Too long -/
theorem mem_joinL {s : ByteArray} : ∀ {l : List ByteArray}, s ∈ l → s.size ≤ (joinL l).length
  | [], h => by cases h
  | x :: r, h => by
    have e : (joinL (x :: r)).length = x.size + (joinL r).length := by simp [joinL]
    rcases List.mem_cons.1 h with rfl | h
    · omega
    · have := mem_joinL h; omega
theorem joinL_bound14 : ∀ {l : List ByteArray}, (∀ s, s ∈ l → s.size ≤ 140737488351232) → (joinL l).length ≤ l.length * 140737488351232
  | [], _ => by simp [joinL]
  | x :: r, h => by
    have e : (joinL (x :: r)).length = x.size + (joinL r).length := by simp [joinL]
    have := h x (by simp)
    have := joinL_bound14 (l := r) fun s hs => h s (by simp [hs])
    rw [e, List.length_cons, Nat.succ_mul]
    omega
theorem joinL_next {l : List ByteArray} {i : Nat} {x : ByteArray} (hx : l[i]? = some x) : (joinL (l.take (i + 1))).length = (joinL (l.take i)).length + x.size := by
  obtain ⟨h1, h2⟩ := List.getElem?_eq_some_iff.1 hx
  rw [joinL_succ l i h1, List.length_append, h2, size_list]
theorem sum64 (n x m : Nat) (hm : n + x = m) (h : m ≤ 5629499534049280) : wrap64 ((n : Int) + (x : Int)) = (m : Int) ∧ IntKind.i64.wrap ((n : Int) + (x : Int)) = (m : Int) := by
  have e : (n : Int) + (x : Int) = (m : Int) := by omega
  rw [e]
  have h2 : (m : Int) ≤ 5629499534049280 := by omega
  exact ⟨IntWalk.wrap64_in _ ⟨by omega, by omega⟩, IntWalk.i64_in _ ⟨by omega, by omega⟩⟩
/-- An answer: where it is no, there are few keys, and no long text. -/
def Heavy14 (k : Nat) (l : List ByteArray) (e : Ending) : Prop := ∃ b, e = .returned (.bool b) ∧ (b = false → k ≤ 8 ∧ ∀ s ∈ l, s.size ≤ 1500)
set_option maxRecDepth 100000 in
set_option maxHeartbeats 4000000 in
theorem heavy14_any (w : World) (p : Option Addr) (c : Nat) (K : List ByteArray) (hP : TextsP w p K) (hK : ∀ s, s ∈ K → s.size ≤ 140737488351232) (hl : K.length ≤ 140737488355328) (q : Option Addr) (cq : Nat) (l : List ByteArray) (hQ : TextsP w q l) (hlS : ∀ s, s ∈ l → s.size ≤ 140737488351232) (h10 : l.length ≤ 10) :
    Calls Tryd.prog 15 #[.slice p K.length c, .slice q l.length cq] w fun e w' => Heavy14 K.length l e ∧ w = w' := by
  have HP := Lib.hid hP; have HQ := Lib.hid hQ
  have HN1 := Lib.hid (fun i => Nat.le_trans (joinL_le l i) (joinL_bound14 hlS))
  have HN2 := Lib.hid (fun i (hi : i ≤ 30) => Nat.le_trans (joinL_bound14 (l := K.take i) fun s hs => hK s (List.mem_of_mem_take hs)) (Nat.mul_le_mul_right 140737488351232 (show (K.take i).length ≤ 30 by rw [List.length_take]; omega)))
  clear hP hQ hK hlS
  go_enter Tryd.func15, Tryd.ntmps15
  go_wp2
  go_loopw [5, 6] (fun nv iv wr => ∃ j n : Nat, j ≤ l.length ∧ iv = .int .i64 (j : Int) ∧ nv = .int .i64 (n : Int) ∧ Hid (n = (joinL (l.take j)).length) ∧ w = wr) (fun _ iv _ => l.length - (intOf iv).toNat)
  case atStart => exact ⟨0, 0, Nat.zero_le _, rfl, rfl, Lib.hid (by simp [joinL]), rfl⟩
  case round =>
    obtain ⟨j, n, hj, rfl, rfl, HN, rfl⟩ := hrel
    have hnb : n ≤ 1407374883512320 := by
      have h1 := HN1.out j
      have h2 : l.length * 140737488351232 ≤ 10 * 140737488351232 := Nat.mul_le_mul_right _ h10
      rw [HN.out]
      omega
    by_cases hlt : j < l.length
    · have hlti : (j : Int) < (l.length : Int) := by omega
      obtain ⟨x, hx⟩ : ∃ x, l[j]? = some x := ⟨_, List.getElem?_eq_getElem hlt⟩
      obtain ⟨a, rfl, ha, hc⟩ := HQ.out j x hx
      have hnx := joinL_next hx
      have hxb : n + x.size ≤ 1407374883512320 := by
        have h1 := HN1.out (j + 1)
        have h2 : l.length * 140737488351232 ≤ 10 * 140737488351232 := Nat.mul_le_mul_right _ h10
        rw [hnx, ← HN.out] at h1
        omega
      have HX := Lib.hid hnx
      obtain ⟨m, hm⟩ : ∃ m, n + x.size = m := ⟨_, rfl⟩
      obtain ⟨hw1, hw2⟩ := sum64 n x.size m hm (by rw [← hm]; exact Nat.le_trans hxb (by decide))
      have HM := Lib.hid hm
      clear hx hnx hm hxb hnb
      go_wp2
      go_roundw
      case rel => exact ⟨j + 1, m, hlt, by go_num, by first | rfl | (have := HM.out; go_num), Lib.hid (by rw [HX.out, ← HN.out, HM.out]), by first | rfl | trivial⟩
      case measure => simp [intOf]; omega
    · obtain rfl : j = l.length := by omega
      have hN : n = (joinL l).length := by have := HN.out; rwa [List.take_length] at this
      have HN' := Lib.hid hN
      have HNB := Lib.hid hnb
      clear HN hN hnb
      go_wp2
      go_loopw [5, 7] (fun nv iv wr => ∃ i k : Nat, i ≤ K.length ∧ i ≤ 30 ∧ iv = .int .i64 (i : Int) ∧ nv = .int .i64 (k : Int) ∧ Hid (k = n + (joinL (K.take i)).length) ∧ w = wr) (fun _ iv _ => 30 - (intOf iv).toNat)
      case atStart => exact ⟨0, n, Nat.zero_le _, by omega, rfl, rfl, Lib.hid (by simp [joinL]), rfl⟩
      case round =>
        obtain ⟨i, k, hi, h30, rfl, rfl, HK, rfl⟩ := hrel
        have hkb : k ≤ 5629499534049280 := by
          have h1 := HN2.out i h30
          have h2 := HNB.out
          rw [HK.out]
          omega
        by_cases hlt : i < K.length ∧ i < 30
        · obtain ⟨h1, h2⟩ := hlt
          have h1i : (i : Int) < (K.length : Int) := by omega
          have h2i : (i : Int) < 30 := by omega
          obtain ⟨x, hx⟩ : ∃ x, K[i]? = some x := ⟨_, List.getElem?_eq_getElem h1⟩
          obtain ⟨a, rfl, ha, hc⟩ := HP.out i x hx
          have hnx := joinL_next hx
          have hxb : k + x.size ≤ 5629499534049280 := by
            have h3 := HN2.out (i + 1) (by omega)
            have h4 := HNB.out
            rw [hnx] at h3
            rw [HK.out]
            omega
          have HX := Lib.hid hnx
          obtain ⟨m, hm⟩ : ∃ m, k + x.size = m := ⟨_, rfl⟩
          obtain ⟨hw1, hw2⟩ := sum64 k x.size m hm (by rw [← hm]; exact hxb)
          have HM := Lib.hid hm
          clear hx hnx hm hxb hkb
          go_wp2
          go_roundw
          case rel => exact ⟨i + 1, m, h1, by omega, by go_num, by first | rfl | (have := HM.out; go_num), Lib.hid (by rw [HX.out, ← HM.out, HK.out]; omega), by first | rfl | trivial⟩
          case measure => simp [intOf]; omega
        · have hkn : n ≤ k := by have := HK.out; omega
          have hall : n ≤ 1500 → ∀ s ∈ l, s.size ≤ 1500 := fun q s hs => by
            have := mem_joinL hs
            rw [← HN'.out] at this
            omega
          have HA := Lib.hid hall
          clear hall hkb
          by_cases h1 : i < K.length
          · have h1i : (i : Int) < (K.length : Int) := by omega
            have h2i : ¬ (i : Int) < 30 := by omega
            have h8 : (8 : Int) < (K.length : Int) := by omega
            go_wp2
            all_goals
              go_ret
              exact ⟨⟨_, rfl, fun q => by simp at q <;> omega⟩, rfl⟩
          · have h1i : ¬ (i : Int) < (K.length : Int) := by omega
            clear h30
            by_cases h15 : 1500 < k
            · have h15i : (1500 : Int) < (k : Int) := by omega
              go_wp2
              go_ret
              exact ⟨⟨_, rfl, fun q => by simp at q <;> omega⟩, rfl⟩
            · have h15i : ¬ (1500 : Int) < (k : Int) := by omega
              by_cases h8 : 8 < K.length
              · have h8i : (8 : Int) < (K.length : Int) := by omega
                go_wp2
                go_ret
                exact ⟨⟨_, rfl, fun q => by simp at q <;> omega⟩, rfl⟩
              · have h8i : ¬ (8 : Int) < (K.length : Int) := by omega
                go_wp2
                go_ret
                exact ⟨⟨_, rfl, fun _ => ⟨by omega, HA.out (by omega)⟩⟩, rfl⟩
end Go.Proofs.YtdnpgmoiapkhnaaDoor
end

section
namespace Go.Proofs.YtdnpgmoiapkhnaaDoor
open Go.RowKit
attribute [local irreducible] rkey expand enc dec ctrB ctrC ctrL xorL turnL turnT kd t4 t8 env5 chk f32B f12B tagT sealT headT ksAt ringOf lastOf

theorem texts_p {w : World} {a : Addr} {l : List ByteArray} (h : Texts w a l) : TextsP w (some a) l := fun i s hs => ⟨a, rfl, h i s hs⟩
set_option maxRecDepth 1000000 in
set_option maxHeartbeats 8000000 in
theorem SealBlind_walk (w : World) (hL : Laid w) (p : Option Addr) (c : Nat) (K : List ByteArray) (hP : TextsP w p K) (hl : K.length ≤ 140737488355328) (hK : ∀ s, s ∈ K → s.size ≤ 140737488351232) (path : ByteArray) (zp : path.size ≤ 140737488351232) (v : Nat) (n : ByteArray) (zn : n.size ≤ 140737488351232) (a : ByteArray) (za : a.size ≤ 140737488351232) (b : ByteArray) (zb : b.size ≤ 140737488351232) :
    Calls Tryd.prog 5 #[.slice p K.length c, .string path, .int .u64 (v : Int), .string n, .string a, .string b] w fun e w' => e = .returned (.bool true) ∧ Ext w w' := by
  obtain ⟨W0, hW0⟩ : ∃ W0, w.alloc (.cells #[.string path, .string n, .string a, .string b] 9) = W0 := ⟨_, rfl⟩
  have hx0 : Ext w W0 := by rw [← hW0]; exact (Ext.refl w).alloc _
  have hq0 : TextsP W0 (some ⟨w.heap.size, 0, none⟩) [path, n, a, b] := by rw [← hW0]; exact texts_p (texts_lit w [path, n, a, b] 9)
  have HHv := Lib.hid (heavy14_any W0 p c K (hP.ext hx0) hK hl (some ⟨w.heap.size, 0, none⟩) 4 [path, n, a, b] hq0 (by intro s hs; simp at hs; rcases hs with rfl | rfl | rfl | rfl <;> assumption) (by simp))
  rw [show [path, n, a, b].length = 4 from rfl] at HHv
  have HW := Lib.hid (fun u (hu : Ext w u) => works14_any u (hL.ext hu))
  have HR := Lib.hid (fun u (hu : Ext w u) => rings_any u p c K (hP.ext hu) hl)
  have HN := Lib.hid (fun u => nonce_any n u)
  have hN12 := f12B_size n
  have htop := ringOf_top K (min K.length 8)
  have hlast := ringOf_last K (min K.length 8)
  have HX0 := Lib.hid hx0; have HLd := Lib.hid hL
  clear hx0 hq0 hP hK hl hL zp zn za zb
  generalize min K.length 8 = m at *
  generalize f12B n = N at *
  go_enter Tryd.func5, Tryd.ntmps5
  go_upto_region 3 with (first
    | (go_at_call 15; refine (HHv.out).mono ?_; rintro e w1 ⟨⟨hb, rfl, hlt⟩, rfl⟩; have HLt := Lib.hid hlt; clear hlt; cases hb)
    | (go_at_call 16; refine (HW.out _ HX0.out).mono ?_; rintro e w2 ⟨rfl, x2⟩))
  rotate_left
  · go_ret
    exact ⟨rfl, HX0.out.trans x2⟩
  obtain ⟨_, hsz⟩ := HLt.out (by trivial)
  have hp : path.size ≤ 1500 := hsz path (by simp)
  have ha : a.size ≤ 1500 := hsz a (by simp)
  have hb : b.size ≤ 1500 := hsz b (by simp)
  have HS1 := Lib.hid (fun u r k (hx : Ext w u) (hu : IsK u r k (ringOf K m)) => by
    have := close_yes u r k _ (HLd.out.ext hx) hu (lastOf K m) (by rw [htop]; exact hlast) path v N a hN12 (by omega) (by omega)
    rw [htop] at this
    exact this)
  have HS2 := Lib.hid (fun u r k (hx : Ext w u) (hu : IsK u r k (ringOf K m)) => by
    have := close_yes u r k _ (HLd.out.ext hx) hu (lastOf K m) (by rw [htop]; exact hlast) path v N b hN12 (by omega) (by omega)
    rw [htop] at this
    exact this)
  have zS := sealT_size (lastOf K m) (m + 1) path v N a hN12
  have zT := sealT_size (lastOf K m) (m + 1) path v N b hN12
  have hcS := fun u => cut_to (sealT (lastOf K m) (m + 1) path v N a) 17 (by omega) u
  have hcT := fun u => cut_to (sealT (lastOf K m) (m + 1) path v N b) 17 (by omega) u
  rw [sealT_head _ _ _ _ _ _ hN12] at hcS hcT
  have HBs := Lib.hid (fun i x => sealT_byte (lastOf K m) (m + 1) path v N a hN12 i x)
  have HBt := Lib.hid (fun i x => sealT_byte (lastOf K m) (m + 1) path v N b hN12 i x)
  clear HLt hsz htop hlast hN12 hp HHv
  generalize sealT (lastOf K m) (m + 1) path v N a = S at *
  generalize sealT (lastOf K m) (m + 1) path v N b = T at *
  generalize headT (m + 1) N = H at *
  generalize ksAt (lastOf K m) N = k at *
  generalize ringOf K m = L at *
  have hcS2 : ∀ u, (Instr.slice 9 (.string S) none (some (.int .i64 17)) none).run Tryd.prog u = .ok (.string H) u := hcS
  have hcT2 : ∀ u, (Instr.slice 9 (.string T) none (some (.int .i64 17)) none).run Tryd.prog u = .ok (.string H) u := hcT
  clear hcS hcT
  have zSi : (S.size : Int) = 17 + (a.size : Int) + 32 := by omega
  have zTi : (T.size : Int) = 17 + (b.size : Int) + 32 := by omega
  have hwS : IntKind.i64.wrap (17 + (a.size : Int)) = 17 + (a.size : Int) := IntWalk.i64_in _ ⟨by omega, by omega⟩
  have hwS2 : IntKind.i64.wrap (17 + (a.size : Int) + 32) = 17 + (a.size : Int) + 32 := IntWalk.i64_in _ ⟨by omega, by omega⟩
  have hwT : IntKind.i64.wrap (17 + (b.size : Int)) = 17 + (b.size : Int) := IntWalk.i64_in _ ⟨by omega, by omega⟩
  have hwT2 : IntKind.i64.wrap (17 + (b.size : Int) + 32) = 17 + (b.size : Int) + 32 := IntWalk.i64_in _ ⟨by omega, by omega⟩
  obtain ⟨M, hM⟩ : ∃ M, M = min a.size b.size := ⟨_, rfl⟩
  have hmn := fun ts t u => run_min64 ts t a.size b.size M hM u
  have HM := Lib.hid hM
  have hM15 : M ≤ 1500 := by omega
  have HzS := Lib.hid zS; have HzT := Lib.hid zT
  clear hM zS zT
  go_upto_region 8 with (first
    | (go_at_call 17; refine (HR.out _ HX0.out).mono ?_; rintro e w3 ⟨⟨r, bk, d, pd, cd, rfl, k3, d3, q3, p3⟩, x3⟩; have K3 := Lib.hid k3; have y3 := HX0.out.trans x3; clear k3 d3 q3 p3)
    | (go_at_call 19; refine (HN.out _).mono ?_; rintro e w4 ⟨rfl, x4⟩; replace K3 := Lib.hid (K3.out.ext x4); replace y3 := y3.trans x4)
    | (go_at_call 18; (with_reducible refine (HS1.out _ _ _ y3 K3.out).mono ?_); rintro e w5 ⟨rfl, x5⟩; replace K3 := Lib.hid (K3.out.ext x5); replace y3 := y3.trans x5)
    | (go_at_call 18; (with_reducible refine (HS2.out _ _ _ y3 K3.out).mono ?_); rintro e w7 ⟨rfl, x7⟩; replace y3 := y3.trans x7))
  have Y3 := Lib.hid y3
  clear y3 x3 x4 x5 x7
  go_quiet (fail)
  go_wp2_with (fail)
  go_loopw [20] (fun iv wr => ∃ i : Nat, i ≤ M ∧ iv = .int .i64 (i : Int) ∧ Hid (Ext w wr)) (fun iv _ => M - (intOf iv).toNat)
  case atStart => exact ⟨0, Nat.zero_le _, rfl, Lib.hid (by first | exact Y3.out | exact Y3.out.drewN _)⟩
  case round =>
    obtain ⟨i, hi, rfl, HX⟩ := hrel
    clear Y3
    by_cases hlt : i < M
    · have hlti : (i : Int) < (M : Int) := by omega
      have hia : i < a.size := by have := HM.out; omega
      have hib : i < b.size := by have := HM.out; omega
      have hxa : a.data.toList[i]? = some a[i] := byte_at a i hia
      have hxb : b.data.toList[i]? = some b[i] := byte_at b i hib
      have i1 := fun u => index_int S (17 + i) (17 + (i : Int)) (by omega) _ (HBs.out i _ hxa) u
      have i2 := fun u => index_int T (17 + i) (17 + (i : Int)) (by omega) _ (HBt.out i _ hxb) u
      have i3 := fun u => index_text a i _ hxa u
      have i4 := fun u => index_text b i _ hxb u
      have hxr := xor_bytes a[i] b[i] (k i)
      have hw1 : IntKind.i64.wrap (17 + (i : Int)) = 17 + (i : Int) := IntWalk.i64_in _ ⟨by omega, by omega⟩
      clear hxa hxb
      generalize (((a[i] ^^^ k i).toNat : Nat) : Int) = x1 at *
      generalize (((b[i] ^^^ k i).toNat : Nat) : Int) = x2 at *
      generalize ((a[i].toNat : Nat) : Int) = x3 at *
      generalize ((b[i].toNat : Nat) : Int) = x4 at *
      obtain ⟨x5, hx5⟩ : ∃ x5, bits BinOp.xor IntKind.u8 x3 x4 = x5 := ⟨_, rfl⟩
      rw [hx5] at hxr
      clear hia hib
      go_wp2_with (fail)
      go_region
      go_wp2_with (fail)
      go_region
      go_wp2_with (fail)
      go_roundw
      case rel => exact ⟨i + 1, by omega, by go_num, Lib.hid (HX.out.drewN 2)⟩
      case measure => simp [intOf]; omega
    · obtain rfl : i = M := by omega
      go_wp2_with (go_at_call 16; refine (HW.out _ HX.out).mono ?_; rintro e w8 ⟨rfl, x8⟩)
      go_ret
      exact ⟨rfl, HX.out.trans x8⟩
end Go.Proofs.YtdnpgmoiapkhnaaDoor
end

section
namespace Go.Proofs.YtdnpgmoiapkhnaaDoor
open Go.RowKit

theorem ringOf_succ (K : List ByteArray) (i : Nat) : ringOf K (i + 1) = ringOf K i ++ [(i + 2, f32B (K.getD i ⟨#[]⟩))] := rfl
theorem ringOf_congr {K K' : List ByteArray} : ∀ i, (∀ j, j < i → K.getD j ⟨#[]⟩ = K'.getD j ⟨#[]⟩) → ringOf K i = ringOf K' i
  | 0, _ => rfl
  | i + 1, h => by rw [ringOf, ringOf, ringOf_congr i (fun j hj => h j (by omega)), h i (by omega)]
theorem lastOf_congr {K K' : List ByteArray} : ∀ i, (∀ j, j < i → K.getD j ⟨#[]⟩ = K'.getD j ⟨#[]⟩) → lastOf K i = lastOf K' i
  | 0, _ => rfl
  | i + 1, h => by rw [lastOf, lastOf, h i (by omega)]
theorem ringOf_mem (K : List ByteArray) (j : Nat) : ∀ i, j ≤ i → (j + 1, lastOf K j) ∈ ringOf K i
  | 0, h => by obtain rfl : j = 0 := by omega
               exact ringOf_last K 0
  | i + 1, h => by
    by_cases e : j = i + 1
    · subst e; exact ringOf_last K (i + 1)
    · rw [ringOf]; exact List.mem_append_left _ (ringOf_mem K j i (by omega))
theorem joined_getD (K M : List ByteArray) (m i : Nat) (hm : m ≤ K.length) : (K.take m ++ M).getD (m + i) ⟨#[]⟩ = M.getD i ⟨#[]⟩ := by
  simp only [List.getD_eq_getElem?_getD]
  rw [List.getElem?_append_right (by rw [List.length_take]; omega), List.length_take, show m + i - min m K.length = i by omega]
theorem joined_first (K M : List ByteArray) (m j : Nat) (hm : m ≤ K.length) (hj : j < m) : K.getD j ⟨#[]⟩ = (K.take m ++ M).getD j ⟨#[]⟩ := by
  simp only [List.getD_eq_getElem?_getD]
  rw [List.getElem?_append_left (by rw [List.length_take]; omega), List.getElem?_take, if_pos hj]
attribute [local irreducible] rkey expand enc dec ctrB ctrC ctrL xorL turnL turnT kd t4 t8 env5 chk f32B f12B tagT sealT ringOf lastOf outK
set_option maxRecDepth 1000000 in
set_option maxHeartbeats 8000000 in
theorem SealBack_walk (w : World) (hL : Laid w) (p : Option Addr) (c : Nat) (K : List ByteArray) (hP : TextsP w p K) (hl : K.length ≤ 140737488355328) (hK : ∀ s, s ∈ K → s.size ≤ 140737488351232)
    (pm : Option Addr) (cm : Nat) (Mo : List ByteArray) (hPm : TextsP w pm Mo) (hlm : Mo.length ≤ 140737488355328) (hKm : ∀ s, s ∈ Mo → s.size ≤ 140737488351232)
    (path : ByteArray) (zp : path.size ≤ 140737488351232) (v : Nat) (n1 : ByteArray) (zn1 : n1.size ≤ 140737488351232) (n2 : ByteArray) (zn2 : n2.size ≤ 140737488351232) (a : ByteArray) (za : a.size ≤ 140737488351232) :
    Calls Tryd.prog 4 #[.slice p K.length c, .slice pm Mo.length cm, .string path, .int .u64 (v : Int), .string n1, .string n2, .string a] w fun e w' => e = .returned (.bool true) ∧ Ext w w' := by
  obtain ⟨W0, hW0⟩ : ∃ W0, w.alloc (.cells #[.string path, .string n1, .string n2, .string a] 9) = W0 := ⟨_, rfl⟩
  have hx0 : Ext w W0 := by rw [← hW0]; exact (Ext.refl w).alloc _
  have hq0 : TextsP W0 (some ⟨w.heap.size, 0, none⟩) [path, n1, n2, a] := by rw [← hW0]; exact texts_p (texts_lit w [path, n1, n2, a] 9)
  have HHv := Lib.hid (heavy14_any W0 p c K (hP.ext hx0) hK hl (some ⟨w.heap.size, 0, none⟩) 4 [path, n1, n2, a] hq0 (by intro s hs; simp at hs; rcases hs with rfl | rfl | rfl | rfl <;> assumption) (by simp))
  rw [show [path, n1, n2, a].length = 4 from rfl] at HHv
  have HHm := Lib.hid (heavy14_any W0 pm cm Mo (hPm.ext hx0) hKm hlm none 0 [] (fun i s hs => by simp at hs) (by intro s hs; cases hs) (by simp))
  rw [show ([] : List ByteArray).length = 0 from rfl] at HHm
  have HW := Lib.hid (fun u (hu : Ext w u) => works14_any u (hL.ext hu))
  have HR := Lib.hid (fun u (hu : Ext w u) => rings_any u p c K (hP.ext hu) hl)
  have HN1 := Lib.hid (fun u => nonce_any n1 u)
  have HN2 := Lib.hid (fun u => nonce_any n2 u)
  have z1 := f12B_size n1
  have z2 := f12B_size n2
  obtain ⟨m, hm⟩ : ∃ m, min K.length 8 = m := ⟨_, rfl⟩
  have hmK : m ≤ K.length := by omega
  have hm8 : m ≤ 8 := by omega
  obtain ⟨KK, hKK⟩ : ∃ KK, K.take m ++ Mo = KK := ⟨_, rfl⟩
  have hro : ringOf K m = ringOf KK m := ringOf_congr m (fun j hj => by rw [← hKK]; exact joined_first K Mo m j hmK hj)
  rw [hm, hro] at HR
  have hget : ∀ i, KK.getD (m + i) ⟨#[]⟩ = Mo.getD i ⟨#[]⟩ := fun i => by rw [← hKK]; exact joined_getD K Mo m i hmK
  have HGet := Lib.hid hget
  have HPm := Lib.hid hPm
  have HX0 := Lib.hid hx0; have HLd := Lib.hid hL
  clear hx0 hq0 hP hK hl hL zp zn1 zn2 za hPm hKm hlm hKK hro hm hmK hget
  generalize f12B n1 = N1 at *
  generalize f12B n2 = N2 at *
  go_enter Tryd.func4, Tryd.ntmps4
  go_upto_region 3 with (first
    | (go_at_call 15; (with_reducible refine (HHv.out).mono ?_); rintro e w1 ⟨⟨hb, rfl, hlt⟩, rfl⟩; have HLt := Lib.hid hlt; clear hlt; cases hb)
    | (go_at_call 15; (with_reducible refine (HHm.out).mono ?_); rintro e w1 ⟨⟨hb, rfl, hlt⟩, rfl⟩; have HLm := Lib.hid hlt; clear hlt; cases hb)
    | (go_at_call 16; refine (HW.out _ HX0.out).mono ?_; rintro e w2 ⟨rfl, x2⟩))
  rotate_left
  · go_ret
    exact ⟨rfl, HX0.out.trans x2⟩
  · go_ret
    exact ⟨rfl, HX0.out.trans x2⟩
  obtain ⟨_, hsz⟩ := HLt.out (by trivial)
  have hq8 := (HLm.out (by trivial)).1
  have hp : path.size ≤ 1500 := hsz path (by simp)
  have ha : a.size ≤ 1500 := hsz a (by simp)
  clear HHv HHm HLt HLm hsz
  have htop := ringOf_top KK
  have HC1 := Lib.hid (fun u r k (hx : Ext w u) (hu : IsK u r k (ringOf KK m)) => by
    have := close_yes u r k _ (HLd.out.ext hx) hu (lastOf KK m) (by rw [htop]; exact ringOf_last KK m) path v N1 a z1 (by omega) (by omega)
    rw [htop] at this
    exact this)
  have HNw := Lib.hid (fun u r k (hu : IsK u r k (ringOf KK m)) => by
    have := newest_any u r k _ hu
    rw [htop] at this
    exact this)
  have zS := sealT_size (lastOf KK m) (m + 1) path v N1 a z1
  obtain ⟨q, hq⟩ : ∃ q, Mo.length = q := ⟨_, rfl⟩
  rw [hq] at hq8
  obtain ⟨t, ht⟩ : ∃ t, m + q = t := ⟨_, rfl⟩
  have ht16 : t ≤ 16 := by omega
  have zU := sealT_size (lastOf KK t) (t + 1) path v N2 a z2
  have hgood : ∀ u r k, IsK u r k (ringOf KK t) → (∀ j, j ≤ t → (j + 1) ∈ eps (ringOf KK t)) := fun u r k _ j hj => List.mem_map.2 ⟨_, ringOf_mem KK j t hj, rfl⟩
  have HO1 := Lib.hid (fun u r k (hx : Ext w u) (hu : IsK u r k (ringOf KK t)) => open_sealed u r k _ (HLd.out.ext hx) hu (m + 1) (lastOf KK m) (ringOf_mem KK m t (by omega)) path v N1 a z1 (by omega) (by omega))
  have HO2 := Lib.hid (fun u r k (hx : Ext w u) (hu : IsK u r k (ringOf KK t)) => open_sealed u r k _ (HLd.out.ext hx) hu (t + 1) (lastOf KK t) (ringOf_last KK t) path v N2 a z2 (by omega) (by omega))
  have HA1 := Lib.hid (fun u r k (hx : Ext w u) (hu : IsK u r k (ringOf KK t)) => again_yes u (.pointer (some ⟨r, 0, none⟩)) path v N2 (sealT (lastOf KK m) (m + 1) path v N1 a) a (sealT (lastOf KK t) (t + 1) path v N2 a) 0 (HO1.out u r k hx hu) (fun u2 hx2 => by
    have := close_yes u2 r k _ (HLd.out.ext (hx.trans hx2)) (hu.ext hx2) (lastOf KK t) (by rw [htop]; exact ringOf_last KK t) path v N2 a z2 (by omega) (by omega)
    rw [htop] at this
    exact this))
  have HE := Lib.hid (fun u => epoch_sealed (lastOf KK t) (t + 1) (by omega) path v N2 a z2 (by omega) u)
  have HNu := Lib.hid (fun u r k (hu : IsK u r k (ringOf KK t)) => by
    have := newest_any u r k _ hu
    rw [htop] at this
    exact this)
  -- once the first epoch is gone
  have hne : m ≠ t → m + 1 ≠ top (eps (ringOf KK t)) := fun h e => by rw [htop] at e; omega
  have hin : m + 1 ∈ eps (ringOf KK t) := List.mem_map.2 ⟨_, ringOf_mem KK m t (by omega), rfl⟩
  have hgone : m + 1 ∉ eps (outK (ringOf KK t) (m + 1)) := fun h => by
    obtain ⟨x, hx, e⟩ := List.mem_map.1 h
    exact (mem_outK.1 hx).2 e
  have hstay : m ≠ t → (t + 1, lastOf KK t) ∈ outK (ringOf KK t) (m + 1) := fun h => mem_outK.2 ⟨ringOf_last KK t, fun e => h (by simp at e; omega)⟩
  have HRy := Lib.hid (fun (h : m ≠ t) u r k (hu : IsK u r k (ringOf KK t)) => retire_yes u r k _ hu (m + 1) (hne h) hin)
  have HRt := Lib.hid (fun u r k (hu : IsK u r k (ringOf KK t)) => by
    have := retire_top u r k _ hu
    rw [htop] at this
    exact this)
  have HO3 := Lib.hid (fun u r k (hu : IsK u r k (outK (ringOf KK t) (m + 1))) => open_gone u r k _ hu (lastOf KK m) (m + 1) (by omega) path v N1 a z1 (by omega) (by omega) hgone)
  have HA3 := Lib.hid (fun u r k (hu : IsK u r k (outK (ringOf KK t) (m + 1))) => again_err u (.pointer (some ⟨r, 0, none⟩)) path v N2 (sealT (lastOf KK m) (m + 1) path v N1 a) 140 (by decide) (HO3.out u r k hu))
  have HO4 := Lib.hid (fun (h : m ≠ t) u r k (hx : Ext w u) (hu : IsK u r k (outK (ringOf KK t) (m + 1))) => open_sealed u r k _ (HLd.out.ext hx) hu (t + 1) (lastOf KK t) (hstay h) path v N2 a z2 (by omega) (by omega))
  clear hne hin hgone hstay hgood
  have HTop := Lib.hid htop
  have HLen := Lib.hid (ringOf_length KK)
  have hzz : ((sealT (lastOf KK m) (m + 1) path v N1 a).size : Int) = (sealT (lastOf KK t) (t + 1) path v N2 a).size := by omega
  clear htop zS zU z1 z2 hp ha
  have hcast : ((m + 1 : Nat) : Int) = (m : Int) + 1 := by omega
  have hcast2 : ((t + 1 : Nat) : Int) = (t : Int) + 1 := by omega
  rw [hcast] at HNw HRy
  rw [hcast2] at HE HNu HRt
  have HQ := Lib.hid hq; have HTq := Lib.hid ht
  clear ht hq hcast hcast2
  generalize sealT (lastOf KK m) (m + 1) path v N1 a = S at *
  generalize sealT (lastOf KK t) (t + 1) path v N2 a = U at *
  go_upto_region 8 with (first
    | (go_at_call 17; refine (HR.out _ HX0.out).mono ?_; rintro e w3 ⟨⟨r, bk, d, pd, cd, rfl, k3, d3, q3, p3⟩, x3⟩; have K3 := Lib.hid k3; have P3 := Lib.hid (Nat.le_trans HX0.out.size p3); have y3 := HX0.out.trans x3; clear k3 d3 q3 p3)
    | (go_at_call 19; refine (HN1.out _).mono ?_; rintro e w4 ⟨rfl, x4⟩; replace K3 := Lib.hid (K3.out.ext x4); replace y3 := y3.trans x4)
    | (go_at_call 18; refine (HC1.out _ _ _ y3 K3.out).mono ?_; rintro e w5 ⟨rfl, x5⟩; replace K3 := Lib.hid (K3.out.ext x5); replace y3 := y3.trans x5)
    | (go_at_call 20; refine (HNw.out _ _ _ K3.out).mono ?_; rintro e w6 ⟨rfl, x6⟩; replace K3 := Lib.hid (K3.out.ext x6); replace y3 := y3.trans x6))
  have Y3 := Lib.hid y3
  clear y3 x3 x4 x5 x6 HR HN1 HC1 HNw
  go_wp2_with (fail)
  go_loopw [20] (fun iv wr => ∃ i : Nat, i ≤ Mo.length ∧ iv = .int .i64 (i : Int) ∧ Hid (IsK wr r bk (ringOf KK (m + i))) ∧ Hid (Ext w wr)) (fun iv _ => Mo.length - (intOf iv).toNat)
  case atStart => exact ⟨0, Nat.zero_le _, rfl, K3, Y3⟩
  case round =>
    obtain ⟨i, hi, rfl, HK, HX⟩ := hrel
    clear Y3 K3
    by_cases hlt : i < Mo.length
    · have hlti : (i : Int) < (Mo.length : Int) := by omega
      have hi8 : i < 8 := by have := HQ.out; omega
      obtain ⟨x, hx⟩ : ∃ x, Mo[i]? = some x := ⟨_, List.getElem?_eq_getElem hlt⟩
      obtain ⟨a', rfl, ha', hc⟩ := (HPm.out.ext HX.out) i x hx
      have hgd : KK.getD (m + i) ⟨#[]⟩ = x := by rw [HGet.out]; simp [List.getD, hx]
      have hs : ringOf KK (m + i + 1) = ringOf KK (m + i) ++ [(m + i + 2, f32B x)] := by rw [ringOf_succ, hgd]
      have HS := Lib.hid hs
      have HFx := Lib.hid (fun u => fullK_any x u)
      have hz := f32B_size x
      have htp := HTop.out (m + i)
      have hln := HLen.out (m + i)
      have HRo := Lib.hid (fun u (hu : IsK u r bk (ringOf KK (m + i))) => by
        have := rotate_yes u r bk _ hu (f32B x) hz (by rw [hln]; omega) (by rw [htp]; omega)
        rw [htp] at this
        exact this)
      clear hx hgd hs hz htp hln ha'
      rw [show m + i + 1 + 1 = m + i + 2 from rfl, ← HS.out] at HRo
      clear HS
      generalize f32B x = Bx at *
      go_wp2_with (first
        | (go_at_call 9; refine (HFx.out _).mono ?_; rintro e w4 ⟨rfl, x4⟩; have K4 := Lib.hid (HK.out.ext x4); have X4 := Lib.hid (HX.out.trans x4); clear x4)
        | (go_at_call 21; refine (HRo.out _ K4.out).mono ?_; rintro e w5 ⟨rfl, i5, g5⟩; have K5 := Lib.hid i5; have X5 := Lib.hid (X4.out.grownBack g5 P3.out); clear i5 g5))
      go_roundw
      case rel => exact ⟨i + 1, by omega, by go_num, K5, X5⟩
      case measure => simp [intOf]; omega
    · have hie : i = Mo.length := by omega
      have hmt : m + i = t := by rw [hie, HQ.out]; exact HTq.out
      have HMT := Lib.hid hmt; have HIe := Lib.hid hie
      have hK := HK.out
      rw [hmt] at hK
      have KC := Lib.hid hK
      have hX := HX.out
      clear hmt hie hK HK
      by_cases hmt : m = t
      · subst hmt
        go_wp2_with (first
          | (go_at_call 22; (with_reducible refine (HO1.out _ _ _ hX KC.out).mono ?_); rintro e w6 ⟨rfl, x6⟩; replace KC := Lib.hid (KC.out.ext x6); replace hX := hX.trans x6)
          | (go_at_call 19; refine (HN2.out _).mono ?_; rintro e w7 ⟨rfl, x7⟩; replace KC := Lib.hid (KC.out.ext x7); replace hX := hX.trans x7)
          | (go_at_call 23; refine (HA1.out _ _ _ hX KC.out).mono ?_; rintro e w8 ⟨rfl, x8⟩; replace KC := Lib.hid (KC.out.ext x8); replace hX := hX.trans x8)
          | (go_at_call 24; refine (HE.out _).mono ?_; rintro e w9 ⟨rfl, x9⟩; replace KC := Lib.hid (KC.out.ext x9); replace hX := hX.trans x9)
          | (go_at_call 22; (with_reducible refine (HO2.out _ _ _ hX KC.out).mono ?_); rintro e w10 ⟨rfl, x10⟩; replace KC := Lib.hid (KC.out.ext x10); replace hX := hX.trans x10)
          | (go_at_call 20; refine (HNu.out _ _ _ KC.out).mono ?_; rintro e w11 ⟨rfl, x11⟩; replace KC := Lib.hid (KC.out.ext x11); replace hX := hX.trans x11)
          | (go_at_call 25; refine (HRt.out _ _ _ KC.out).mono ?_; rintro e w12 ⟨rfl, x12⟩; replace hX := hX.trans x12)
          | (go_at_call 16; refine (HW.out _ hX).mono ?_; rintro e w13 ⟨rfl, x13⟩))
        go_ret
        exact ⟨rfl, hX.trans x13⟩
      · go_wp2_with (first
          | (go_at_call 22; (with_reducible refine (HO1.out _ _ _ hX KC.out).mono ?_); rintro e w6 ⟨rfl, x6⟩; replace KC := Lib.hid (KC.out.ext x6); replace hX := hX.trans x6)
          | (go_at_call 19; refine (HN2.out _).mono ?_; rintro e w7 ⟨rfl, x7⟩; replace KC := Lib.hid (KC.out.ext x7); replace hX := hX.trans x7)
          | (go_at_call 23; refine (HA1.out _ _ _ hX KC.out).mono ?_; rintro e w8 ⟨rfl, x8⟩; replace KC := Lib.hid (KC.out.ext x8); replace hX := hX.trans x8)
          | (go_at_call 24; refine (HE.out _).mono ?_; rintro e w9 ⟨rfl, x9⟩; replace KC := Lib.hid (KC.out.ext x9); replace hX := hX.trans x9)
          | (go_at_call 22; (with_reducible refine (HO2.out _ _ _ hX KC.out).mono ?_); rintro e w10 ⟨rfl, x10⟩; replace KC := Lib.hid (KC.out.ext x10); replace hX := hX.trans x10)
          | (go_at_call 20; refine (HNu.out _ _ _ KC.out).mono ?_; rintro e w11 ⟨rfl, x11⟩; replace KC := Lib.hid (KC.out.ext x11); replace hX := hX.trans x11)
          | (go_at_call 25; refine (HRy.out hmt _ _ _ KC.out).mono ?_; rintro e w12 ⟨rfl, i12, g12⟩; replace KC := Lib.hid i12; replace hX := hX.grownBack g12 P3.out; clear i12 g12)
          | (go_at_call 22; (with_reducible refine (HO3.out _ _ _ KC.out).mono ?_); rintro e w6 ⟨rfl, x6⟩; replace KC := Lib.hid (KC.out.ext x6); replace hX := hX.trans x6)
          | (go_at_call 23; refine (HA3.out _ _ _ KC.out).mono ?_; rintro e w8 ⟨rfl, x8⟩; replace KC := Lib.hid (KC.out.ext x8); replace hX := hX.trans x8)
          | (go_at_call 22; (with_reducible refine (HO4.out hmt _ _ _ hX KC.out).mono ?_); rintro e w10 ⟨rfl, x10⟩; replace hX := hX.trans x10)
          | (go_at_call 16; refine (HW.out _ hX).mono ?_; rintro e w13 ⟨rfl, x13⟩))
        go_ret
        exact ⟨rfl, hX.trans x13⟩
end Go.Proofs.YtdnpgmoiapkhnaaDoor
end
