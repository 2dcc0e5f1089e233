/- Contracts: the words of all round keys, by the program. -/
import Derived.Test.YthglecfbcdikaaaBoxedW
import Derived.Test.YthglecfbcdikaaaDbl
import Derived.Test.YthglecfbcdikaaaBlkMix
import Derived.Test.YthglecfbcdikaaaRow32
import Derived.Deep.RegionWith
namespace Go.Proofs.Ythglecfbcdikaaa
open Go.RowKit
attribute [local irreducible] rkey expand enc dec
def zc44 : Array Value := ((List.replicate 44 0).map cell32).toArray
theorem zero44 : (Try.prog.info? 79).bind (·.zero) = some (.agg zc44) := by kernel_rfl
theorem Row32.zero (w : World) (t : TypeId) : Row32 (w.alloc (.cells zc44 t)) w.heap.size t (List.replicate 44 0) := heap_alloc_new w _
theorem size44 : (Try.prog.info? 79).map (·.size) = some 44 := by kernel_rfl
theorem sized32 {t n : Nat} {l : List Nat} (h : (Try.prog.info? t).map (·.size) = some n) (hl : l.length = n) : (Try.prog.info? t).map (·.size) = some ((l.map cell32).toArray).size := by simp [h, hl]
def kws (key : List UInt8) (j : Nat) : List Nat := (List.range j).map (kw key)
theorem kws_length (key : List UInt8) (j : Nat) : (kws key j).length = j := by simp [kws]
theorem kws_succ (key : List UInt8) (j : Nat) : kws key (j + 1) = kws key j ++ [kw key j] := by simp [kws, List.range_succ]
theorem kws_at (key : List UInt8) (j i : Nat) (h : i < j) : (kws key j).getD i 0 = kw key i := by simp [kws, h]
def kwsZ (key : List UInt8) (j : Nat) : List Nat := kws key j ++ List.replicate (44 - j) 0
theorem kwsZ_length (key : List UInt8) (j : Nat) (h : j ≤ 44) : (kwsZ key j).length = 44 := by unfold kwsZ; rw [List.length_append, kws_length, List.length_replicate]; omega
theorem kwsZ_at (key : List UInt8) (j i : Nat) (h : i < j) : (kwsZ key j).getD i 0 = kw key i := by
  unfold kwsZ
  rw [List.getD_eq_getElem?_getD, List.getElem?_append_left (by rw [kws_length]; exact h), ← List.getD_eq_getElem?_getD, kws_at key j i h]
theorem kwsZ_set (key : List UInt8) (j : Nat) (h : j < 44) : (kwsZ key j).set j (kw key j) = kwsZ key (j + 1) := by
  unfold kwsZ
  have := set_zero32 (kws key j) 44 (kw key j) (by rw [kws_length]; exact h)
  rw [kws_length] at this
  rw [this, kws_succ]
theorem kwsZ_all (key : List UInt8) : kwsZ key 44 = kws key 44 := by simp [kwsZ]
theorem kwsZ_zero (key : List UInt8) : kwsZ key 0 = List.replicate 44 0 := by simp [kwsZ, kws]
attribute [irreducible] kws kwsZ
attribute [local irreducible] kw
theorem kwsZ_step {w : World} {g : Nat} {t : TypeId} {key : List UInt8} {j : Nat} (hj : j < 44) (h : Row32 w g t (kwsZ key j)) (x : Int) (hx : x = (kw key j : Nat)) : Row32 (w.setCell ⟨g, j, none⟩ (.int .u32 x)) g t (kwsZ key (j + 1)) := by
  have := h.set_ j x _ hx
  rw [kwsZ_set key j hj] at this
  exact this
theorem tm_two_right : ∀ x, x < 256 → tm x 2 = xt x := by decide +kernel
set_option maxRecDepth 100000 in
set_option maxHeartbeats 2000000 in
theorem keyWords_any (w : World) (k o : Nat) (s : ByteArray) (hs : s.size = 16) (hb : Bytes w k o boxT) (hk : k < w.heap.size) :
    Calls Try.prog 36 #[.pointer (some ⟨k, o, none⟩), .string s] w fun e w' => e = .returned (.agg ((kws s.data.toList 44).map cell32).toArray) ∧ Ext w w' := by
  have hz := zero_run zero44
  have hsl : s.data.toList.length = 16 := by rw [size_list]; exact hs
  have HG : Hid (∀ (i m : Nat), i < 4 → m = 4 * i → ∀ u, Calls Try.prog 47 #[.string s, .int .i64 (m : Int)] u fun e w' => e = .returned (.tuple #[.int .u32 (kw s.data.toList i : Nat), .bool true]) ∧ u = w') := Lib.hid (fun i m hi hm u => by
    have h := Get32_any s (m : Int) (by omega) u
    rw [getv_yes (by omega), gets_yes (by omega)] at h
    have e : num (Go.Proofs.Ythglecfbcdikaaa.sub s m 4) = kw s.data.toList i := by unfold Go.Proofs.Ythglecfbcdikaaa.sub; rw [hm]; exact kw_key hsl i hi
    rw [e] at h
    exact h)
  have HB := Lib.hid (fun u (hu : Ext w u) => hb.below hu hk)
  have HP := Lib.hid (fun i (h4 : 4 ≤ i) (hi : i < 44) => kw_plain hsl i h4 hi)
  have HF := Lib.hid (fun i (h4 : 4 ≤ i) (hi : i < 44) => kw_four hsl i h4 hi)
  have HL := Lib.hid (kw_lt s.data.toList)
  clear hs hb hk hsl
  generalize s.data.toList = key at *
  go_enter Try.func36, Try.ntmps36
  go_wp2
  go_loopw [8, 6] (fun i r wr => ∃ j : Nat, j ≤ 44 ∧ i = .int .i64 j ∧ r = .int .u8 ((rcon ((j - 1) / 4)).toNat : Int) ∧ Row32 wr (w.heap.size + 1) 79 (kwsZ key j) ∧ Row32 wr w.heap.size 79 (List.replicate 44 0) ∧ Ext w wr) (fun i _ _ => 44 - (intOf i).toNat)
  case atStart => exact ⟨0, Nat.zero_le _, rfl, rfl, by rw [kwsZ_zero]; simpa using Row32.zero (w.alloc _) 79, (Row32.zero w _).alloc _, ((Ext.refl w).alloc _).alloc _⟩
  case round =>
    obtain ⟨j, hj, rfl, rfl, hrow, hres, hext⟩ := hrel
    by_cases hlt : j < 44
    · have hc := hrow.cell j (by rw [kwsZ_length key j hj]; exact hlt)
      have hf := hrow.frozen j
      generalize (kwsZ key j).getD j 0 = old at *
      have HS := Lib.hid (fun q x hx => kwsZ_step hlt (hrow.drewN q) x hx)
      have HRes := Lib.hid hres; have HE := Lib.hid hext
      clear hres hext
      by_cases h4 : j < 4
      · obtain ⟨m, hm⟩ : ∃ m : Nat, 4 * (j : Int) = (m : Int) := ⟨4 * j, by omega⟩
        have HT := Lib.hid (HG.out j m h4 (by omega))
        have hrc : (j + 1 - 1) / 4 = (j - 1) / 4 := by omega
        have HR := Lib.hid hrc
        clear hrow hrc
        go_wp2_with (go_at_call 47; refine (HT.out _).mono ?_; rintro e w1 ⟨rfl, rfl⟩)
        go_roundw
        case rel => exact ⟨j + 1, by omega, by go_num, by rw [HR.out], HS.out 0 _ rfl, HRes.out.other (by omega) _ _, HE.out.setCell (by simp) _⟩
        case measure => simp [intOf]; omega
      · have h4i : ¬ (j : Int) < 4 := by omega
        obtain ⟨p, hp⟩ : ∃ p : Nat, (j : Int) - 4 = (p : Int) := ⟨j - 4, by omega⟩
        obtain ⟨s1, hs1⟩ : ∃ p : Nat, (j : Int) - 1 = (p : Int) := ⟨j - 1, by omega⟩
        have cp := hrow.cell p (by rw [kwsZ_length key j hj]; omega)
        have cs := hrow.cell s1 (by rw [kwsZ_length key j hj]; omega)
        rw [kwsZ_at key j p (by omega)] at cp
        rw [kwsZ_at key j s1 (by omega)] at cs
        have lp := HL.out p; have ls := HL.out s1
        have HPj := HP.out j (by omega) hlt
        have HFj := HF.out j (by omega) hlt
        rw [show j - 4 = p by omega, show j - 1 = s1 by omega] at HPj HFj
        have HPj := Lib.hid HPj; have HFj := Lib.hid HFj
        generalize kw key p = a at *
        generalize kw key s1 = b at *
        have hpl : (p : Int) < 44 := by omega
        have hsl : (s1 : Int) < 44 := by omega
        have hjl : (j : Int) < 44 := by omega
        have wp : IntKind.i64.wrap (p : Int) = (p : Int) := IntWalk.i64_in _ ⟨by omega, by omega⟩
        have ws : IntKind.i64.wrap (s1 : Int) = (s1 : Int) := IntWalk.i64_in _ ⟨by omega, by omega⟩
        clear hrow
        by_cases hm : j % 4 = 0
        · have hmi : (j : Int) % 4 = 0 := by omega
          have hrc : (j + 1 - 1) / 4 = s1 / 4 + 1 := by omega
          rw [show j - 1 = s1 by omega]
          have HR := Lib.hid hrc
          have e := HFj.out hm
          have hrl := (rcon (s1 / 4)).toNat_lt
          have hd : (rcon (s1 / 4 + 1)).toNat = xt (rcon (s1 / 4)).toNat := by rw [rcon_double, tm_two_right _ hrl]
          have HD := Lib.hid hd
          clear hrc hd
          generalize (rcon (s1 / 4)).toNat = r at *
          have hrot := rot_lt b 24 ls
          have hbw := bw_lt (rot b 24) 4
          have T1 : Hid (∀ u, Calls Try.prog 49 #[.int .u32 (b : Int), .int .i64 (-8)] u fun e w' => e = .returned (.int .u32 (rot b 24 : Nat)) ∧ u = w') := Lib.hid (fun u => turn_any b ls (-8) u)
          have T2 := Lib.hid (fun u (hu : Ext w u) => boxedWord_any u k o (rot b 24) hrot (HB.out u hu))
          generalize bw (rot b 24) 4 = d at *
          have hbw : d < 4294967296 := hbw
          have x1 := u32_xor_nat a d lp hbw
          have hx1 : a ^^^ d < 4294967296 := Nat.xor_lt_two_pow (n := 32) lp hbw
          have x2 := u32_xor_nat (a ^^^ d) (r * 16777216) hx1 (by omega)
          rw [← e] at x2
          have hrw : IntKind.u32.wrap (r : Int) = (r : Int) := IntWalk.u32_in _ ⟨by omega, by omega⟩
          have hrs : IntKind.u32.wrap ((r : Int) * 16777216) = ((r * 16777216 : Nat) : Int) := by rw [IntWalk.u32_in _ ⟨by omega, by omega⟩]; omega
          go_wp2
          go_region_with (first
            | (go_at_call 49; refine (T1.out _).mono ?_; rintro e w1 ⟨rfl, rfl⟩)
            | (go_at_call 48; refine (T2.out _ (HE.out.drewN 1)).mono ?_; rintro e w1 ⟨rfl, q, rfl⟩))
          all_goals
            clear x1 cp cs hc
            go_wp2_with (go_at_call 46; refine (double_any r hrl _).mono ?_; rintro e w1 ⟨rfl, rfl⟩)
            go_roundw
            case rel => exact ⟨j + 1, by omega, by go_num, by rw [HR.out, HD.out], HS.out _ _ (by first | rfl | exact x2), HRes.out.other (by omega) _ _, (HE.out.drewN _).setCell (by simp) _⟩
            case measure => simp [intOf]; omega
        · have hmi : ((j : Int) % 4 == 0) = false := by simp; omega
          have hrc : (j + 1 - 1) / 4 = s1 / 4 := by omega
          rw [show j - 1 = s1 by omega]
          have HR := Lib.hid hrc
          have e := HPj.out hm
          have x1 := u32_xor_nat a b lp ls
          rw [← e] at x1
          clear hrc
          go_wp2
          go_region
          go_wp2
          go_roundw
          case rel => exact ⟨j + 1, by omega, by go_num, by rw [HR.out], HS.out 0 _ (by first | exact x1 | rw [e]), (HRes.out.other (by omega) _ _).drew, (HE.out.setCell (by simp) _).drew⟩
          case measure => simp [intOf]; omega
    · obtain rfl : j = 44 := by omega
      rw [kwsZ_all] at hrow
      have e44 : ((44 : Nat) : Int) = 44 := rfl
      rw [e44]
      clear e44
      go_wp2_with (first
        | (refine wpList_load_row rfl 79 (.tmp 5) rfl _ rfl 79 _ (0, 0) _ hrow Try.underlying79 rfl (sized32 size44 (kws_length key 44)) ?_)
        | (refine wpList_store_row rfl 79 (.tmp 4) (.tmp 59) rfl w.heap.size _ rfl rfl 79 _ hres (sized32 size44 (kws_length key 44)) (by simp [kws_length]) (cells32_one _) ?_))
      exact bodyPost_ret (results_cell_row rfl _ _ w.heap.size 79 _ (0, 0) _ rfl (setRow_heap _ _ _ _ _ _ hres) Try.underlying79 rfl (sized32 size44 (kws_length key 44))) rfl ⟨rfl, hext.setRow (Nat.le_refl _) _⟩
end Go.Proofs.Ythglecfbcdikaaa
