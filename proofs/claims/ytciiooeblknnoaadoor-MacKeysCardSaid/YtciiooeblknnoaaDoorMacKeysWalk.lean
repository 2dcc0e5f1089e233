/- The walk of MacKeys. -/
import Derived.Test.YtciiooeblknnoaaDoorKeysWay
import Derived.Test.YtciiooeblknnoaaDoorMacWorks
import Derived.Test.YtciiooeblknnoaaDoorSame
namespace Go.Proofs.YtciiooeblknnoaaDoor
open Go.RowKit

theorem texts_blk {w : World} {g : Nat} {t : TypeId} {s : ByteArray} (h : Blk w g t [.string s]) : Texts w ⟨g, 0, none⟩ [s] := by
  refine fun i v hv => ⟨h.lt, ?_⟩
  rw [Addr.add_mid]
  match i, hv with
  | 0, hv => simp at hv; subst hv; exact h.cell 0 _ rfl
  | n + 1, hv => simp at hv
theorem slice_to2 (s : ByteArray) (i : Nat) (h : i ≤ s.size) (u : World) : (Instr.slice 9 (.string s) none (some (.int .i64 (i : Int))) none).run Tryd.prog u = .ok (.string (s.extract 0 i)) u := by
  have hj : (0 : Int) ≤ (i : Int) ∧ (i : Int) ≤ (s.size : Int) := by omega
  simp [Instr.slice, Instr.sliceBounds, Instr.sliceBound, asIntOf, run_underlying Tryd.underlying9, hj]
  intro hgt
  omega
set_option maxRecDepth 100000 in
set_option maxHeartbeats 2000000 in
theorem MacKeys_walk (key : ByteArray) (zeros : Nat) (s : ByteArray) (w : World) (hL : Laid w) (hzr : zeros < 256) :
    Calls Tryd.prog 6 #[.string key, .int .u8 (zeros : Int), .string s] w fun e w' => e = .returned (.bool true) ∧ Ext w w' := by
  have HW := Lib.hid (fun u (hu : Ext w u) => mac_works u (hL.ext hu))
  have HL := Lib.hid hL
  clear hL
  by_cases h1 : 300 < key.size
  · go_enter Tryd.func6, Tryd.ntmps6
    go_wp2_with (go_at_call 8; refine (HW.out _ (Ext.refl w)).mono ?_; rintro e w1 ⟨rfl, h1⟩)
    go_ret
    exact ⟨rfl, h1⟩
  by_cases h2 : 1024 < s.size
  · go_enter Tryd.func6, Tryd.ntmps6
    go_wp2_with (go_at_call 8; refine (HW.out _ (Ext.refl w)).mono ?_; rintro e w1 ⟨rfl, h1⟩)
    go_ret
    exact ⟨rfl, h1⟩
  have js : joinL [s] = s.data.toList := joinL_one s
  have bs : s.data.toList.length ≤ 1099511627776 := by rw [size_list]; omega
  have hlx : (ByteArray.mk #[120]).size = 1 := rfl
  go_enter Tryd.func6, Tryd.ntmps6
  go_wp2
  go_loopw [7] (fun p wr => ∃ L : ByteArray, p = .string L ∧ L.size ≤ 365 ∧ wr = w) (fun p _ => 65 - strLen p)
  case atStart => exact ⟨key, rfl, by omega, rfl⟩
  case round =>
    obtain ⟨L, rfl, hLs, rfl⟩ := hrel
    by_cases hlt : L.size ≤ 64
    · have hsz : (L ++ key ++ ⟨#[120]⟩).size = L.size + key.size + 1 := by rw [ByteArray.size_append, ByteArray.size_append, hlx]
      have HS := Lib.hid hsz
      clear hsz
      go_wp2
      go_roundw
      case rel => exact ⟨_, rfl, by rw [HS.out]; omega, trivial⟩
      case measure => simp only [strLen]; rw [HS.out]; omega
    · have hm1 : ByteArray.size ⟨(macL L.data.toList s.data.toList).toArray⟩ = 32 := by rw [txt_size, macL_length]
      have hsum : macL (⟨(shaL L.data.toList).toArray⟩ : ByteArray).data.toList s.data.toList = macL L.data.toList s.data.toList := (macL_sum _ _ (by rw [size_list]; omega)).symm
      have hz1 : ByteArray.size ⟨(shaL L.data.toList).toArray⟩ = 32 := by rw [txt_size, shaL_length]
      have OL := fun (t : TypeId) (u : World) (g : Nat) (hg : g = u.heap.size) (hu : Ext wr u) => Of_lit L [s] t u g hg (HL.out.ext hu) (by omega) (by simp) (by rw [js]; exact bs)
      have OS := fun (t : TypeId) (u : World) (g : Nat) (hg : g = u.heap.size) (hu : Ext wr u) => Of_lit ⟨(shaL L.data.toList).toArray⟩ [s] t u g hg (HL.out.ext hu) (by omega) (by simp) (by rw [js]; exact bs)
      rw [js] at OL OS
      rw [hsum] at OS
      have HR := Lib.hid (rOf_any L (by omega))
      have HOL : Hid (∀ t u, Ext wr u → Calls Tryd.prog 11 #[.string L, .slice (some ⟨u.heap.size, 0, none⟩) 1 1] (u.alloc (.cells #[.string s] t)) fun e w' => e = .returned (.string ⟨(macL L.data.toList s.data.toList).toArray⟩) ∧ Ext u w') := Lib.hid (fun t u hu => OL t u _ rfl hu)
      have HOS : Hid (∀ t u, Ext wr u → Calls Tryd.prog 11 #[.string ⟨(shaL L.data.toList).toArray⟩, .slice (some ⟨u.heap.size, 0, none⟩) 1 1] (u.alloc (.cells #[.string s] t)) fun e w' => e = .returned (.string ⟨(macL L.data.toList s.data.toList).toArray⟩) ∧ Ext u w') := Lib.hid (fun t u hu => OS t u _ rfl hu)
      clear OL OS hsum
      generalize (⟨(shaL L.data.toList).toArray⟩ : ByteArray) = SL at *
      generalize (⟨(macL L.data.toList s.data.toList).toArray⟩ : ByteArray) = T1 at *
      obtain ⟨c, hc⟩ : ∃ c : Nat, c = min key.size 60 := ⟨_, rfl⟩
      have hmin : ∀ (ts : Array TypeId) (t : TypeId) (u : World), (Builtin.min_ ts t #[.int .i64 (key.size : Int), .int .i64 60]).run Tryd.prog u = .ok (.int .i64 (c : Int)) u := fun ts t u => by
        have := run_min_int2 (P := Tryd.prog) (w := u) ts t .i64 .i64 (key.size : Int) 60
        rw [this]
        congr 2
        omega
      have hck : c ≤ key.size := by omega
      have hc60 : c ≤ 60 := by omega
      have hsl : ∀ u : World, (Instr.slice 9 (.string key) none (some (.int .i64 (c : Int))) none).run Tryd.prog u = .ok (.string (key.extract 0 c)) u := fun u => slice_to2 key c hck u
      obtain ⟨q, hq⟩ : ∃ q : Nat, (zeros : Int) % (65 - (c : Int)) = (q : Int) := ⟨((zeros : Int) % (65 - (c : Int))).toNat, by have := Int.emod_nonneg (zeros : Int) (show (65 - (c : Int)) ≠ 0 by omega); omega⟩
      have hq64 : c + q ≤ 64 := by
        have h : (zeros : Int) % (65 - (c : Int)) < 65 - (c : Int) := Int.emod_lt_of_pos _ (by omega)
        omega
      have hSs : (key.extract 0 c).size = c := by rw [ByteArray.size_extract]; omega
      have hne0 : ¬ (65 - (c : Int)) = 0 := by omega
      have hwr : IntKind.i64.wrap (65 - (c : Int)) = 65 - (c : Int) := IntWalk.i64_in _ ⟨by omega, by omega⟩
      clear hck hc
      go_wp2_with (first
        | (go_at_call 11; ((with_reducible refine (HOL.out _ _ (Ext.refl _)).mono ?_); rintro e w1 ⟨rfl, h1x⟩))
        | (go_at_call 16; refine (HR.out _).mono ?_; rintro e w2 ⟨rfl, h2x⟩)
        | (go_at_call 11; ((with_reducible refine (HOS.out _ _ (h1x.trans h2x)).mono ?_); rintro e w3 ⟨rfl, h3x⟩)))
      have hx3 := (h1x.trans h2x).trans h3x
      have HX3 := Lib.hid hx3
      clear HOL HOS HR h1x h2x h3x hx3
      have hbig1 : ¬ 9223372036854775807 < c + q := by omega
      have hzs : (⟨(List.replicate q 0).toArray⟩ : ByteArray).size = q := by rw [txt_size, List.length_replicate]
      have hSZ : (key.extract 0 c ++ ⟨(List.replicate q 0).toArray⟩).data.toList = (key.extract 0 c).data.toList ++ List.replicate q 0 := by
        rw [ByteArray.data_append]; simp
      have hmz := macL_zeros (key.extract 0 c).data.toList s.data.toList q (by rw [size_list]; omega)
      rw [← hSZ] at hmz
      have hsz2 : (key.extract 0 c ++ ⟨(List.replicate q 0).toArray⟩).size ≤ 64 := by rw [← size_list, hSZ, List.length_append, size_list, List.length_replicate]; omega
      have HO1 : Hid (∀ (u : World) (g : Nat) (t : TypeId), Ext w3 u → Blk u g t [.string s] → Calls Tryd.prog 11 #[.string (key.extract 0 c), .slice (some ⟨g, 0, none⟩) 1 1] u fun e w' => e = .returned (.string ⟨(macL (key.extract 0 c).data.toList s.data.toList).toArray⟩) ∧ Ext u w') := Lib.hid (fun u g t hu hg => by
        have := Of_mac u (key.extract 0 c) _ [s] (HL.out.ext (HX3.out.trans hu)) (by omega) (.inr ⟨_, 1, rfl, texts_blk hg, by simp⟩) (by rw [js]; exact bs)
        rwa [js] at this)
      have HO2 : Hid (∀ (u : World) (g : Nat) (t : TypeId), Ext w3 u → Blk u g t [.string s] → Calls Tryd.prog 11 #[.string (key.extract 0 c ++ ⟨(List.replicate q 0).toArray⟩), .slice (some ⟨g, 0, none⟩) 1 1] u fun e w' => e = .returned (.string ⟨(macL (key.extract 0 c).data.toList s.data.toList).toArray⟩) ∧ Ext u w') := Lib.hid (fun u g t hu hg => by
        have := Of_mac u (key.extract 0 c ++ ⟨(List.replicate q 0).toArray⟩) _ [s] (HL.out.ext (HX3.out.trans hu)) (by omega) (.inr ⟨_, 1, rfl, texts_blk hg, by simp⟩) (by rw [js]; exact bs)
        rwa [js, ← hmz] at this)
      have hmk := make_bytes q (by omega)
      clear hSZ hmz hsz2
      generalize (⟨(macL (key.extract 0 c).data.toList s.data.toList).toArray⟩ : ByteArray) = T2 at *
      generalize key.extract 0 c = S at *
      have W1 : ∀ u, Ext w3 u → Ext wr u := fun u hu => HX3.out.trans hu
      rw [hq]
      refine wp_region_any (by kernel_rfl) ?_
      refine wpAny_inv (KWay S s T2 q w3) ?hsize ?step ?last _ _ _ _ (by decide) ⟨rfl, rfl, rfl, ?base, (Ext.refl w3).drew, fun j t ht hj => ?none⟩
      case hsize => exact fun L a w h => h.size
      case base =>
        intro p hp
        simp only [List.mem_cons, List.not_mem_nil, or_false] at hp
        rcases hp with rfl | rfl | rfl <;> rfl
      case none =>
        exfalso
        have hj2 : j < 17 := (List.getElem?_eq_some_iff.1 ht).1
        have h0 : (Array.replicate 17 false).getD j true = false := by simp [Array.getD, hj2]
        have h1 : (Array.replicate 17 false).getD j true = true := hj
        rw [h0] at h1
        cases h1
      case last =>
        intro L a w' h hr
        have hd := all_done h.size (by kernel_rfl) hr 16 (by decide)
        have h6 := h.facts 16 6 rfl hd
        obtain ⟨X, D⟩ := a
        obtain rfl : D = [] := h.defers
        have hx := h.ext
        go_wp2
        refine bodyPost_ret (results_tmp rfl X _ _) rfl ⟨?_, HX3.out.trans hx⟩
        exact congrArg Ending.returned h6
      case step =>
        intro L a w' i h hi
        have hlt : i < 17 := (ready_spec hi).1
        obtain ⟨X, D⟩ := a
        obtain rfl : D = [] := h.defers
        have b2 : X[2]?.getD undef = .string s := h.ahead (2, _) (by simp)
        have b8 : X[8]?.getD undef = .string S := h.ahead (8, _) (by simp)
        have b9 : X[9]?.getD undef = .int .i64 (q : Int) := h.ahead (9, _) (by simp)
        rcases (show i = 0 ∨ i = 1 ∨ i = 2 ∨ i = 3 ∨ i = 4 ∨ i = 5 ∨ i = 6 ∨ i = 7 ∨ i = 8 ∨ i = 9 ∨ i = 10 ∨ i = 11 ∨ i = 12 ∨ i = 13 ∨ i = 14 ∨ i = 15 ∨ i = 16 by omega) with rfl | rfl | rfl | rfl | rfl | rfl | rfl | rfl | rfl | rfl | rfl | rfl | rfl | rfl | rfl | rfl | rfl
        · refine wpOp_step rfl (fun K hK => ?_)
          go_simp
          exact hK _ _ (h.go 0 48 rfl _ (Ext.refl _) rfl)
        · refine wpOp_step rfl (fun K hK => ?_)
          go_simp
          exact hK _ _ (h.go 1 49 rfl _ (Ext.refl _) rfl)
        · have d1 := ready_after hi _ rfl 0 _ rfl rfl
          have f1 : X[49]?.getD undef = .string s := h.at 1 49 rfl d1
          refine wpOp_step rfl (fun K hK => ?_)
          go_simp
          exact hK _ _ (h.go 2 50 rfl _ ((Ext.refl _).alloc _) ⟨_, _, rfl, Blk.new _ [.string s] _⟩)
        · have d0 := ready_after hi _ rfl 0 _ rfl rfl
          have d2 := ready_after hi _ rfl 1 _ rfl rfl
          have f0 : X[48]?.getD undef = .string S := h.at 0 48 rfl d0
          obtain ⟨g, t, f2, b2x⟩ : ∃ g t, X[50]?.getD undef = .slice (some ⟨g, 0, none⟩) 1 1 ∧ Blk w' g t [.string s] := h.at 2 50 rfl d2
          refine wpOp_step rfl (fun K hK => ?_)
          go_simp
          go_at_call 11
          refine (HO1.out _ _ _ h.ext b2x).mono ?_
          rintro e w5 ⟨rfl, h5⟩
          exact hK _ _ (h.go 3 51 rfl _ h5 rfl)
        · refine wpOp_step rfl (fun K hK => ?_)
          go_simp
          exact hK _ _ (h.go 4 52 rfl _ (Ext.refl _) rfl)
        · refine wpOp_step rfl (fun K hK => ?_)
          go_simp
          exact hK _ _ (h.go 5 53 rfl _ (Ext.refl _) rfl)
        · have d5 := ready_after hi _ rfl 0 _ rfl rfl
          have f5 : X[53]?.getD undef = .int .i64 (q : Int) := h.at 5 53 rfl d5
          refine wpOp_step rfl (fun K hK => ?_)
          go_simp
          exact hK _ _ (h.go 6 54 rfl _ ((Ext.refl _).alloc _) ⟨_, _, rfl, Row.made _ _ q⟩)
        · have d6 := ready_after hi _ rfl 0 _ rfl rfl
          obtain ⟨g, t, f6, r6⟩ : ∃ g t, X[54]?.getD undef = .slice (some ⟨g, 0, none⟩) q q ∧ Row w' g t (List.replicate q 0) := h.at 6 54 rfl d6
          have ht := r6.text (P := Tryd.prog) 29 5 9 Tryd.underlying29 Tryd.underlying5 Tryd.underlying9 q q List.length_replicate
          refine wpOp_step rfl (fun K hK => ?_)
          go_simp
          exact hK _ _ (h.go 7 55 rfl _ (Ext.refl _) rfl)
        · have d4 := ready_after hi _ rfl 0 _ rfl rfl
          have d7 := ready_after hi _ rfl 1 _ rfl rfl
          have f4 : X[52]?.getD undef = .string S := h.at 4 52 rfl d4
          have f7 : X[55]?.getD undef = .string ⟨(List.replicate q 0).toArray⟩ := h.at 7 55 rfl d7
          refine wpOp_step rfl (fun K hK => ?_)
          go_simp
          exact hK _ _ (h.go 8 56 rfl _ (Ext.refl _) rfl)
        · refine wpOp_step rfl (fun K hK => ?_)
          go_simp
          exact hK _ _ (h.go 9 57 rfl _ (Ext.refl _) rfl)
        · have d9 := ready_after hi _ rfl 0 _ rfl rfl
          have f9 : X[57]?.getD undef = .string s := h.at 9 57 rfl d9
          refine wpOp_step rfl (fun K hK => ?_)
          go_simp
          exact hK _ _ (h.go 10 58 rfl _ ((Ext.refl _).alloc _) ⟨_, _, rfl, Blk.new _ [.string s] _⟩)
        · have d8 := ready_after hi _ rfl 0 _ rfl rfl
          have d10 := ready_after hi _ rfl 1 _ rfl rfl
          have f8 : X[56]?.getD undef = .string (S ++ ⟨(List.replicate q 0).toArray⟩) := h.at 8 56 rfl d8
          obtain ⟨g, t, f10, b10⟩ : ∃ g t, X[58]?.getD undef = .slice (some ⟨g, 0, none⟩) 1 1 ∧ Blk w' g t [.string s] := h.at 10 58 rfl d10
          refine wpOp_step rfl (fun K hK => ?_)
          go_simp
          go_at_call 11
          refine (HO2.out _ _ _ h.ext b10).mono ?_
          rintro e w5 ⟨rfl, h5⟩
          exact hK _ _ (h.go 11 59 rfl _ h5 rfl)
        · have d3 := ready_after hi _ rfl 0 _ rfl rfl
          have d11 := ready_after hi _ rfl 1 _ rfl rfl
          have f3 : X[51]?.getD undef = .string T2 := h.at 3 51 rfl d3
          have f11 : X[59]?.getD undef = .string T2 := h.at 11 59 rfl d11
          refine wpOp_step rfl (fun K hK => ?_)
          go_simp
          exact hK _ _ (h.go 12 60 rfl _ (Ext.refl _) rfl)
        · have d12 := ready_after hi _ rfl 0 _ rfl rfl
          have f12 : X[60]?.getD undef = .bool true := h.at 12 60 rfl d12
          refine wpOp_step rfl (fun K hK => ?_)
          go_simp
          exact hK _ _ (h.go 13 61 rfl _ (Ext.refl _) rfl)
        · have d13 := ready_after hi _ rfl 0 _ rfl rfl
          have f13 : X[61]?.getD undef = .bool true := h.at 13 61 rfl d13
          have g13 : X[61]? = some (.bool true) := by
            have hs : X.size = 64 := h.tmps
            have hlt61 : 61 < X.size := by omega
            rw [Array.getElem?_eq_getElem hlt61] at f13 ⊢
            exact congrArg some f13
          refine wpOp_step rfl (fun K hK => ?_)
          go_simp
          go_at_call 8
          refine (HW.out _ (W1 _ h.ext)).mono ?_
          rintro e w5 ⟨rfl, h5⟩
          exact hK _ _ (h.go 14 62 rfl _ h5 rfl)
        · have d13 := ready_after hi _ rfl 0 _ rfl rfl
          have d14 := ready_after hi _ rfl 1 _ rfl rfl
          have f13 : X[61]?.getD undef = .bool true := h.at 13 61 rfl d13
          have f14 : X[62]?.getD undef = .bool true := h.at 14 62 rfl d14
          refine wpOp_step rfl (fun K hK => ?_)
          go_simp
          exact hK _ _ (h.go 15 63 rfl _ (Ext.refl _) rfl)
        · have d15 := ready_after hi _ rfl 0 _ rfl rfl
          have f15 : X[63]?.getD undef = .bool true := h.at 15 63 rfl d15
          refine wpOp_step rfl (fun K hK => ?_)
          go_simp
          exact hK _ _ (h.go 16 6 rfl _ (Ext.refl _) rfl)
end Go.Proofs.YtciiooeblknnoaaDoor
