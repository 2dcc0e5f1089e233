/- Contracts: the block key of a key, and the inner and the outer key, by the program. -/
import Derived.Test.YteddogalmdgjlaaDoorM20
import Derived.Test.YteddogalmdgjlaaDoorM26
namespace Go.Proofs.YteddogalmdgjlaaDoor
open Go.RowKit

theorem repeatL_one (c : UInt8) (n : Nat) : Lib.repeatL [c] n = List.replicate n c := by
  induction n with
  | zero => rfl
  | succ n ih => rw [Lib.repeatL, ih, List.replicate_succ]; rfl
theorem repeat1_any (c : UInt8) (x : Int) (n : Nat) (hx : x = (n : Int)) (hn : n ≤ 64) (w : World) :
    Calls Tryd.prog 73 #[.string ⟨#[c]⟩, .int .i64 x] w fun e w' => e = .returned (.string ⟨(List.replicate n c).toArray⟩) ∧ Ext w w' := by
  subst hx
  have h := Tryd.strings_Repeat ⟨#[c]⟩ n w (by omega) (by show 1 * n ≤ _; omega)
  have e : (⟨#[c]⟩ : ByteArray).data.toList = [c] := rfl
  rw [e, repeatL_one] at h
  exact h
theorem block_text (K : ByteArray) (k : List UInt8) (h : K.data.toList = keyL k) : K ++ ⟨(List.replicate (64 - K.size) 0).toArray⟩ = ⟨(blockL k).toArray⟩ := by
  have e : K = ⟨(keyL k).toArray⟩ := by rw [← h]
  have e2 : K.size = (keyL k).length := by rw [← h, size_list]
  rw [e2]
  conv => lhs; lhs; rw [e]
  exact str_append _ _
set_option maxRecDepth 100000 in
theorem blockKey_any (key : ByteArray) (w : World) (hL : Laid w) (hk : key.size ≤ 1099511627776) :
    Calls Tryd.prog 57 #[.string key] w fun e w' => e = .returned (.string ⟨(blockL key.data.toList).toArray⟩) ∧ Ext w w' := by
  by_cases hlong : 64 < key.size
  · have hK : (⟨(shaL key.data.toList).toArray⟩ : ByteArray).data.toList = keyL key.data.toList := by unfold keyL; rw [if_pos (by rw [size_list]; exact hlong)]
    have hKs : (⟨(shaL key.data.toList).toArray⟩ : ByteArray).size = 32 := by rw [txt_size, shaL_length]
    have HS := Lib.hid (fun t => Of_one w key t hL hk)
    have HB := Lib.hid (block_text _ _ hK)
    clear hK hL
    generalize (⟨(shaL key.data.toList).toArray⟩ : ByteArray) = K at *
    go_enter Tryd.func57, Tryd.ntmps57
    go_wp2_with (first
      | (go_at_call 72; refine (HS.out _).mono ?_; rintro e w1 ⟨rfl, h1⟩)
      | (go_at_call 73; refine (repeat1_any 0 _ (64 - K.size) (by omega) (by omega) _).mono ?_; rintro e w2 ⟨rfl, h2⟩))
    go_ret
    exact ⟨by rw [← HB.out, hKs]; rfl, h1.trans h2⟩
  · have hK : key.data.toList = keyL key.data.toList := by unfold keyL; rw [if_neg (by rw [size_list]; exact hlong)]
    have HB := Lib.hid (block_text _ _ hK)
    clear hK hL
    go_enter Tryd.func57, Tryd.ntmps57
    go_wp2_with (go_at_call 73; refine (repeat1_any 0 _ (64 - key.size) (by omega) (by omega) _).mono ?_; rintro e w2 ⟨rfl, h2⟩)
    go_ret
    exact ⟨by rw [← HB.out]; rfl, h2⟩
theorem mix_text2 (k : List UInt8) (c : UInt8) : xorL (⟨(blockL k).toArray⟩ : ByteArray).data.toList (⟨(List.replicate 64 c).toArray⟩ : ByteArray).data.toList = mixL k c := by simp [mixL]
theorem xor_mix (k : List UInt8) (c : UInt8) (w : World) : Calls Tryd.prog 74 #[.string ⟨(blockL k).toArray⟩, .string ⟨(List.replicate 64 c).toArray⟩] w fun e w' => e = .returned (.tuple #[.string ⟨(mixL k c).toArray⟩, .bool true]) ∧ Ext w w' := by
  have h := xor_yes ⟨(blockL k).toArray⟩ ⟨(List.replicate 64 c).toArray⟩ (by rw [txt_size, txt_size, blockL_length, List.length_replicate]) (by rw [txt_size, blockL_length]; decide) w
  rw [mix_text2] at h
  exact h
theorem mixed_any (k : List UInt8) (c : UInt8) (w : World) :
    Calls Tryd.prog 58 #[.string ⟨(blockL k).toArray⟩, .string ⟨#[c]⟩] w fun e w' => e = .returned (.string ⟨(mixL k c).toArray⟩) ∧ Ext w w' := by
  have HX := Lib.hid (xor_mix k c)
  generalize (⟨(blockL k).toArray⟩ : ByteArray) = B at *
  go_enter Tryd.func58, Tryd.ntmps58
  go_wp2_with (first
    | (go_at_call 73; refine (repeat1_any c _ 64 rfl (by decide) _).mono ?_; rintro e w1 ⟨rfl, h1⟩)
    | (go_at_call 74; refine (HX.out _).mono ?_; rintro e w2 ⟨rfl, h2⟩))
  go_ret
  exact ⟨rfl, h1.trans h2⟩
theorem keys_info : (Tryd.prog.info? 100).map (·.size) = some 2 := by kernel_rfl
set_option maxRecDepth 100000 in
theorem keysOf_any (key : ByteArray) (w : World) (hL : Laid w) (hk : key.size ≤ 1099511627776) :
    Calls Tryd.prog 51 #[.string key] w fun e w' => e = .returned (.agg #[.string ⟨(mixL key.data.toList 54).toArray⟩, .string ⟨(mixL key.data.toList 92).toArray⟩]) ∧ Ext w w' := by
  have HB := Lib.hid (fun u (h : Ext w u) => blockKey_any key u (hL.ext h) hk)
  have H1 := Lib.hid (mixed_any key.data.toList 54)
  have H2 := Lib.hid (mixed_any key.data.toList 92)
  have H0 := Lib.hid (Blk.new w [.string ⟨#[]⟩, .string ⟨#[]⟩] 100)
  clear hL
  go_enter Tryd.func51, Tryd.ntmps51
  go_wp2_with (first
    | (go_at_call 57; refine (HB.out _ ((Ext.refl w).alloc _)).mono ?_; rintro e w1 ⟨rfl, h1⟩)
    | (go_at_call 58; ((with_reducible refine (H1.out _).mono ?_); rintro e w2 ⟨rfl, h2⟩))
    | (go_at_call 58; ((with_reducible refine (H2.out _).mono ?_); rintro e w3 ⟨rfl, h3⟩; have hb3 := ((H0.out.ext h1).ext h2).ext h3; have c0 := hb3.cell 0 _ rfl; have c1 := hb3.cell 1 _ rfl; have f0 := hb3.frozen 0; have f1 := hb3.frozen 1; have HB3 := Lib.hid hb3; clear hb3)))
  exact bodyPost_ret (results_cell_row rfl _ _ w.heap.size 100 #[.string ⟨(mixL key.data.toList 54).toArray⟩, .string ⟨(mixL key.data.toList 92).toArray⟩] (0, 0) _ rfl ((HB3.out.set_ 0 _).set_ 1 _) Tryd.underlying100 rfl keys_info) rfl ⟨rfl, ((((((Ext.refl w).alloc _).trans h1).trans h2).trans h3).setCell (p := ⟨w.heap.size, 0, none⟩) (Nat.le_refl _) _).setCell (p := ⟨w.heap.size, 1, none⟩) (Nat.le_refl _) _⟩
end Go.Proofs.YteddogalmdgjlaaDoor
