/- Contracts: the end of the padded text, and the sum out of what is kept, by the program. -/
import Derived.Test.YtciiooeblknnoaaDoorHash
import Derived.Test.YtciiooeblknnoaaDoorROf
import Derived.Deep.RegionWith
import Derived.Deep.RegionHeld3
import Derived.Deep.DeepCutAuto
namespace Go.Proofs.YtciiooeblknnoaaDoor
open Go.RowKit

theorem repeatL_zeros (c : Nat) : Lib.repeatL [0] c = List.replicate c 0 := by
  induction c with
  | zero => rfl
  | succ n ih => rw [Lib.repeatL, ih, List.replicate_succ]; rfl
theorem repeat_any (c : Nat) (hc : c ≤ 63) (w : World) :
    Calls Tryd.prog 40 #[.string ⟨#[0]⟩, .int .i64 (c : Int)] w fun e w' => e = .returned (.string ⟨(List.replicate c 0).toArray⟩) ∧ Ext w w' := by
  have h := Tryd.strings_Repeat ⟨#[0]⟩ c w (by omega) (by show 1 * c ≤ _; omega)
  have e : (⟨#[0]⟩ : ByteArray).data.toList = [0] := rfl
  rw [e, repeatL_zeros] at h
  exact h
theorem restLen_any (w : World) (b : Nat) (m : List UInt8) (h : IsHash w b m) :
    Calls Tryd.prog 43 #[.pointer (some ⟨b, 0, none⟩)] w fun e w' => e = .returned (.int .i64 ((m.length % 64 : Nat) : Int)) ∧ w = w' := by
  obtain ⟨buf, h1, h2, h3⟩ := h.blk
  have hc := hash_count h3 h1
  have hs := h.small
  clear h1 h2 h3 h
  generalize m.length = n at *
  go_enter Tryd.func43, Tryd.ntmps43
  go_wp2
  go_ret
  exact ⟨by simp, rfl⟩
theorem there_any (w : World) (b : Nat) (m : List UInt8) (h : IsHash w b m) :
    Calls Tryd.prog 42 #[.pointer (some ⟨b, 0, none⟩)] w fun e w' => e = .returned (.bool true) ∧ w = w' := by
  obtain ⟨buf, h1, h2, h3⟩ := h.blk
  have hc := hash_made h3
  clear h1 h2 h3 h
  go_enter Tryd.func42, Tryd.ntmps42
  go_wp2
  go_ret
  exact ⟨rfl, rfl⟩
theorem there_no (w : World) :
    Calls Tryd.prog 42 #[.pointer none] w fun e w' => e = .returned (.bool false) ∧ w = w' := by
  go_enter Tryd.func42, Tryd.ntmps42
  go_wp2
  go_ret
  exact ⟨rfl, rfl⟩
theorem put8_any (n : Nat) (w : World) : Calls Tryd.prog 55 #[.int .u64 (8 * (n : Int))] w fun e w' => e = .returned (.string ⟨(be 8 (8 * n)).toArray⟩) ∧ Ext w w' := by
  have := Put64_any (8 * n) w
  have e : ((8 * n : Nat) : Int) = 8 * (n : Int) := by omega
  rw [e] at this
  exact this
set_option maxRecDepth 100000 in
set_option maxHeartbeats 1000000 in
theorem last_any (w : World) (b : Nat) (m : List UInt8) (h : IsHash w b m) :
    Calls Tryd.prog 45 #[.pointer (some ⟨b, 0, none⟩)] w fun e w' => e = .returned (.string ⟨(restOf m ++ tailOf m.length).toArray⟩) ∧ Ext w w' := by
  have HR := Lib.hid (restLen_any w b m h)
  obtain ⟨buf, h1, h2, h3⟩ := h.blk
  have hs := h.small
  have hbl := h3.lt
  have hcount := fun u (hx : Ext w u) => hash_count (h3.ext hx) h1
  have htext := fun u (hx : Ext w u) => hash_text (h3.ext hx) (m.length % 64) 64 (by omega)
  rw [h2] at htext
  have hz := zeros_le m.length
  have hrl := restOf_length m
  have he : (⟨(restOf m).toArray⟩ : ByteArray) ++ ⟨#[128]⟩ ++ ⟨(List.replicate (zeros m.length) 0).toArray⟩ ++ ⟨(be 8 (8 * m.length)).toArray⟩ = ⟨(restOf m ++ tailOf m.length).toArray⟩ := by
    have e128 : (⟨#[128]⟩ : ByteArray) = ⟨([128] : List UInt8).toArray⟩ := rfl
    rw [e128, str_append, str_append, str_append]
    simp [tailOf]
  obtain ⟨r, hr⟩ : ∃ r, r = m.length % 64 := ⟨_, rfl⟩
  have hzi : (63 : Int) - ((r : Int) + 8) % 64 = (zeros m.length : Int) := by unfold zeros; omega
  have hr64 : r < 64 := by omega
  rw [← hr] at HR htext hrl
  have HE := Lib.hid he; have HC := Lib.hid hcount; have HT := Lib.hid htext; have HRL := Lib.hid hrl
  clear he hcount htext hrl h1 h2 h3 h hr
  generalize restOf m = R at *
  generalize hZ : zeros m.length = z at *
  generalize m.length = n at *
  clear hZ
  have HB8 := Lib.hid (be_length 8 (8 * n))
  go_enter Tryd.func45, Tryd.ntmps45
  go_wp2_with (go_at_call 43; refine (HR.out).mono ?_; rintro e w1 ⟨rfl, rfl⟩)
  have hr1 : (r : Int) ≤ 64 := by omega
  have hr2 : r ≤ 64 := by omega
  have hw8 : IntKind.u64.wrap (8 * (n : Int)) = 8 * (n : Int) := IntWalk.u64_in _ ⟨by omega, by omega⟩
  have hl1 := HRL.out
  have hl2 := HB8.out
  have c0 := HC.out w.drew (Ext.refl w).drew
  have t0 := HT.out w.drew (Ext.refl w).drew
  have x0 := (Ext.refl w).drew
  have hb1 : ¬ 9223372036854775807 < r + 1 := by omega
  have hb2 : ¬ 9223372036854775807 < r + 1 + z := by omega
  have hb3 : ¬ 9223372036854775807 < r + 1 + z + 8 := by omega
  go_region_held3 (fun u => u.cell? ⟨b, 73, none⟩ = some (.int .u64 (n : Int)) ∧ (convert 29 9 (.slice (some ⟨b, 9, none⟩) r 64)).run Tryd.prog u = .ok (.string ⟨R.toArray⟩) u ∧ Ext w u) (first | exact ⟨c0, t0, x0⟩ | exact ⟨HC.out _ (by assumption), HT.out _ (by assumption), by assumption⟩ | go_keep) (first
    | (go_at_call 40; refine (repeat_any z hz _).mono ?_; rintro e w4 ⟨rfl, h4⟩; have x4 := Ext.trans (a := w) (by assumption) h4)
    | (go_at_call 55; refine (put8_any n _).mono ?_; rintro e w5 ⟨rfl, h5⟩; have x5 := Ext.trans (a := w) (by assumption) h5))
  all_goals
    have hx : Ext w _ := x5
    go_wp2
    go_ret
    exact ⟨by rw [← HE.out]; simp, hx⟩
end Go.Proofs.YtciiooeblknnoaaDoor
