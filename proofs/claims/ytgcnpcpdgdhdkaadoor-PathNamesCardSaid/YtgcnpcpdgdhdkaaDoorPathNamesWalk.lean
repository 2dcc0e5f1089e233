/- The walk of PathNames. -/
import Derived.Test.YtgcnpcpdgdhdkaaDoorPathWk
import Derived.Test.YtgcnpcpdgdhdkaaDoorPathRN
import Derived.Test.YtgcnpcpdgdhdkaaDoorHeavy16
namespace Go.Proofs.YtgcnpcpdgdhdkaaDoor
open Go.RowKit

theorem namesB_len (p : ByteArray) (l : List ByteArray) : (namesB p l).length ≤ l.length := by
  have h := names_len p.data.toList (dataL l) l.length
  rw [List.take_of_length_le (by simp [dataL])] at h
  unfold namesB
  rw [List.length_map]
  exact h
set_option maxRecDepth 100000 in
set_option maxHeartbeats 4000000 in
theorem PathNames_walk (w : World) (p : ByteArray) (hp : p.size ≤ 140737488351232) (q : Option Addr) (c : Nat) (l : List ByteArray) (hq : TextsP w q l) (hs : ∀ s ∈ l, s.size ≤ 140737488351232) (hl : l.length ≤ 140737488355328) :
    Calls Tryd.prog 4 #[.string p, .slice q l.length c] w fun e w' => e = .returned (.bool true) ∧ Ext w w' := by
  have HW := Lib.hid (fun u => works16 u)
  by_cases hh : Heavy l
  · have HV := Lib.hid (heavy_yes w q c l hq hs hl hh)
    clear hh hq hs
    go_enter Tryd.func4, Tryd.ntmps4
    go_wp2_with (first
      | (go_at_call 7; refine HV.out.mono ?_; rintro e w1 ⟨rfl, rfl⟩)
      | (go_at_call 8; refine (HW.out _).mono ?_; rintro e w2 ⟨rfl, x2⟩; have X2 := Lib.hid x2; clear x2))
    go_ret
    exact ⟨rfl, X2.out⟩
  have HV := Lib.hid (heavy_no w q c l hq hs hl hh)
  by_cases h3 : 300 < p.size
  · clear hh hq hs
    have g3 : (300 : Int) < (p.size : Int) := by omega
    go_enter Tryd.func4, Tryd.ntmps4
    go_wp2_with (first
      | (go_at_call 7; refine HV.out.mono ?_; rintro e w1 ⟨rfl, rfl⟩)
      | (go_at_call 8; refine (HW.out _).mono ?_; rintro e w2 ⟨rfl, x2⟩; have X2 := Lib.hid x2; clear x2))
    go_ret
    exact ⟨rfl, X2.out⟩
  have h100 := (not_heavy hh).1
  have HN1 := Lib.hid (Names_any p hp q c l w hq (by omega) hs)
  have HN2 := Lib.hid (fun u (hu : Ext w u) => rNames_any p hp q c l u (hq.ext hu) (by omega) hs)
  have hnl := namesB_len p l
  generalize namesB p l = L at *
  clear hh hq hs
  go_enter Tryd.func4, Tryd.ntmps4
  go_wp2_with (first
    | (go_at_call 7; refine HV.out.mono ?_; rintro e w1 ⟨rfl, rfl⟩)
    | (go_at_call 19; refine HN1.out.mono ?_; rintro e w2 ⟨v1, rfl, hb1, x2⟩; obtain ⟨p1, c1, rfl, t1, -⟩ := hb1.texts; have T1 := Lib.hid t1; have X2 := Lib.hid x2; clear hb1 t1 x2)
    | (go_at_call 20; refine (HN2.out _ X2.out).mono ?_; rintro e w3 ⟨v2, rfl, hb2, x3⟩; obtain ⟨p2, c2, rfl, t2, -⟩ := hb2.texts; have T2 := Lib.hid t2; have X3 := Lib.hid x3; clear hb2 t2 x3)
    | (go_at_call 13; refine (same_is _ _ _ _ _ _ _ L L rfl rfl (T1.out.ext X3.out) T2.out (by omega) (by omega) true (by simp)).mono ?_; rintro e w4 ⟨rfl, x4⟩; have X4 := Lib.hid x4; clear x4)
    | (go_at_call 8; refine (HW.out _).mono ?_; rintro e w5 ⟨rfl, x5⟩; have X5 := Lib.hid x5; clear x5))
  go_ret
  exact ⟨rfl, ((X2.out.trans X3.out).trans X4.out).trans X5.out⟩
end Go.Proofs.YtgcnpcpdgdhdkaaDoor
