/- Contracts: whether the program's ring has the document's keys: the laws of layer 13. -/
import Derived.Test.YtdnpgmoiapkhnaaGreatDoorRBytes13
import Derived.Test.YtdnpgmoiapkhnaaGreatDoorM43
import Derived.Test.YtdnpgmoiapkhnaaGreatDoorM28
import Derived.BigQuiet
import Derived.Outline
namespace Go.Proofs.YtdnpgmoiapkhnaaGreatDoor
open Go.RowKit

set_option maxRecDepth 100000 in
set_option maxHeartbeats 4000000 in
theorem same13_any (w : World) (r b : Nat) (L : List (Nat × ByteArray)) (h : IsK w r b L) (B d : Nat) (p : Option Addr) (c : Nat) (hd : IsR w B d p c L) :
    Calls Tryz.prog 16 #[.pointer (some ⟨r, 0, none⟩), .pointer (some ⟨d, 0, none⟩)] w fun e w' => e = .returned (.bool true) ∧ Ext w w' := by
  have h64 := h.good.few
  have HK := Lib.hid h; have HR := Lib.hid hd
  have HE := Lib.hid (epochs_n w r b L h L.length rfl)
  have HN := Lib.hid (fun u (hu : IsK u r b L) => newest_any u r b L hu)
  have HNr := Lib.hid (fun u (hu : IsR u B d p c L) (hG : GoodK L) => rnewestK_any u B d p c L hu hG)
  have HB := Lib.hid (fun u (hu : IsK u r b L) => bytes_any u r b L hu)
  have HBr := Lib.hid (fun u (hu : IsR u B d p c L) (hG : GoodK L) => rbytesK_any u B d p c L hu hG)
  clear h hd
  generalize top (eps L) = tp at *
  generalize (⟨(ringL L).toArray⟩ : ByteArray) = BS at *
  go_enter Tryz.func16, Tryz.ntmps16
  go_wp2_with (first
    | (go_at_call 35; refine (HE.out).mono ?_; rintro e w1 ⟨g, ce, rfl, e1, x1⟩; have E := Lib.hid e1; have K := Lib.hid (HK.out.ext x1); have R := Lib.hid (HR.out.ext x1); have X := Lib.hid x1; have c1 := R.out.ring.cell 0 _ rfl; clear e1)
    | (go_at_call 34; refine (HN.out _ K.out).mono ?_; rintro e w2 ⟨rfl, x2⟩; replace E := Lib.hid (E.out.ext x2); replace K := Lib.hid (K.out.ext x2); replace R := Lib.hid (R.out.ext x2); replace X := Lib.hid (X.out.trans x2))
    | (go_at_call 39; refine (HNr.out _ R.out K.out.good).mono ?_; rintro e w3 ⟨rfl, x3⟩; replace E := Lib.hid (E.out.ext x3); replace K := Lib.hid (K.out.ext x3); replace R := Lib.hid (R.out.ext x3); replace X := Lib.hid (X.out.trans x3))
    | (go_at_call 32; refine (HB.out _ K.out).mono ?_; rintro e w4 ⟨rfl, x4⟩; replace E := Lib.hid (E.out.ext x4); replace K := Lib.hid (K.out.ext x4); replace R := Lib.hid (R.out.ext x4); replace X := Lib.hid (X.out.trans x4))
    | (go_at_call 41; refine (HBr.out _ R.out K.out.good).mono ?_; rintro e w5 ⟨rfl, x5⟩; replace E := Lib.hid (E.out.ext x5); replace K := Lib.hid (K.out.ext x5); replace R := Lib.hid (R.out.ext x5); replace X := Lib.hid (X.out.trans x5)))
  clear c1
  go_loopw [6] (fun iv wr => ∃ j : Nat, j ≤ L.length ∧ iv = .int .i64 (j : Int) ∧ Hid (IsE wr w.heap.size g ce (eps L)) ∧ Hid (IsR wr B d p c L) ∧ Hid (Ext w wr)) (fun iv _ => L.length - (intOf iv).toNat)
  case atStart => exact ⟨0, Nat.zero_le _, rfl, E, R, X⟩
  case round =>
    obtain ⟨j, hj, rfl, HEr, HRr, HXr⟩ := hrel
    clear E R X K
    by_cases hlt : j < L.length
    · have hlti : (j : Int) < (L.length : Int) := by omega
      obtain ⟨x, hx⟩ : ∃ x, L[j]? = some x := ⟨_, List.getElem?_eq_getElem hlt⟩
      have hle : j < (eps L).length := by unfold eps; rw [List.length_map]; exact hlt
      have hex : (eps L)[j] = x.1 := by
        have h2 := (List.getElem?_eq_some_iff.1 hx).2
        simp [eps, h2]
      have c1 := HEr.out.at_ j x.1 hle hex
      have c2 := HRr.out.ring.cell 0 _ rfl
      obtain ⟨g2, rfl, _, c3, _⟩ := HRr.out.at_ hx
      clear hx hle hex
      generalize x.1 = y at *
      go_wp2_with (fail)
      go_quiet (fail)
      go_wp2
      go_roundw
      case rel => exact ⟨j + 1, by omega, by go_num, Lib.hid (HEr.out.ext ((Ext.refl _).drewN _)), Lib.hid (HRr.out.ext ((Ext.refl _).drewN _)), Lib.hid (HXr.out.drewN _)⟩
      case measure => simp [intOf]; omega
    · have hlti : ¬ (j : Int) < (L.length : Int) := by omega
      go_wp2
      go_ret
      exact ⟨rfl, HXr.out⟩
end Go.Proofs.YtdnpgmoiapkhnaaGreatDoor
