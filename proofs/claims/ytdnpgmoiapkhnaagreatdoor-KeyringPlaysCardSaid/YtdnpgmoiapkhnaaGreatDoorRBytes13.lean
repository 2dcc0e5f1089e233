/- Contracts: keys by epochs: the document's ring: its bytes. -/
import Derived.Test.YtdnpgmoiapkhnaaGreatDoorM29
import Derived.Test.YtdnpgmoiapkhnaaGreatDoorM10
import Derived.Test.YtdnpgmoiapkhnaaGreatDoorM44
import Derived.Deep.RegionHeld3
import Derived.Outline
namespace Go.Proofs.YtdnpgmoiapkhnaaGreatDoor
open Go.RowKit

theorem rput4k (n : Nat) (hn : n < 4294967296) (w : World) : Calls Tryz.prog 52 #[.int .u64 (n : Int), .int .i64 4] w fun e w' => e = .returned (.string ⟨(be 4 n).toArray⟩) ∧ Ext w w' := rPut_any n (Lib.hid (by omega)) 4 (by omega) w
set_option maxRecDepth 100000 in
set_option maxHeartbeats 4000000 in
theorem rbytesK_any (w : World) (B d : Nat) (p : Option Addr) (c : Nat) (L : List (Nat × ByteArray)) (h : IsR w B d p c L) (hG : GoodK L) :
    Calls Tryz.prog 41 #[.pointer (some ⟨d, 0, none⟩)] w fun e w' => e = .returned (.string ⟨(ringL L).toArray⟩) ∧ Ext w w' := by
  have h64 := hG.few
  have HR := Lib.hid h; have HG := Lib.hid hG
  have c0 := h.ring.cell 0 _ rfl
  have hwn : IntKind.u8.wrap (L.length : Int) = (L.length : Int) := IntWalk.u8_in _ ⟨by omega, by omega⟩
  have hcv := fun t => one_text2 (L.length : Int) (UInt8.ofNat L.length) (by rw [UInt8.toNat_ofNat']; omega) t w
  have HX := Lib.hid ((Ext.refl w).alloc (.cells #[.int .u8 (L.length : Int)] 5))
  clear h hG
  go_enter Tryz.func41, Tryz.ntmps41
  go_wp2
  clear hcv c0 hwn
  go_loopw [3, 4] (fun sv iv wr => ∃ (j : Nat) (SV : ByteArray), j ≤ L.length ∧ iv = .int .i64 (j : Int) ∧ sv = .string SV ∧ Hid (SV = ⟨(UInt8.ofNat L.length :: rowsL (L.take j)).toArray⟩) ∧ Hid (Ext w wr)) (fun _ iv _ => L.length - (intOf iv).toNat)
  case atStart => exact ⟨0, _, Nat.zero_le _, rfl, rfl, Lib.hid rfl, HX⟩
  case round =>
    obtain ⟨j, SV, hj, rfl, rfl, HS, HXr⟩ := hrel
    clear HX
    have c0 := (HR.out.ext HXr.out).ring.cell 0 _ rfl
    by_cases hlt : j < L.length
    · have hlti : (j : Int) < (L.length : Int) := by omega
      obtain ⟨⟨e, s⟩, hx⟩ : ∃ x, L[j]? = some x := ⟨_, List.getElem?_eq_getElem hlt⟩
      have hRr := HR.out.ext HXr.out
      obtain ⟨g, rfl, _, c1, c2⟩ := hRr.at_ hx
      have hgb : g < wr.heap.size := by
        obtain ⟨g', e', hlt', _⟩ := hRr.ents.cell (entL_at L j _ hx).1
        cases e'
        exact hlt'
      have he := HG.out.each _ (List.mem_of_getElem? hx)
      have hs32 : s.size = 32 := he.2.2
      have he32 : e < 4294967296 := he.2.1
      have hw64 : IntKind.u64.wrap (e : Int) = (e : Int) := by simp [IntKind.wrap, IntKind.signed, IntKind.bits]; omega
      have HP := Lib.hid (fun u => rput4k e he32 u)
      have hzS : SV.size = 1 + 36 * j := by
        rw [HS.out, txt_size, List.length_cons, rowsL_length (fun x hx2 => (HG.out.each x (List.mem_of_mem_take hx2)).2.2), List.length_take]
        omega
      have hnx : SV ++ ⟨(be 4 e).toArray⟩ ++ s = ⟨(UInt8.ofNat L.length :: rowsL (L.take (j + 1))).toArray⟩ := by
        rw [HS.out, str_append, text_add, rowsL_succ hx]
        simp
      have hz4 : (⟨(be 4 e).toArray⟩ : ByteArray).size = 4 := by rw [txt_size, be_length]
      have HNx := Lib.hid hnx
      have HKeep : Hid (∀ u, Ext wr u → u.cell? ⟨d, 0, none⟩ = some (.slice (some ⟨g, 0, none⟩) L.length c) ∧ u.cell? ⟨g, j * 2, none⟩ = some (.int .u32 (e : Int)) ∧ u.cell? ⟨g, j * 2 + 1, none⟩ = some (.string s) ∧ Ext wr u) :=
        Lib.hid fun u hu => ⟨(hRr.ring.ext hu).cell 0 _ rfl, by rw [hu.below.cell (p := ⟨g, j * 2, none⟩) hgb]; exact c1, by rw [hu.below.cell (p := ⟨g, j * 2 + 1, none⟩) hgb]; exact c2, hu⟩
      have hS := HKeep.out wr.drew (Ext.refl wr).drew
      have c0' := c0
      clear hx c0 c1 c2 he hnx hgb hRr
      generalize (⟨(be 4 e).toArray⟩ : ByteArray) = E at *
      have ht1 : ¬ 9223372036854775807 < SV.size + E.size := by omega
      have ht2 : ¬ 9223372036854775807 < SV.size + E.size + s.size := by omega
      have ht3 : ¬ 9223372036854775807 < (SV ++ E).size + s.size := by rw [ByteArray.size_append]; exact ht2
      have hr1 : ∀ u, (Op.stringOp .add SV E).run Tryz.prog u = .ok (.string (SV ++ E)) u := fun u => by simp [Op.stringOp, IntKind.max, IntKind.signed, IntKind.bits]; omega
      have hr2 : ∀ u, (Op.stringOp .add (SV ++ E) s).run Tryz.prog u = .ok (.string (SV ++ E ++ s)) u := fun u => by simp [Op.stringOp, IntKind.max, IntKind.signed, IntKind.bits, ByteArray.size_append]; omega
      have hi1 : ¬ (9223372036854775807 : Int) < (SV.size : Int) + (E.size : Int) := by omega
      have hi2 : ¬ (9223372036854775807 : Int) < (SV.size : Int) + (E.size : Int) + (s.size : Int) := by omega
      go_upto_region 5 with (fail)
      go_region_held3 (fun u => u.cell? ⟨d, 0, none⟩ = some (.slice (some ⟨g, 0, none⟩) L.length c) ∧ u.cell? ⟨g, j * 2, none⟩ = some (.int .u32 (e : Int)) ∧ u.cell? ⟨g, j * 2 + 1, none⟩ = some (.string s) ∧ Ext wr u) (first | exact hS | exact hS1 | assumption | exact HKeep.out _ (by repeat' (first | assumption | exact Ext.refl _ | refine Ext.drew ?_ | refine Ext.alloc ?_ _)) | go_keep) (first
        | (go_at_call 52; refine (HP.out _).mono ?_; rintro e1 w4 ⟨rfl, h4⟩; have y4 := Ext.trans (a := wr) (by repeat' (first | assumption | exact Ext.refl _ | refine Ext.drew ?_ | refine Ext.alloc ?_ _)) h4; have hS1 := HKeep.out _ y4))
      all_goals
        have Y4 := Lib.hid y4
        clear hS hS1 y4
        go_wp2
        go_roundw
        case rel => exact ⟨j + 1, _, hlt, by go_num, rfl, HNx, Lib.hid (HXr.out.trans Y4.out)⟩
        case measure => simp [intOf]; omega
    · obtain rfl : j = L.length := by omega
      have hlti : ¬ (L.length : Int) < (L.length : Int) := by omega
      have HE : Hid (SV = ⟨(ringL L).toArray⟩) := Lib.hid (by rw [HS.out, List.take_length]; rfl)
      clear hlti HS
      go_wp2
      go_ret
      exact ⟨by rw [HE.out]; rfl, HXr.out⟩
end Go.Proofs.YtdnpgmoiapkhnaaGreatDoor
