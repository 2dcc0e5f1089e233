/- Contracts: keys by epochs: an epoch's two keys: by the program. -/
import Derived.Test.YteddogalmdgjlaaDoorM19
import Derived.Test.YteddogalmdgjlaaDoorTags
import Derived.Deep.RegionHeld3
namespace Go.Proofs.YteddogalmdgjlaaDoor
open Go.RowKit

def cipB : ByteArray := ⟨#[99, 105, 112, 104, 101, 114]⟩
def tagB : ByteArray := ⟨#[116, 97, 103]⟩
/-- What an epoch's key makes of a label. -/
def kd (s label : ByteArray) (n : Nat) : ByteArray := ⟨(derL s.data.toList label.data.toList n).toArray⟩
theorem derived_any (w : World) (s label : ByteArray) (n : Nat) (hL : Laid w) (hs : s.size = 32) (hl : label.size ≤ 1000) (h1 : 1 ≤ n) (h2 : n ≤ 8160) :
    Calls Tryd.prog 37 #[.agg #[.string s], .string label, .int .i64 (n : Int)] w fun e w' => e = .returned (.string (kd s label n)) ∧ Ext w w' := by
  obtain ⟨W0, hW0⟩ : ∃ W0, w.alloc (.cells #[.string s] 64) = W0 := ⟨_, rfl⟩
  have hx0 : Ext w W0 := by rw [← hW0]; exact (Ext.refl w).alloc _
  have hB0 : Blk W0 w.heap.size 64 [.string s] := by rw [← hW0]; exact Blk.new w _ _
  have c0 := hB0.cell 0 _ rfl
  have HD := Lib.hid (derive_yes s label n W0 (hL.ext hx0) (by omega) (by omega) h1 h2)
  have HX := Lib.hid hx0
  clear hL hx0 hB0
  unfold kd
  generalize (⟨(derL s.data.toList label.data.toList n).toArray⟩ : ByteArray) = D at *
  go_enter Tryd.func37, Tryd.ntmps37
  go_wp2_with (go_at_call 45; refine (HD.out).mono ?_; rintro e w1 ⟨rfl, x1⟩)
  go_ret
  exact ⟨rfl, HX.out.trans x1⟩
theorem keys_nil (w : World) (e : Int) :
    Calls Tryd.prog 21 #[.pointer none, .int .u32 e] w fun x w' => x = .returned (.tuple #[.string ⟨#[]⟩, .string ⟨#[]⟩, .bool false]) ∧ w = w' := by
  go_enter Tryd.func21, Tryd.ntmps21
  go_wp2_with (go_at_call 30; refine (thereK_no _).mono ?_; rintro e w1 ⟨rfl, rfl⟩)
  go_ret3
  exact ⟨rfl, rfl⟩
theorem keys_no (w : World) (r b : Nat) (L : List (Nat × ByteArray)) (h : IsK w r b L) (e : Nat) (h32 : e < 4294967296) (he : e ∉ eps L) :
    Calls Tryd.prog 21 #[.pointer (some ⟨r, 0, none⟩), .int .u32 (e : Int)] w fun x w' => x = .returned (.tuple #[.string ⟨#[]⟩, .string ⟨#[]⟩, .bool false]) ∧ Ext w w' := by
  have HH := Lib.hid (has_no w r b L e h h32 he)
  have hc := h.cell
  clear h he
  go_enter Tryd.func21, Tryd.ntmps21
  go_wp2_with (first
    | (go_at_call 31; refine (HH.out).mono ?_; rintro e w3 ⟨rfl, x3⟩)
    | (go_at_call 30; refine (thereK_yes _ r b hc).mono ?_; rintro e w2 ⟨rfl, rfl⟩))
  go_ret3
  exact ⟨rfl, x3⟩
set_option maxRecDepth 100000 in
set_option maxHeartbeats 2000000 in
theorem keys_yes (w : World) (r b : Nat) (L : List (Nat × ByteArray)) (hL : Laid w) (h : IsK w r b L) (e : Nat) (s : ByteArray) (he : (e, s) ∈ L) :
    Calls Tryd.prog 21 #[.pointer (some ⟨r, 0, none⟩), .int .u32 (e : Int)] w fun x w' => x = .returned (.tuple #[.string (kd s cipB 16), .string (kd s tagB 32), .bool true]) ∧ Ext w w' := by
  have hin : e ∈ eps L := List.mem_map.2 ⟨_, he, rfl⟩
  have h32 := (h.good.eps_each e hin).2
  have hs := (h.good.each _ he).2.2
  have HH := Lib.hid (has_yes w r b L e h hin)
  have HK := Lib.hid h
  have HLk := Lib.hid (fun u (hu : IsM u b L) => hu.look false h32 he)
  have HD1 : Hid (∀ u, Ext w u → Calls Tryd.prog 37 #[.agg #[.string s], .string ⟨#[99, 105, 112, 104, 101, 114]⟩, .int .i64 16] u fun x w' => x = .returned (.string (kd s cipB 16)) ∧ Ext u w') := Lib.hid (fun u hu => derived_any u s cipB 16 (hL.ext hu) hs (by decide) (by omega) (by omega))
  have HD2 : Hid (∀ u, Ext w u → Calls Tryd.prog 37 #[.agg #[.string s], .string ⟨#[116, 97, 103]⟩, .int .i64 32] u fun x w' => x = .returned (.string (kd s tagB 32)) ∧ Ext u w') := Lib.hid (fun u hu => derived_any u s tagB 32 (hL.ext hu) hs (by decide) (by omega) (by omega))
  have hc := h.cell
  clear h he hL hs hin
  generalize kd s cipB 16 = D1 at *
  generalize kd s tagB 32 = D2 at *
  go_enter Tryd.func21, Tryd.ntmps21
  go_wp2_with (first
    | (go_at_call 31; refine (HH.out).mono ?_; rintro e w3 ⟨rfl, x3⟩; have c3 := (HK.out.ext x3).cell; have hlk := HLk.out _ (HK.out.ext x3).map; simp only [Bool.false_eq_true, if_false] at hlk)
    | (go_at_call 30; refine (thereK_yes _ r b hc).mono ?_; rintro e w2 ⟨rfl, rfl⟩))
  have x3b : Ext w (w3.alloc (.cells #[.string s] 64)) := x3.alloc _
  have kb : (w3.alloc (.cells #[.string s] 64)).cell? ⟨w3.heap.size, 0, none⟩ = some (.string s) := (Blk.new w3 [.string s] 64).cell 0 _ rfl
  have HBn := Lib.hid (Blk.new w3 [.string s] 64)
  generalize hW : w3.alloc (.cells #[.string s] 64) = W at *
  have k1 := (HBn.out.drew).cell 0 _ rfl
  have x0 : Ext W W.drew := (Ext.refl W).drew
  have HXb := Lib.hid x3b
  have HKeep := Lib.hid (fun u (hu : Ext W u) => (HBn.out.ext hu).cell 0 _ rfl)
  clear hW hlk c3 x3 x3b kb
  go_region_held3 (fun u => u.cell? ⟨w3.heap.size, 0, none⟩ = some (.string s) ∧ Ext W u) (first | exact ⟨k1, x0⟩ | exact ⟨HKeep.out _ (by assumption), by assumption⟩ | go_keep) (first
    | (go_at_call 37; (with_reducible refine (HD1.out _ (HXb.out.trans (by assumption))).mono ?_); rintro e w4 ⟨rfl, h4⟩; have x4 := Ext.trans (a := W) (by assumption) h4)
    | (go_at_call 37; (with_reducible refine (HD2.out _ (HXb.out.trans (by assumption))).mono ?_); rintro e w5 ⟨rfl, h5⟩; have x5 := Ext.trans (a := W) (by assumption) h5))
  all_goals
    go_wp2
    go_ret3
    exact ⟨rfl, HXb.out.trans (by assumption)⟩
end Go.Proofs.YteddogalmdgjlaaDoor
