/- The walk of ShaNear. -/
import Derived.Test.YtlhacmkidonkgaaDoorShaWorks
import Derived.Deep.RegionHeld3
namespace Go.Proofs.YtlhacmkidonkgaaDoor
open Go.RowKit

/-- The bytes that the statement plays. -/
def NB (b n : Nat) : List UInt8 := (List.range n).map fun i => UInt8.ofNat (b + i % 7)
theorem NB_length (b n : Nat) : (NB b n).length = n := by simp [NB]
theorem NB_at (b n j : Nat) (h : j < n) : (NB b n)[j]? = some (UInt8.ofNat (b + j % 7)) := by simp [NB, h]
def NT (b n : Nat) : ByteArray := ⟨(NB b n).toArray⟩
theorem NT_list (b n : Nat) : (NT b n).data.toList = NB b n := rfl
theorem NT_size (b n : Nat) : (NT b n).size = n := by unfold NT; rw [txt_size, NB_length]
def NS (b n : Nat) : ByteArray := ⟨(shaL (NB b n)).toArray⟩
theorem of_near (b n : Nat) (hn : n ≤ 383) (u : World) (t : TypeId) (hL : Laid u) :
    Calls Tryd.prog 8 #[.slice (some ⟨u.heap.size, 0, none⟩) 1 1] (u.alloc (.cells #[.string (NT b n)] t)).drew fun e w' => e = .returned (.string (NS b n)) ∧ Ext u w' := by
  have hx : Ext u (u.alloc (.cells #[.string (NT b n)] t)).drew := ((Ext.refl u).alloc _).drew
  have h := Of_any (u.alloc (.cells #[.string (NT b n)] t)).drew ⟨u.heap.size, 0, none⟩ 1 [NT b n] (hL.ext hx) (show Texts (u.alloc (.cells #[.string (NT b n)] t)) ⟨u.heap.size, 0, none⟩ [NT b n] from texts_one u _ t) (by simp) (by rw [joinL_one, NT_list, NB_length]; omega)
  rw [joinL_one, NT_list] at h
  exact h.mono fun e w' he => ⟨he.1, hx.trans he.2⟩
theorem rOf_near (b n : Nat) (hn : n ≤ 383) (u : World) :
    Calls Tryd.prog 9 #[.string (NT b n)] u fun e w' => e = .returned (.string (NS b n)) ∧ Ext u w' := by
  have h := rOf_any (NT b n) (by rw [NT_size]; omega) u
  rw [NT_list] at h
  exact h
theorem add_near (b n : Nat) (hn : n ≤ 383) (u : World) (g : Nat) (hg : 2 ≤ g) (hL : Laid u) (h : IsHash u g []) :
    Calls Tryd.prog 13 #[.pointer (some ⟨g, 0, none⟩), .string (NT b n)] u fun e w' => e = .returned (.tuple #[]) ∧ IsHash w' g (NB b n) ∧ Below g u w' := by
  have h := Add_any u g [] (NT b n) hL hg h (by rw [NT_size]; simp; omega)
  rw [NT_list] at h
  exact h
theorem sum_near (b n : Nat) (u : World) (g : Nat) (hL : Laid u) (h : IsHash u g (NB b n)) :
    Calls Tryd.prog 15 #[.pointer (some ⟨g, 0, none⟩)] u fun e w' => e = .returned (.string (NS b n)) ∧ Ext u w' := Sum_any u g _ hL h
theorem len_near (b n : Nat) (u : World) (g : Nat) (h : IsHash u g (NB b n)) :
    Calls Tryd.prog 14 #[.pointer (some ⟨g, 0, none⟩)] u fun e w' => e = .returned (.int .u64 (n : Int)) ∧ u = w' := by
  have h := Len_any u g _ h
  rw [NB_length] at h
  exact h
theorem near_text {w : World} {g b n : Nat} (h : Row w g 5 (NB b n)) : (convert 31 9 (.slice (some ⟨g, 0, none⟩) n n)).run Tryd.prog w = .ok (.string (NT b n)) w :=
  h.text 31 5 9 Tryd.underlying31 Tryd.underlying5 Tryd.underlying9 n n (NB_length b n)

set_option maxRecDepth 1000000 in
set_option maxHeartbeats 4000000 in
theorem ShaNear_walk (b : Nat) (a1 a2 : Int) (w : World) (hL : Laid w) (h10 : 0 ≤ a1) (h11 : a1 ≤ 255) (h20 : -128 ≤ a2) (h21 : a2 ≤ 127) :
    Calls Tryd.prog 6 #[.int .u8 (b : Int), .int .u8 a1, .int .i8 a2] w fun e w' => e = .returned (.bool true) ∧ Ext w w' := by
  have hsz := hL.size
  have HL := Lib.hid hL
  clear hL
  by_cases hneg : 64 * (a1 % 5) + a2 < 0
  · go_enter Tryd.func6, Tryd.ntmps6
    go_wp2_with (go_at_call 7; refine (sha_works _ HL.out).mono ?_; rintro e w1 ⟨rfl, h1⟩)
    go_ret
    exact ⟨rfl, h1⟩
  · obtain ⟨n, hn⟩ : ∃ n : Nat, 64 * (a1 % 5) + a2 = (n : Int) := ⟨(64 * (a1 % 5) + a2).toNat, by omega⟩
    have hn3 : n ≤ 383 := by omega
    clear hneg
    have hmk := make_bytes n (by omega)
    go_enter Tryd.func6, Tryd.ntmps6
    go_wp2_with fail
    clear hmk hn
    go_loopw [9] (fun i wr => ∃ j : Nat, j ≤ n ∧ i = .int .i64 j ∧ Row wr w.heap.size 5 ((NB b n).take j ++ List.replicate (n - j) 0) ∧ Ext w wr) (fun i _ => n - (intOf i).toNat)
    case atStart => exact ⟨0, Nat.zero_le _, rfl, by simpa using Row.made w 5 n, (Ext.refl w).alloc _⟩
    case round =>
      obtain ⟨j, hj, rfl, hrow, hext⟩ := hrel
      by_cases hlt : j < n
      · have hc := fill_cell hrow (NB_length b n) hlt
        have hf := hrow.frozen j
        have hst := fun x hx => fill_step hrow (NB_length b n) hlt x _ (NB_at b n j hlt) hx
        have HST := Lib.hid hst; have HE := Lib.hid hext
        clear hst hrow hext
        have i1 : (j : Int) < (n : Int) := by omega
        go_wp2_with fail
        go_roundw
        case rel =>
          exact ⟨j + 1, hlt, by go_num, HST.out _ (by simp), HE.out.setCell (Nat.le_refl _) _⟩
        case measure => simp [intOf]; omega
      · obtain rfl : j = n := by omega
        have HR := Lib.hid (fill_done hrow (NB_length b j))
        have HE := Lib.hid hext
        have ht := near_text HR.out
        clear hrow hext
        have i1 : (j : Int) ≤ (j : Int) := Int.le_refl _
        go_wp2_with (first
          | (go_at_call 12; ((with_reducible refine (New_any _ (HL.out.ext HE.out)).mono ?_); rintro e w1 ⟨rfl, hH, h1⟩; have HH := Lib.hid hH; have HE1 := Lib.hid h1; clear hH h1; have ht2 := near_text (HR.out.ext HE1.out)))
          | (go_at_call 13; ((with_reducible refine (add_near b j hn3 _ wr.heap.size (by have := HE.out.below.size; omega) (HL.out.ext (HE.out.trans HE1.out)) HH.out).mono ?_); rintro e w2 ⟨rfl, hH2, h2⟩; have HH2 := Lib.hid hH2; have HE2 := Lib.hid (show Ext wr w2 from Below.trans HE1.out h2); clear hH2 h2)))
        have hcv := near_text (HR.out.ext HE2.out.drew)
        have hx := Lib.hid ((Ext.refl w2).drew)
        clear ht ht2
        have hwj : IntKind.u64.wrap (j : Int) = (j : Int) := u64_nat (by omega)
        go_region_held3 (fun u => (convert 31 9 (.slice (some ⟨w.heap.size, 0, none⟩) j j)).run Tryd.prog u = .ok (.string (NT b j)) u) (first | exact hcv | exact near_text (HR.out.ext (HE2.out.trans hx.out)) | exact near_text (HR.out.ext (HE2.out.trans ((Ext.refl w2).alloc _).drew)) | go_keep) (first
          | (go_at_call 8; ((with_reducible refine (of_near b j hn3 _ _ (HL.out.ext (HE.out.trans HE2.out))).mono ?_); rintro e w4 ⟨rfl, h4⟩; replace hx := Lib.hid h4; clear h4))
          | (go_at_call 9; ((with_reducible refine (rOf_near b j hn3 _).mono ?_); rintro e w4 ⟨rfl, h4⟩; replace hx := Lib.hid (hx.out.trans h4); clear h4))
          | (go_at_call 15; ((with_reducible refine (sum_near b j _ _ (HL.out.ext (HE.out.trans (HE2.out.trans hx.out))) (HH2.out.ext hx.out)).mono ?_); rintro e w4 ⟨rfl, h4⟩; replace hx := Lib.hid (hx.out.trans h4); clear h4))
          | (go_at_call 14; ((with_reducible refine (len_near b j _ _ (HH2.out.ext hx.out)).mono ?_); rintro e w4 ⟨rfl, rfl⟩))
          | (go_at_call 7; ((with_reducible refine (sha_works _ (HL.out.ext (HE.out.trans (HE2.out.trans hx.out)))).mono ?_); rintro e w4 ⟨rfl, h4⟩; replace hx := Lib.hid (hx.out.trans h4); clear h4)))
        all_goals
          go_wp2
          go_ret
          exact ⟨rfl, HE.out.trans (HE2.out.trans hx.out)⟩
end Go.Proofs.YtlhacmkidonkgaaDoor
