/- Contract: the shares of a secret, by the document's answer. -/
import Derived.Test.YtadincbeimfakaaShareL
import Derived.Test.YtadincbeimfakaaBufS
import Derived.Test.YtadincbeimfakaaTextsP
import Derived.Deep.RegionLaw
import Derived.StillTailTactics
import Derived.Outline
namespace Go.Proofs.Ytadincbeimfakaa
open Go.RowKit
attribute [local irreducible] xorL xorAll

theorem two_text (x y : Int) (a b : UInt8) (hx : x = (a.toNat : Int)) (hy : y = (b.toNat : Int)) (t : TypeId) (u : World) : (convert 54 9 (.slice (some ⟨u.heap.size, 0, none⟩) 2 2)).run Try.prog (u.alloc (.cells #[.int .u8 x, .int .u8 y] t)) = .ok (.string ⟨#[a, b]⟩) (u.alloc (.cells #[.int .u8 x, .int .u8 y] t)) := by
  subst hx hy
  have hr : Row (u.alloc (.cells #[.int .u8 (a.toNat : Int), .int .u8 (b.toNat : Int)] t)) u.heap.size t [a, b] := heap_alloc_new u _
  exact hr.text (P := Try.prog) 54 5 9 Try.underlying54 Try.underlying5 Try.underlying9 2 2 rfl
theorem two_textD (x y : Int) (a b : UInt8) (hx : x = (a.toNat : Int)) (hy : y = (b.toNat : Int)) (t : TypeId) (u : World) : (convert 54 9 (.slice (some ⟨u.heap.size, 0, none⟩) 2 2)).run Try.prog (u.alloc (.cells #[.int .u8 x, .int .u8 y] t)).drew = .ok (.string ⟨#[a, b]⟩) (u.alloc (.cells #[.int .u8 x, .int .u8 y] t)).drew := by
  subst hx hy
  have hr : Row (u.alloc (.cells #[.int .u8 (a.toNat : Int), .int .u8 (b.toNat : Int)] t)) u.heap.size t [a, b] := heap_alloc_new u _
  exact hr.drew.text (P := Try.prog) 54 5 9 Try.underlying54 Try.underlying5 Try.underlying9 2 2 rfl
set_option maxRecDepth 100000 in
set_option maxHeartbeats 4000000 in
theorem rsplit_yes (w : World) (secret : ByteArray) (p : Option Addr) (c : Nat) (l : List ByteArray) (h1 : 1 ≤ secret.size) (h2 : secret.size ≤ 64) (h3 : l.length < 16) (h : TextsP w p l) (hl : ∀ s, s ∈ l → s.size = secret.size) :
    Calls Try.prog 11 #[.string secret, .slice p l.length c] w fun e w' => ∃ v, e = .returned (.tuple #[v, .int .i64 0]) ∧ BufS w' w.heap.size v (splitT secret l) ∧ Ext w w' := by
  have HH := Lib.hid (fun u (hu : Ext w u) => h.ext hu)
  have HS := Lib.hid (sharesT_take (l.length + 1) l)
  have HSl := Lib.hid (sharesT_length (l.length + 1) l)
  have HX := Lib.hid (xorAll_step secret.data.toList l)
  have HXl := Lib.hid (fun j => xorAll_length (n := secret.size) (l.take j) secret.data.toList (size_list _) (fun b hb => hl b (List.mem_of_mem_take hb)))
  have hX0 : xorAll secret.data.toList (l.take 0) = secret.data.toList := by rw [List.take_zero]; unfold xorAll; rfl
  have HX0 := Lib.hid hX0
  clear h hX0
  go_enter Try.func11, Try.ntmps11
  go_wp2
  go_loopw [6, 8, 9] (fun last v i wr => ∃ j : Nat, j ≤ l.length ∧ i = .int .i64 (j : Int) ∧ last = .string ⟨(xorAll secret.data.toList (l.take j)).toArray⟩ ∧ BufS wr w.heap.size v ((sharesT (l.length + 1) l).take j) ∧ Ext w wr) (fun _ _ i _ => l.length - (intOf i).toNat)
  case atStart => exact ⟨0, Nat.zero_le _, rfl, by rw [HX0.out], by rw [List.take_zero]; exact BufS.nil _ _, Ext.refl _⟩
  case round =>
    obtain ⟨j, hj, rfl, rfl, hb, hext⟩ := hrel
    have HB := Lib.hid hb; have HE := Lib.hid hext
    by_cases hlt : j < l.length
    · obtain ⟨s, hs⟩ : ∃ s, l[j]? = some s := ⟨_, List.getElem?_eq_getElem hlt⟩
      have hsz : s.size = secret.size := hl s (List.mem_of_getElem? hs)
      have hne : ((s.size : Int) != (secret.size : Int)) = false := by rw [hsz]; simp
      obtain ⟨a, rfl, _, hc1⟩ := HH.out _ hext j s hs
      have HC2 := Lib.hid (fun u (hu : Ext w u) => (show u.cell? (a.add j) = some (.string s) by obtain ⟨a', e, _, hc⟩ := HH.out u hu j s hs; cases e; exact hc))
      have HSj := Lib.hid (HS.out j s hs)
      have hxs := HX.out j s hs
      have hXr := Lib.hid (fun u => rXor_yes ⟨(xorAll secret.data.toList (l.take j)).toArray⟩ s (by rw [txt_size, HXl.out, hsz]) (by rw [txt_size, HXl.out]; omega) u)
      have exd : (⟨(xorAll secret.data.toList (l.take j)).toArray⟩ : ByteArray).data.toList = xorAll secret.data.toList (l.take j) := by simp
      rw [exd, ← hxs] at hXr
      obtain ⟨x, hx⟩ : ∃ x, x = UInt8.ofNat (j + 1) := ⟨_, rfl⟩
      obtain ⟨y, hy⟩ : ∃ y, y = UInt8.ofNat (l.length + 1) := ⟨_, rfl⟩
      have hcv := fun u => two_textD ((j : Int) + 1) ((l.length : Int) + 1) x y (by rw [hx]; simp; omega) (by rw [hy]; simp; omega) 5 u
      have hcat := share_cat (j + 1) (l.length + 1) x y s hx hy
      obtain ⟨T, hT⟩ : ∃ T, shareT (j + 1) (l.length + 1) s = T := ⟨_, rfl⟩
      rw [hT] at hcat HSj
      have HLe : Hid (((sharesT (l.length + 1) l).take j).length ≤ 1000000) := Lib.hid (by rw [List.length_take]; omega)
      have hw0 : IntKind.i64.wrap ((j : Int) + 1) = (j : Int) + 1 := IntWalk.i64_in _ ⟨by omega, by omega⟩
      have hw1 : IntKind.u8.wrap ((j : Int) + 1) = (j : Int) + 1 := IntWalk.u8_in _ ⟨by omega, by omega⟩
      have hw2 : IntKind.u8.wrap ((l.length : Int) + 1) = (l.length : Int) + 1 := IntWalk.u8_in _ ⟨by omega, by omega⟩
      have hs64 : ¬ 9223372036854775807 < 2 + s.size := by omega
      clear hb hext hs hsz hx hy hT hxs exd
      generalize (⟨(xorAll secret.data.toList (l.take j)).toArray⟩ : ByteArray) = L0 at *
      go_wp2_with (go_at_call 21; refine (hXr.out _).mono ?_; rintro e w2 ⟨rfl, h2⟩)
      have k1 := HC2.out w2 (HE.out.trans h2)
      have k2 := HC2.out _ ((HE.out.trans h2).alloc (.cells #[.int .u8 ((j : Int) + 1), .int .u8 ((l.length : Int) + 1)] 5))
      have HX3 := Lib.hid (((h2.alloc (.cells #[.int .u8 ((j : Int) + 1), .int .u8 ((l.length : Int) + 1)] 5)).alloc (.cells #[.string T] 9)).drew)
      have HCl : Hid (((w2.alloc (.cells #[.int .u8 ((j : Int) + 1), .int .u8 ((l.length : Int) + 1)] 5)).alloc (.cells #[.string T] 9)).cell? ⟨w2.heap.size + 1, 0, none⟩ = some (.string T)) := Lib.hid (by simp)
      go_region_law (refine step_append_text rfl (.tmp 47) (.tmp 60) rfl w.heap.size _ _ (by simp [Act.eval]) (HB.out.ext HX3.out) (w2.heap.size + 1) T (by simp [Act.eval]) HCl.out HLe.out (HE.out.trans HX3.out).size ?_; intro v1 w3 hb1 hx4; have x5 : Ext w w3 := Below.trans (HE.out.trans HX3.out) hx4)
      all_goals
        go_wp2
        go_roundw
        case rel => exact ⟨j + 1, hlt, by go_num, rfl, by rw [HSj.out]; exact hb1, x5⟩
        case measure => simp [intOf]; omega
    · obtain rfl : j = l.length := by omega
      obtain ⟨y, hy⟩ : ∃ y, y = UInt8.ofNat (l.length + 1) := ⟨_, rfl⟩
      have hcv := fun u => two_text ((l.length : Int) + 1) ((l.length : Int) + 1) y y (by rw [hy]; simp; omega) (by rw [hy]; simp; omega) 5 u
      have hw2 : IntKind.u8.wrap ((l.length : Int) + 1) = (l.length : Int) + 1 := IntWalk.u8_in _ ⟨by omega, by omega⟩
      have hxl := HXl.out l.length
      rw [List.take_of_length_le (Nat.le_refl l.length)] at hxl ⊢
      have hcat := share_cat (l.length + 1) (l.length + 1) y y ⟨(xorAll secret.data.toList l).toArray⟩ hy hy
      have hls : (⟨(xorAll secret.data.toList l).toArray⟩ : ByteArray).size ≤ 64 := by rw [txt_size, hxl]; exact h2
      have HSP : Hid (splitT secret l = sharesT (l.length + 1) l ++ [shareT (l.length + 1) (l.length + 1) ⟨(xorAll secret.data.toList l).toArray⟩]) := Lib.hid rfl
      have hB2 := HB.out
      rw [List.take_of_length_le (by rw [HSl.out]; exact Nat.le_refl _)] at hB2
      have HB2 := Lib.hid hB2
      have HLe : Hid ((sharesT (l.length + 1) l).length ≤ 1000000) := Lib.hid (by rw [HSl.out]; omega)
      generalize sharesT (l.length + 1) l = ST at *
      generalize (⟨(xorAll secret.data.toList l).toArray⟩ : ByteArray) = L0 at *
      obtain ⟨T, hT⟩ : ∃ T, shareT (l.length + 1) (l.length + 1) L0 = T := ⟨_, rfl⟩
      rw [hT] at hcat HSP
      have HX3 : Hid (Ext wr ((wr.alloc (.cells #[.int .u8 ((l.length : Int) + 1), .int .u8 ((l.length : Int) + 1)] 5)).alloc (.cells #[.string T] 9))) := Lib.hid (((Ext.refl wr).alloc _).alloc _)
      have HCl : Hid (((wr.alloc (.cells #[.int .u8 ((l.length : Int) + 1), .int .u8 ((l.length : Int) + 1)] 5)).alloc (.cells #[.string T] 9)).cell? ⟨wr.heap.size + 1, 0, none⟩ = some (.string T)) := Lib.hid (by simp)
      clear hb hext hB2 hT hy hxl
      go_wp2_with (at_builtin; refine append_text rfl _ _ rfl w.heap.size _ _ rfl (HB2.out.ext HX3.out) (wr.heap.size + 1) T rfl HCl.out HLe.out (HE.out.trans HX3.out).size ?_; intro v1 w3 hb1 hx4; have x5 : Ext w w3 := Below.trans (HE.out.trans HX3.out) hx4)
      go_ret2
      exact ⟨v1, rfl, by rw [HSP.out]; exact hb1, x5⟩
end Go.Proofs.Ytadincbeimfakaa
