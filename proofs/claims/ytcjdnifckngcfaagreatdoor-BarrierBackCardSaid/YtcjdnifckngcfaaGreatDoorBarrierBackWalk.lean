/- The walk of BarrierBack: what was put is got, behind rotations, seals and loads of the header, once all shares have come, in whatever order. -/
import Derived.Test.YtcjdnifckngcfaaGreatDoorM46
import Derived.Test.YtcjdnifckngcfaaGreatDoorM47
import Derived.Test.YtcjdnifckngcfaaGreatDoorM48
import Derived.BigRegion
import Derived.Great.Frames
namespace Go.Proofs.YtcjdnifckngcfaaGreatDoor
open Go.RowKit
attribute [local irreducible] rkey expand enc dec ctrB ctrC ctrL xorL xorAll turnL turnT kd t4 t8 env5 chk tagT sealT ringL hdT envOf f32B f12B ringG lastG nonceG textsN rowF splitT

theorem IsP.mono {w : World} {A B b : Nat} {S : BS} (h : IsP w B b S) (hA : A ≤ B) : IsP w A b S := by
  cases S with
  | none => obtain ⟨g, bm, i⟩ := h; exact ⟨g, bm, i.blk, i.gat, Nat.le_trans hA i.low, Nat.le_trans hA i.lowm⟩
  | closed n E L => obtain ⟨g, bm, i⟩ := h; exact ⟨g, bm, i.blk, i.gat, Nat.le_trans hA i.low, Nat.le_trans hA i.lowm⟩
  | opened n E root K => obtain ⟨g, bm, r1, k1, r2, k2, i, j⟩ := h; exact ⟨g, bm, r1, k1, r2, k2, ⟨i.blk, i.gat, Nat.le_trans hA i.low, Nat.le_trans hA i.lowm⟩, ⟨j.one, j.two, Nat.le_trans hA j.low, j.a1, j.a2⟩⟩
/-- Which share comes. -/
theorem pick_k (O : List Nat) (i r : Nat) (hr0 : 0 < r) : ∃ k : Nat, k < r ∧ (((i : Int) < (O.length : Int) ∧ ∃ o : Nat, O[i]? = some o ∧ (o : Int) % (r : Int) = (k : Int)) ∨ (¬ (i : Int) < (O.length : Int) ∧ k = 0)) := by
  by_cases hio : i < O.length
  · exact ⟨O[i] % r, Nat.mod_lt _ hr0, .inl ⟨Int.ofNat_lt.2 hio, O[i], List.getElem?_eq_getElem hio, (Int.natCast_emod _ _).symm⟩⟩
  · exact ⟨0, hr0, .inr ⟨by omega, rfl⟩⟩
theorem IsL.cell_at {w : World} {B g c : Nat} {l : List ByteArray} (hu : IsL w B (some ⟨g, 0, none⟩) c l) {i : Nat} {s : ByteArray} (hs : l[i]? = some s) : w.cell? ⟨g, i, none⟩ = some (.string s) := by
  obtain ⟨g2, e2, h2⟩ := hu.at_ hs
  cases e2
  exact h2
/-- How long a slice is. -/
def lenV : Value → Nat
  | .slice _ n _ => n
  | _ => 0
/-- Both states of the loop in which the shares come. -/
structure Come (w : World) (B b n : Nat) (E root : ByteArray) (K FL R G : List (Nat × ByteArray)) : Prop where
  perm : (R ++ G).Perm FL
  some_ : R ≠ [] → IsP w B b (.closed n E G)
  all_ : R = [] → IsP w B b (.opened n E root K)
theorem Come.ext {w w' : World} {B b n : Nat} {E root : ByteArray} {K FL R G : List (Nat × ByteArray)} (h : Come w B b n E root K FL R G) (x : Ext w w') : Come w' B b n E root K FL R G := ⟨h.perm, fun q => (h.some_ q).ext x, fun q => (h.all_ q).ext x⟩
theorem Come.keepS {w w' : World} {A B b n : Nat} {E root : ByteArray} {K FL R G : List (Nat × ByteArray)} (h : Come w B b n E root K FL R G) (k : KeepS A w w') : Come w' B b n E root K FL R G := ⟨h.perm, fun q => (h.some_ q).keepS k, fun q => (h.all_ q).keepS k⟩
theorem perm_cut {α : Type} (R G : List α) (k : Nat) (x : α) (hx : R[k]? = some x) : (R.take k ++ R.drop (k + 1) ++ (G ++ [x])).Perm (R ++ G) := by
  obtain ⟨h1, h2⟩ := List.getElem?_eq_some_iff.1 hx
  have e : R = R.take k ++ x :: R.drop (k + 1) := by
    rw [← h2, ← List.drop_eq_getElem_cons h1, List.take_append_drop]
  conv => rhs; rw [e]
  have : (R.take k ++ R.drop (k + 1) ++ (G ++ [x])).Perm (x :: (R.take k ++ R.drop (k + 1) ++ G)) := by
    rw [← List.append_assoc]
    exact List.perm_append_comm
  refine this.trans ?_
  rw [List.append_assoc, List.append_assoc, List.cons_append]
  exact (List.perm_middle (a := x) (l₁ := R.take k) (l₂ := R.drop (k + 1) ++ G)).symm
/-- A share comes. -/
theorem unseal_come (w : World) (B b n : Nat) (hB2 : 2 ≤ B) (hL : Laid w) (E root nonce : ByteArray) (K R G : List (Nat × ByteArray)) (l : List ByteArray) (hE : E = envOf root n nonce K) (hG : GoodK K) (hz : nonce.size = 12) (hr : root.size = 32) (hls : ∀ s ∈ l, s.size = 32) (hln : l.length + 1 = n)
    (h : Come w B b n E root K (rowF root l) R G) (k : Nat) (x : Nat × ByteArray) (hx : R[k]? = some x) (last : Bool) (hlast : (R.length == 1) = last) :
    Calls Tryz.prog 21 #[.pointer (some ⟨b, 0, none⟩), .string (shareT x.1 n x.2)] w fun e w' => e = .returned (.tuple #[.bool last, .int .i64 0]) ∧ Come w' B b n E root K (rowF root l) (R.take k ++ R.drop (k + 1)) (G ++ [x]) ∧ TurnP B w w' := by
  subst hlast
  have hne : R ≠ [] := fun q => by rw [q] at hx; simp at hx
  have hc := h.some_ hne
  have hk := (List.getElem?_eq_some_iff.1 hx).1
  have hp' := (perm_cut R G k x hx).trans h.perm
  have hlen := h.perm.length_eq
  rw [List.length_append, rowF_length] at hlen
  have hls' : ∀ s ∈ l, s.size = root.size := fun s hs => by rw [hr]; exact hls s hs
  have hxm : x ∈ rowF root l := h.perm.subset (List.mem_append_left _ (List.mem_of_getElem? hx))
  have hm := rowF_mem root l hxm
  have hxs := allT_size root l hls' x.2 hm.2.2
  by_cases h1 : R.length = 1
  · have hk0 : k = 0 := by omega
    subst hk0
    have hR : R = [x] := by
      obtain ⟨y, rfl⟩ := List.length_eq_one_iff.1 h1
      simp at hx
      rw [hx]
    subst hR
    refine (unseal_last w B b n E G x hB2 hL root nonce K l hE hG hz hr hls' hln hc h.perm).mono ?_
    rintro e w' ⟨rfl, i, t⟩
    exact ⟨rfl, ⟨hp', fun q => absurd rfl q, fun _ => i⟩, t⟩
  · have honce : (R ++ G).Pairwise (fun x y => x.1 ≠ y.1) := h.perm.symm.pairwise (rowF_once root l) (fun h => Ne.symm h)
    have hy : ∀ y ∈ G, y.1 ≠ x.1 := fun y hy => Ne.symm ((List.pairwise_append.1 honce).2.2 x (List.mem_of_getElem? hx) y hy)
    refine (unseal_row w B b n E G x hc hm.1 (by omega) (by omega) hy (by omega)).mono ?_
    rintro e w' ⟨rfl, i, t⟩
    have hb : (R.length == 1) = false := by simpa using h1
    rw [hb]
    refine ⟨rfl, ⟨hp', fun _ => i, fun q => ?_⟩, t⟩
    have := congrArg List.length q
    simp only [List.length_append, List.length_take, List.length_drop, List.length_nil] at this
    omega
set_option maxRecDepth 1000000 in
set_option maxHeartbeats 8000000 in
theorem BarrierBack_walk (w : World) (hL : Laid w) (a b text : ByteArray) (za : a.size ≤ 140737488351232) (zb : b.size ≤ 140737488351232) (zt : text.size ≤ 140737488351232) (nv : Nat) (hnv : nv < 256) (po : Option Addr) (co : Nat) (O : List Nat) (hO : ValsP w po (vU8 O)) (hlo : O.length ≤ 140737488355328) (hO256 : ∀ x ∈ O, x < 256)
    (p : Option Addr) (c : Nat) (K : List ByteArray) (hP : TextsP w p K) (hl : K.length ≤ 140737488355328) (_ : ∀ s, s ∈ K → s.size ≤ 140737488351232) (anew : Bool) :
    Calls Tryz.prog 4 #[.string a, .string b, .string text, .int .u8 (nv : Int), .slice po O.length co, .slice p K.length c, .bool anew] w fun e w' => e = .returned (.bool true) ∧ Ext w w' := by
  have HW := Lib.hid (fun u (hu : Ext w u) => works15 u (hL.ext hu))
  have HP := Lib.hid hP
  by_cases hbig : 1000 < a.size + b.size + text.size ∨ 40 < O.length ∨ 5 < K.length
  · have hcase : (1000 : Int) < (a.size : Int) + (b.size : Int) + (text.size : Int) ∨ (¬ (1000 : Int) < (a.size : Int) + (b.size : Int) + (text.size : Int) ∧ (40 : Int) < (O.length : Int)) ∨ (¬ (1000 : Int) < (a.size : Int) + (b.size : Int) + (text.size : Int) ∧ ¬ (40 : Int) < (O.length : Int) ∧ (5 : Int) < (K.length : Int)) := by omega
    clear hO hP hO256 hbig
    go_enter Tryz.func4, Tryz.ntmps4
    rcases hcase with q | ⟨q1, q2⟩ | ⟨q1, q2, q3⟩
    all_goals
      go_wp2_with (go_at_call 8; refine (HW.out _ (Ext.refl _)).mono ?_; rintro e w2 ⟨rfl, x2⟩)
      go_ret
      exact ⟨rfl, x2⟩
  have h1i : ¬ (1000 : Int) < (a.size : Int) + (b.size : Int) + (text.size : Int) := by omega
  have hta : text.size ≤ 1000 := by omega
  have hba : b.size ≤ 1000 := by omega
  have h2i : ¬ (40 : Int) < (O.length : Int) := by omega
  have h3i : ¬ (5 : Int) < (K.length : Int) := by omega
  have hK5 : K.length ≤ 5 := by omega
  clear hbig
  go_enter Tryz.func4, Tryz.ntmps4
  go_wp2_with (fail)
  go_loopw [15] (fun iv wr => ∃ j : Nat, j ≤ K.length ∧ iv = .int .i64 (j : Int) ∧ w = wr) (fun iv _ => K.length - (intOf iv).toNat)
  case atStart => exact ⟨0, Nat.zero_le _, rfl, rfl⟩
  case round =>
    obtain ⟨j, hj, rfl, rfl⟩ := hrel
    by_cases hlt : j < K.length
    · have hlti : (j : Int) < (K.length : Int) := by omega
      obtain ⟨x, hx⟩ : ∃ x, K[j]? = some x := ⟨_, List.getElem?_eq_getElem hlt⟩
      obtain ⟨a', rfl, ha', hc⟩ := HP.out j x hx
      clear hx
      by_cases h100 : 100 < x.size
      · have h100i : (100 : Int) < (x.size : Int) := by omega
        go_wp2_with (go_at_call 8; refine (HW.out _ (Ext.refl _)).mono ?_; rintro e w2 ⟨rfl, x2⟩)
        go_ret
        exact ⟨rfl, x2⟩
      · have h100i : ¬ (100 : Int) < (x.size : Int) := by omega
        go_wp2_with (fail)
        go_roundw
        case rel => exact ⟨j + 1, by omega, by go_num, trivial⟩
        case measure => simp [intOf]; omega
    · have hlti : ¬ (j : Int) < (K.length : Int) := by omega
      clear hlt hj
      have hB2 := hL.size
      have HLd := Lib.hid (fun u (x : Ext w u) => hL.ext x)
      have HNw := Lib.hid (fun u (x : Ext w u) => (bnew_any u).mono fun e w' he => (show ∃ b, e = .returned (.pointer (some ⟨b, 0, none⟩)) ∧ IsP w' w.heap.size b .none ∧ Ext u w' from by
        obtain ⟨b, h1, h2, h3⟩ := he
        exact ⟨b, h1, h2.mono x.size, h3⟩))
      have HB2 := Lib.hid hB2
      have HO := Lib.hid hO; have HO2 := Lib.hid hO256
      obtain ⟨m, hm⟩ : ∃ m, nv % 6 = m := ⟨_, rfl⟩
      have hm5 : m ≤ 5 := by omega
      have hmi : (nv : Int) % 6 = (m : Int) := by omega
      have HFb := Lib.hid (fun x u => fullK_any x u)
      have htl := textsN_length b
      have hts := textsN_succ b
      have HTs := Lib.hid hts; have HTl := Lib.hid htl
      clear hL hB2 hO hP hO256 hm htl hts
      go_wp2_with (go_at_call 9; refine (HNw.out _ (Ext.refl _)).mono ?_; rintro e w1 ⟨xb, rfl, i1, x1⟩; have I1 := Lib.hid i1; have X1 := Lib.hid x1; clear i1 x1)
      go_loopw [17, 18] (fun lv iv wr => ∃ j : Nat, j ≤ m ∧ iv = .int .i64 (j : Int) ∧ (∃ p' c', lv = .slice p' j c' ∧ Hid (IsL wr w.heap.size p' c' (textsN b j))) ∧ Hid (IsP wr w.heap.size xb .none) ∧ Hid (Ext w wr)) (fun _ iv _ => m - (intOf iv).toNat)
      case atStart => exact ⟨0, Nat.zero_le _, rfl, ⟨none, 0, rfl, Lib.hid (by rw [show textsN b 0 = [] by unfold textsN; rfl]; exact IsL.nil _ _)⟩, I1, X1⟩
      case round =>
        clear X1 I1
        obtain ⟨j, hj, rfl, ⟨pl, cl, rfl, HS⟩, HI, HX⟩ := hrel
        by_cases hlt : j < m
        · have hlt2 : (j : Int) < (m : Int) := by omega
          have hw8 : IntKind.u8.wrap (j : Int) = (j : Int) := IntWalk.u8_in _ ⟨by omega, by omega⟩
          have hcv := fun t u => byte_text j (by omega) t u
          have hbs : ¬ 9223372036854775807 < b.size + 1 := by omega
          have HTj := Lib.hid (HTs.out j)
          have hj5 : j ≤ 5 := by omega
          go_wp2_with (first
            | (go_at_call 12; refine (HFb.out _ _).mono ?_; rintro e w2 ⟨rfl, x2⟩; have Y2 := (HX.out.alloc _).trans x2; have HX3 := Y2.alloc (.cells #[.string (f32B (b ++ ⟨#[UInt8.ofNat j]⟩))] 9))
            | (at_builtin; go_loud (refine wpList_append_sl rfl (.tmp 83) (.tmp 91) 35 35 rfl Tryz.underlying35 infoS14 rfl (by decide) rfl ((HS.out.ext (((Ext.refl wr).alloc _).trans (x2.alloc _))).slN (HTl.out j)) (strs_one _) _ rfl 1 [.string (f32B (b ++ ⟨#[UInt8.ofNat j]⟩))] (src_one _ _ _ ((Blk.new w2 [.string (f32B (b ++ ⟨#[UInt8.ofNat j]⟩))] 9).cell 0 _ rfl)) (by omega) ?_)
               intro p3 c3 w3 κ3 s3 f3 e3 x3 _
               obtain ⟨l3, k3⟩ := left_more HS.out HX.out.size (HTl.out j) (((Ext.refl wr).alloc _).trans (x2.alloc _)) s3 f3 e3 x3
               have L3 := Lib.hid l3; have I3 := Lib.hid (((HI.out.ext ((Ext.refl wr).alloc _)).ext (x2.alloc _)).keepS k3); have X3 := Lib.hid (HX3.keptS k3)
               clear l3 k3 s3 f3 e3 x3))
          go_roundw
          case rel => exact ⟨j + 1, by omega, by go_num, ⟨p3, c3, by go_num, by rw [HTj.out]; exact L3⟩, I3, X3⟩
          case measure => simp [intOf]; omega
        · obtain rfl : j = m := by omega
          have hlt2 : ¬ (j : Int) < (j : Int) := by omega
          clear hj hlt
          -- Begin and Put
          have zA := f32B_size a
          have zB := f32B_size b
          have hN0 := nonce15_fit ⟨#[48]⟩
          have zN0 := f12B_size ⟨#[48]⟩
          have hN1 := nonce15_fit ⟨#[49]⟩
          have zN1 := f12B_size ⟨#[49]⟩
          have hts : ∀ s ∈ textsN b j, s.size = 32 := textsN_size b j
          have hT := HS.out.textsP
          have hBl := HB2.out
          have hle := HTl.out j
          generalize textsN b j = T at *
          have HA := Lib.hid (fun u => fullK_any a u)
          have HB := Lib.hid (fun u => fullK_any b u)
          generalize f32B a = A at *
          generalize hkb : f32B b = kb at *
          generalize f12B ⟨#[48]⟩ = N0 at *
          generalize f12B ⟨#[49]⟩ = N1 at *
          have HN0 := Lib.hid hN0; have HN1 := Lib.hid hN1
          have hn : T.length + 1 = j + 1 := by omega
          have HBe := Lib.hid (fun u (x : Ext wr u) => by
            have := begin_yes u w.heap.size xb hBl (HLd.out _ (HX.out.trans x)) (HI.out.ext x) A kb N0 pl cl T zA zB zN0 (by omega) (hT.ext x) (by rw [zA]; exact hts)
            rw [hn, hle] at this
            exact this)
          obtain ⟨n, hnn⟩ : ∃ n, j + 1 = n := ⟨_, rfl⟩
          rw [hnn] at HBe
          have hni : (n : Int) = (j : Int) + 1 := by omega
          have h0 : ringG kb K 0 = [(1, kb)] := by unfold ringG; rfl
          have hl0 : lastG kb K 0 = kb := by unfold lastG; rfl
          have hn0 : nonceG N0 K 0 = N0 := by unfold nonceG; rfl
          obtain ⟨V, hV⟩ : ∃ V, sealT kb 1 ⟨#[112]⟩ 7 N1 text = V := ⟨_, rfl⟩
          have HPu := Lib.hid (fun u (x : Ext w u) (E : ByteArray) (hu : IsP u w.heap.size xb (.opened n E A [(1, kb)])) => by
            have := put_is u (HLd.out _ x) w.heap.size xb n E A kb [(1, kb)] hu 1 (top_one1 kb) (by simp) ⟨#[112]⟩ 7 N1 text zN1 (by decide) (by omega)
            rw [hV] at this
            exact this)
          have HVv := Lib.hid hV; have HZ := Lib.hid (And.intro zA (And.intro zB (And.intro zN0 zN1))); have HTS := Lib.hid hts; have HNN := Lib.hid hnn; have HR0 := Lib.hid (And.intro h0 (And.intro hl0 hn0)); have HLE := Lib.hid hle
          clear hN0 hN1 hts hT hBl hle zA zB zN0 zN1 hn hnn hV h0 hl0 hn0
          go_wp2_with (first
            | (go_at_call 12; (with_reducible refine (HA.out _).mono ?_); rintro e w2 ⟨rfl, x2⟩)
            | (go_at_call 12; (with_reducible refine (HB.out _).mono ?_); rintro e w3 ⟨rfl, x3⟩; have y3 := x2.trans x3)
            | (go_at_call 14; (with_reducible refine (HN0.out _).mono ?_); rintro e w4 ⟨rfl, x4⟩; have y4 := y3.trans x4)
            | (go_at_call 13; refine (HBe.out _ y4).mono ?_; rintro e w5 ⟨⟨q, c', rfl, b5⟩, i5, t5⟩; have I5 := Lib.hid i5; have S5 := Lib.hid (show BufS w5 w.heap.size (.slice q n c') (splitT A T) from b5.mono (HX.out.trans y4).size); have X5 := (HX.out.trans y4).turnedB t5; clear i5 t5 b5)
            | (go_at_call 14; (with_reducible refine (HN1.out _).mono ?_); rintro e w6 ⟨rfl, x6⟩; have X6 := X5.trans x6)
            | (go_at_call 15; refine (HPu.out _ X6 _ (I5.out.ext x6)).mono ?_; rintro e w7 ⟨rfl, x7⟩; have I7 := Lib.hid ((I5.out.ext x6).ext x7); have S7 := Lib.hid ((S5.out.ext x6).ext x7); have X7 := Lib.hid (X6.trans x7)))
          have hi5 := I5
          clear x2 x3 y3 x4 y4 X5 x6 X6 x7 HA HB HN0 HN1 HBe HPu hi5 I5 S5 HS HI HX
          obtain ⟨E0, hE0⟩ : ∃ E, envOf A n N0 [(1, kb)] = E := ⟨_, rfl⟩
          have HE0 := Lib.hid hE0
          have hi7 := I7.out
          rw [hE0] at hi7
          have J7 := Lib.hid hi7
          clear hE0 hi7 I7
          go_loopw [23] (fun iv wr => ∃ i : Nat, i ≤ K.length ∧ iv = .int .i64 (i : Int) ∧ (∃ E, Hid (E = envOf A n (nonceG N0 K i) (ringG kb K i)) ∧ Hid (IsP wr w.heap.size xb (.opened n E A (ringG kb K i)))) ∧ Hid (BufS wr w.heap.size (.slice q n c') (splitT A T)) ∧ Hid (Ext w wr)) (fun iv _ => K.length - (intOf iv).toNat)
          case atStart =>
            refine ⟨0, Nat.zero_le _, rfl, ⟨E0, Lib.hid ?_, Lib.hid ?_⟩, S7, X7⟩
            · rw [HR0.out.1, HR0.out.2.2]; exact HE0.out.symm
            · rw [HR0.out.1]; exact J7.out
          case round =>
            clear J7 S7 X7
            obtain ⟨i, hi, rfl, ⟨E, HE, HI⟩, HS, HX⟩ := hrel
            by_cases hlt : i < K.length
            · have hlti : (i : Int) < (K.length : Int) := by omega
              obtain ⟨x, hx⟩ : ∃ x, K[i]? = some x := ⟨_, List.getElem?_eq_getElem hlt⟩
              obtain ⟨ad, rfl, had, hcd⟩ := HP.out i x hx
              have HCd := Lib.hid (fun u (hu : Ext w u) => (show u.cell? (ad.add i) = some (.string x) from by
                obtain ⟨a2, e2, _, h2⟩ := (HP.out.ext hu) i x hx
                cases e2
                exact h2))
              have hk1 := HCd.out _ HX.out
              have hw32 : IntKind.u32.wrap ((i : Int) + 2) = (i : Int) + 2 := IntWalk.u32_in _ ⟨by omega, by omega⟩
              have hng : nonceG N0 K (i + 1) = f12B x := by unfold nonceG; simp [List.getD, hx]
              have HFx := Lib.hid (fun u => fullK_any x u)
              have HNx := Lib.hid (fun u => nonce15_fit x u)
              have hzx := f12B_size x
              have HRo := Lib.hid (fun u (hu : Ext w u) (hi' : IsP u w.heap.size xb (.opened n E A (ringG kb K i))) => brotate_next u w.heap.size xb n HB2.out (HLd.out u hu) E A kb K i (by omega) x hx (f12B x) hzx hi')
              have HNG := Lib.hid hng
              clear hx hcd hng hzx had
              generalize f32B x = FX at *
              generalize f12B x = NX at *
              have XD := HX.out.drew
              have KD := HCd.out _ XD
              go_wp2_with (fail)
              go_region_law (first
                | (go_simp; go_at_call 12; refine (HFx.out _).mono ?_; rintro e w2 ⟨rfl, x2⟩; have X2 := XD.trans x2; have K2 := HCd.out _ X2)
                | (go_simp; go_at_call 14; refine (HNx.out _).mono ?_; rintro e w3 ⟨rfl, x3⟩; have X3 := X2.trans x3; have K3 := HCd.out _ X3)
                | (go_simp; go_at_call 16; refine (HRo.out _ X3 (((HI.out.ext ((Ext.refl wr).drew)).ext x2).ext x3)).mono ?_; rintro e w4 ⟨rfl, i4, t4⟩; have I4 := Lib.hid i4; have X4 := Lib.hid (X3.turnedB t4); have S4 := Lib.hid ((((HS.out.ext ((Ext.refl wr).drew)).ext x2).ext x3).turnP t4); clear i4 t4))
              all_goals
                clear KD hk1
                go_wp2
                go_roundw
                case rel => exact ⟨i + 1, by omega, by go_num, ⟨_, Lib.hid (by rw [HNG.out]), I4⟩, S4, X4⟩
                case measure => simp [intOf]; omega
            · obtain rfl : i = K.length := by omega
              have hlti : ¬ (K.length : Int) < (K.length : Int) := by omega
              clear hlt hi
              have zA := HZ.out.1; have zB := HZ.out.2.1; have zN0 := HZ.out.2.2.1; have zN1 := HZ.out.2.2.2
              have hG := ringG_good kb zB K K.length (by omega)
              have htop := ringG_top kb K K.length
              have hlen := ringG_length kb K K.length
              have hm1 := ringG_mem kb K 0 K.length (by omega)
              have hml := ringG_last kb K K.length
              rw [HR0.out.2.1] at hm1
              have hzK := nonceG_size N0 zN0 K K.length
              have he := HE.out
              generalize ringG kb K K.length = RK at *
              generalize nonceG N0 K K.length = NK at *
              generalize lastG kb K K.length = lk at *
              have hEs : E.size ≤ 4000 := by rw [he, envOf_size hG _ _ _ hzK]; have := hG.few; omega
              have hn16 : n ≤ 16 := by omega
              have hn1 : 1 ≤ n := by omega
              have HEp : ∀ u, Calls Tryz.prog 85 #[.string E] u fun r w' => r = .returned (.tuple #[.int .u32 1, .int .i64 0]) ∧ Ext u w' := fun u => by
                have := epoch_sealed A 1 (by omega) pathB n NK (ringB RK) hzK (by have := ringB_le hG; omega) u
                rw [he]
                unfold envOf
                exact this
              have HHd := Lib.hid (fun u (hu : IsP u w.heap.size xb (.opened n E A RK)) => header_any u w.heap.size xb _ hu)
              have HHc := Lib.hid (fun u (hu : IsP u w.heap.size xb (.closed n E [])) => header_any u w.heap.size xb _ hu)
              have HSe := Lib.hid (fun u (hu : IsP u w.heap.size xb (.opened n E A RK)) => seal_yes u w.heap.size xb n E A RK hu)
              have HLo := Lib.hid (fun u y (hu : IsP u w.heap.size y .none) => load_yes u w.heap.size y hu n E hn1 hn16 (by omega) (fun v => mayBe_yes n E 1 0 hn1 hn16 HEp v))
              have hd1 : hdS (.opened n E A RK) = hdT n E := rfl
              have hd2 : hdS (.closed n E []) = hdT n E := rfl
              simp only [hd1] at HHd
              simp only [hd2] at HHc
              generalize hdT n E = H at *
              have hFL : splitT A T = (rowF A T).map fun x => shareT x.1 n x.2 := by rw [splitT_row, HLE.out, HNN.out]
              have hFl : (rowF A T).length = n := by rw [rowF_length, HLE.out, HNN.out]
              have HFL := Lib.hid hFL; have HFl := Lib.hid hFl
              have HRK := Lib.hid (And.intro hG (And.intro htop (And.intro hlen (And.intro hm1 hml)))); have HEq := Lib.hid he; have HZK := Lib.hid hzK
              clear hd1 hd2 HEp hEs he hzK hml hm1 hlen htop hG zA zB zN0 zN1 hFL hFl
              cases anew
              all_goals
                go_wp2_with (first
                  | (go_at_call 17; (with_reducible refine (HHd.out _ HI.out).mono ?_); rintro e w2 ⟨rfl, rfl⟩)
                  | (go_at_call 18; refine (HSe.out _ HI.out).mono ?_; rintro e w3 ⟨rfl, i3, t3⟩; have I3 := Lib.hid i3; have X3 := HX.out.turnedB t3; have S3 := Lib.hid (HS.out.turnP t3); clear i3 t3)
                  | (go_at_call 17; (with_reducible refine (HHc.out _ I3.out).mono ?_); rintro e w4 ⟨rfl, rfl⟩)
                  | (go_at_call 9; refine (HNw.out _ X3).mono ?_; rintro e w5 ⟨yb, rfl, i5, x5⟩; have I5 := Lib.hid i5; have X5 := X3.trans x5; have S5 := Lib.hid (S3.out.ext x5); clear i5)
                  | (go_at_call 19; refine (HLo.out _ _ I5.out).mono ?_; rintro e w6 ⟨rfl, i6, t6⟩; have I6 := Lib.hid i6; have X6 := X5.turnedB t6; have S6 := Lib.hid (S5.out.turnP t6); clear i6 t6)
                  | (at_builtin; refine wpList_append_sl rfl (.const (.slice none 0 0)) (.tmp 172) 35 35 rfl Tryz.underlying35 infoS14 rfl (by decide) rfl (Sl.nil _ (fun _ => 0) 1 1 _) (fun u hu => by cases hu) _ rfl n ((splitT A T).map Value.string) (by first | exact S6.out.srcS (by rw [HFL.out]; intro q; have := HFl.out; rw [List.map_eq_nil_iff] at q; rw [q] at this; simp at this; omega) (by rw [HFL.out, List.length_map, HFl.out]) | exact S3.out.srcS (by rw [HFL.out]; intro q; have := HFl.out; rw [List.map_eq_nil_iff] at q; rw [q] at this; simp at this; omega) (by rw [HFL.out, List.length_map, HFl.out])) (by omega) ?_
                     intro p7 c7 w7 κ7 s7 f7 e7 x7 _
                     have y7 := x7 rfl
                     rw [Nat.zero_add, List.nil_append] at s7
                     rw [Nat.zero_add]))
                first
                  | (have IY := Lib.hid (I6.out.ext y7); have XB := X6; generalize yb = Y at *)
                  | (have IY := Lib.hid (I3.out.ext y7); have XB := X3; generalize xb = Y at *)
                have XY := Lib.hid (XB.trans y7)
                have LY := Lib.hid (left_new XB.size (by rw [HFL.out, List.length_map, HFl.out]) s7 e7)
                rw [HFL.out] at LY
                have CY : Hid (Come w7 w.heap.size Y n E A RK (rowF A T) (rowF A T) []) := Lib.hid ⟨by rw [List.append_nil], fun _ => IY.out, fun q => by have := HFl.out; rw [q] at this; simp at this; omega⟩
                have hN2 := nonce15_fit ⟨#[50]⟩
                have zN2 := f12B_size ⟨#[50]⟩
                generalize f12B ⟨#[50]⟩ = N2 at *
                have HN2 := Lib.hid hN2
                have HZ2 := Lib.hid zN2
                have hfl := HFl.out
                have HNi := Lib.hid (And.intro hni (And.intro hn16 hn1))
                clear hni hn16 hn1 hmi hm5 hlti hlt2 zN2
                go_loopw [27, 28] (fun lv iv wr => ∃ (i r : Nat) (R G : List (Nat × ByteArray)) (pl : Option Addr) (cl : Nat), iv = .int .i64 (i : Int) ∧ lv = .slice pl r cl ∧ R.length = r ∧ i + r = n ∧ Hid (IsL wr w.heap.size pl cl (R.map fun x => shareT x.1 n x.2)) ∧ Hid (Come wr w.heap.size Y n E A RK (rowF A T) R G) ∧ Hid (Ext w wr)) (fun lv _ _ => lenV lv)
                case atStart => exact ⟨0, n, rowF A T, [], p7, c7, rfl, rfl, HFl.out, Nat.zero_add n, LY, CY, XY⟩
                case round =>
                  clear LY CY XY IY XB s7 f7 e7 y7 x7
                  obtain ⟨i, r, R, G, pl, cl, rfl, rfl, hr, hir, HL, HC, HX9⟩ := hrel
                  by_cases hr0 : 0 < r
                  · have hri : (0 : Int) < (r : Int) := by omega
                    have hrn : ¬ (r : Int) = 0 := by omega
                    have hre : ((r : Int) == 0) = false := by simpa using hrn
                    go_upto_if 182 with (fail)
                    go_cut [29] (fun kv wx => ∃ k : Nat, k < r ∧ kv = .int .i64 (k : Int) ∧ wr = wx)
                    case first =>
                      obtain ⟨k, hk, hkc⟩ := pick_k O i r hr0
                      rcases hkc with ⟨hio, o, ho, hok⟩ | ⟨hio, rfl⟩
                      · obtain ⟨ao, rfl, hao, hco⟩ := (HO.out.ext HX9.out) i (.int .u8 (o : Int)) (by unfold vU8; simp [ho])
                        have ho256 : o < 256 := HO2.out o (List.mem_of_getElem? ho)
                        clear ho hao
                        go_wp2
                        go_meet
                        exact ⟨k, hk, by rw [hok], rfl⟩
                      · go_wp2
                        go_meet
                        exact ⟨0, hk, rfl, rfl⟩
                    obtain ⟨k, hk, rfl, rfl⟩ := hcut
                    obtain ⟨x, hx⟩ : ∃ x, R[k]? = some x := ⟨_, List.getElem?_eq_getElem (by omega)⟩
                    have hne : R ≠ [] := fun q => by rw [q] at hr; simp at hr; omega
                    have hml : (R.map fun x => shareT x.1 n x.2)[k]? = some (shareT x.1 n x.2) := by simp [hx]
                    have hls : (R.map fun x => shareT x.1 n x.2).length = r := by rw [List.length_map, hr]
                    obtain ⟨g, rfl, hcl⟩ := HL.out.at_ hml
                    have HCl := Lib.hid (fun u (hu : IsL u w.heap.size (some ⟨g, 0, none⟩) cl (R.map fun x => shareT x.1 n x.2)) => hu.cell_at hml)
                    have HGs := Lib.hid (fun u (hu : IsP u w.heap.size Y (.closed n E G)) => get_shut u w.heap.size Y _ hu (by simp [stN]) ⟨#[112]⟩ 7 V)
                    have HPs := Lib.hid (fun u (hu : IsP u w.heap.size Y (.closed n E G)) => put_shut u w.heap.size Y _ hu (by simp [stN]) ⟨#[112]⟩ 8 N2 text)
                    have hm0 : mayE (.closed n E G) = 150 := rfl
                    rw [hm0] at HGs HPs
                    obtain ⟨last, hlast⟩ : ∃ last, (R.length == 1) = last := ⟨_, rfl⟩
                    have hla : ((r : Int) == 1) = last := by rw [← hlast, hr]; rw [Bool.eq_iff_iff]; simp; omega
                    have HUn := Lib.hid (fun u (x' : Ext w u) (hu : Come u w.heap.size Y n E A RK (rowF A T) R G) => unseal_come u w.heap.size Y n HB2.out (HLd.out u x') E A NK RK R G T HEq.out HRK.out.1 HZK.out HZ.out.1 HTS.out (by rw [HLE.out, HNN.out]) hu k x hx last hlast)
                    have HCs := Lib.hid (HC.out.some_ hne)
                    have HX1 := Lib.hid hx; have HLs := Lib.hid hls; have HRr := Lib.hid hr
                    have hk1 : (k : Int) < (r : Int) := by omega
                    have HIr := Lib.hid (And.intro hir (And.intro hk hr0))
                    have hib : (i : Int) ≤ 16 := by have := HNi.out.2.1; omega
                    clear hx hml hls hm0 hne hlast hr hfl hir hk hr0
                    generalize shareT x.1 n x.2 = SX at *
                    go_wp2_with (first
                      | (go_at_call 20; refine (HGs.out _ HCs.out).mono ?_; rintro e w2 ⟨rfl, rfl⟩)
                      | (go_at_call 14; refine (HN2.out _).mono ?_; rintro e w3 ⟨rfl, x3⟩)
                      | (go_at_call 15; refine (HPs.out _ (HCs.out.ext x3)).mono ?_; rintro e w4 ⟨rfl, rfl⟩; have L4 := Lib.hid (HL.out.ext x3); have k4 := HCl.out _ L4.out)
                      | (go_at_call 21; refine (HUn.out _ (HX9.out.trans x3) (HC.out.ext x3)).mono ?_; rintro e w5 ⟨rfl, i5, t5⟩; have I5 := Lib.hid i5; have X5 := Lib.hid ((HX9.out.trans x3).turnedB t5); have L5 := Lib.hid (L4.out.turnP t5); clear i5 t5))
                    obtain ⟨hs1, ad, hs2, hsrc, hsl⟩ := left_cuts w5 w.heap.size g cl _ L5.out k r HLs.out HIr.out.2.1 (by have := HIr.out.1; have := HNi.out.2.1; omega)
                    have HSrc := Lib.hid hsrc; have HSl := Lib.hid hsl
                    have hwk : IntKind.i64.wrap ((k : Int) + 1) = (k : Int) + 1 := IntWalk.i64_in _ ⟨by omega, by have := HIr.out.1; have := HIr.out.2.1; have := HNi.out.2.1; omega⟩
                    have hk0 : ¬ (k : Int) < 0 := by omega
                    clear hsrc hsl
                    go_region_law (refine step_append_sl rfl (.tmp 232) (.tmp 236) 35 35 rfl Tryz.underlying35 infoS14 rfl (by decide) ((Act.eval_put_ne _ 236 232 _ (by decide)).trans ((Act.eval_put_ne _ 235 232 _ (by decide)).trans ((Act.eval_put_ne _ 234 232 _ (by decide)).trans ((Act.eval_put_ne _ 233 232 _ (by decide)).trans (Act.eval_put_same _ 232 _ (by simp only [Act.size_put]; exact Nat.lt_of_lt_of_le (show 232 < 289 by decide) (Nat.le_refl 289))))))) (HSl.out _ ((Ext.refl w5).drew)) (strs_one _) _ (Act.eval_put_same _ 236 _ (by simp only [Act.size_put]; exact Nat.lt_of_lt_of_le (show 236 < 289 by decide) (Nat.le_refl 289))) (r - (k + 1)) _ (HSrc.out _ ((Ext.refl w5).drew)) (by have := HIr.out.1; have := HIr.out.2.1; have := HNi.out.2.1; omega) ?_; intro p9 c9 w9 κ9 s9 f9 e9 x9 _; obtain ⟨l9, k9⟩ := left_made L5.out X5.out.size HLs.out HIr.out.2.1 ((Ext.refl w5).drew) s9 f9 e9; have L9 := Lib.hid l9; have K9 := Lib.hid k9; clear s9 f9 e9 x9 l9 k9)
                    all_goals
                      go_wp2
                      go_roundw
                      case rel =>
                        have h1 := HIr.out.1; have h2 := HIr.out.2.1
                        refine ⟨i + 1, k + (r - (k + 1)), R.take k ++ R.drop (k + 1), G ++ [x], p9, c9, by go_num, rfl, ?_, by omega, Lib.hid ?_, Lib.hid ((I5.out.ext ((Ext.refl w5).drew)).keepS K9.out), Lib.hid (((X5.out).drew).keptS K9.out)⟩
                        · have := HRr.out; simp only [List.length_append, List.length_take, List.length_drop]; omega
                        · rw [List.map_append, List.map_take, List.map_drop]; exact L9.out
                      case measure => have h2 := HIr.out.2.1; simp [lenV]; omega
                  · obtain rfl : r = 0 := by omega
                    have hri : ¬ (0 : Int) < ((0 : Nat) : Int) := by omega
                    obtain rfl : R = [] := List.length_eq_zero_iff.1 hr
                    have HI9 := Lib.hid (HC.out.all_ rfl)
                    have htx : text.size ≤ 1048576 := by omega
                    have hV := HVv.out
                    have HG1 : Hid (∀ u, Ext w u → IsP u w.heap.size Y (.opened n E A RK) → Calls Tryz.prog 20 #[.pointer (some ⟨Y, 0, none⟩), .string ⟨#[112]⟩, .int .u64 7, .string V] u fun e w' => e = .returned (.tuple #[.string text, .int .i64 0]) ∧ Ext u w') := Lib.hid (fun u hx hu => by
                      subst hV
                      exact get_is u (HLd.out u hx) w.heap.size Y n E A kb RK hu 1 HRK.out.2.2.2.1 ⟨#[112]⟩ 7 N1 text HZ.out.2.2.2 (by decide) htx)
                    obtain ⟨U, hU⟩ : ∃ U, sealT lk (K.length + 1) ⟨#[112]⟩ 8 N2 text = U := ⟨_, rfl⟩
                    have HP2 : Hid (∀ u, Ext w u → IsP u w.heap.size Y (.opened n E A RK) → Calls Tryz.prog 15 #[.pointer (some ⟨Y, 0, none⟩), .string ⟨#[112]⟩, .int .u64 8, .string N2, .string text] u fun e w' => e = .returned (.tuple #[.string U, .int .i64 0]) ∧ Ext u w') := Lib.hid (fun u hx hu => by
                      subst hU
                      exact put_is u (HLd.out u hx) w.heap.size Y n E A lk RK hu (K.length + 1) HRK.out.2.1 HRK.out.2.2.2.2 ⟨#[112]⟩ 8 N2 text HZ2.out (by decide) htx)
                    have HG2 : Hid (∀ u, Ext w u → IsP u w.heap.size Y (.opened n E A RK) → Calls Tryz.prog 20 #[.pointer (some ⟨Y, 0, none⟩), .string ⟨#[112]⟩, .int .u64 8, .string U] u fun e w' => e = .returned (.tuple #[.string text, .int .i64 0]) ∧ Ext u w') := Lib.hid (fun u hx hu => by
                      subst hU
                      exact get_is u (HLd.out u hx) w.heap.size Y n E A lk RK hu (K.length + 1) HRK.out.2.2.2.2 ⟨#[112]⟩ 8 N2 text HZ2.out (by decide) htx)
                    have HEp := Lib.hid (fun u (hu : IsP u w.heap.size Y (.opened n E A RK)) => epochs_open u w.heap.size Y n E A RK hu (K.length + 1) HRK.out.2.2.1)
                    have hX9 := HX9.out
                    clear hr0 hr hir hV hU htx hfl
                    go_wp2_with (first
                      | (go_at_call 20; (with_reducible refine (HG1.out _ hX9 HI9.out).mono ?_); rintro e w2 ⟨rfl, x2⟩; replace HI9 := Lib.hid (HI9.out.ext x2); replace hX9 := hX9.trans x2)
                      | (go_at_call 14; refine (HN2.out _).mono ?_; rintro e w3 ⟨rfl, x3⟩; replace HI9 := Lib.hid (HI9.out.ext x3); replace hX9 := hX9.trans x3)
                      | (go_at_call 15; refine (HP2.out _ hX9 HI9.out).mono ?_; rintro e w4 ⟨rfl, x4⟩; replace HI9 := Lib.hid (HI9.out.ext x4); replace hX9 := hX9.trans x4)
                      | (go_at_call 20; (with_reducible refine (HG2.out _ hX9 HI9.out).mono ?_); rintro e w5 ⟨rfl, x5⟩; replace HI9 := Lib.hid (HI9.out.ext x5); replace hX9 := hX9.trans x5)
                      | (go_at_call 22; refine (HEp.out _ HI9.out).mono ?_; rintro e w6 ⟨g6, c6, rfl, i6, x6⟩; replace hX9 := hX9.trans x6; clear i6)
                      | (go_at_call 8; refine (HW.out _ hX9).mono ?_; rintro e w7 ⟨rfl, x7⟩; replace hX9 := hX9.trans x7))
                    go_ret
                    exact ⟨rfl, hX9⟩
end Go.Proofs.YtcjdnifckngcfaaGreatDoor
