/- Both Open, and both Epoch, of any text. Contracts: keys by epochs: the document's Read, of any bytes. Both sides read the bytes of a ring: nothing, or the same keys. Both sides' barriers: each call has one answer, and leaves one state. -/
import Derived.Test.YtobhbppogeghnaaGreatDoorM37
import Derived.Test.YtobhbppogeghnaaGreatDoorM39
import Derived.Test.YtobhbppogeghnaaGreatDoorM31
import Derived.Test.YtobhbppogeghnaaGreatDoorM26
import Derived.Test.YtobhbppogeghnaaGreatDoorM01
import Derived.Test.YtobhbppogeghnaaGreatDoorM05
import Derived.Deep.RegionLaw
import Derived.BigRegion
import Derived.Outline
import Derived.Test.YtobhbppogeghnaaGreatDoorM27
import Derived.Test.YtobhbppogeghnaaGreatDoorM28
section
namespace Go.Proofs.YtobhbppogeghnaaGreatDoor
open Go.RowKit
attribute [local irreducible] rkey expand enc dec ctrB ctrC ctrL xorL turnL turnT kd t4 t8 env5 chk tagT sealT outK

theorem opens_both (w : World) (hL : Laid w) (L : List (Nat × ByteArray)) (path : ByteArray) (v : Nat) (hv : v < 2 ^ 64) (S : ByteArray) (hp : path.size ≤ 1500) :
    ∃ (V : ByteArray) (oe : Int) (en : Int) (ee : Int),
      (∀ u r k, Ext w u → IsK u r k L → Calls Tryz.prog 49 #[.pointer (some ⟨r, 0, none⟩), .string path, .int .u64 (v : Int), .string S] u fun e w' => e = .returned (.tuple #[.string V, .int .i64 oe]) ∧ Ext u w') ∧
      (∀ u B d p c, IsR u B d p c L → GoodK L → Calls Tryz.prog 63 #[.pointer (some ⟨d, 0, none⟩), .string path, .int .u64 (v : Int), .string S] u fun e w' => e = .returned (.tuple #[.string V, .int .i64 oe]) ∧ Ext u w') ∧
      (∀ u, Calls Tryz.prog 85 #[.string S] u fun e w' => e = .returned (.tuple #[.int .u32 en, .int .i64 ee]) ∧ Ext u w') ∧
      (∀ u, Calls Tryz.prog 60 #[.string S] u fun e w' => e = .returned (.tuple #[.int .u32 en, .int .i64 ee]) ∧ Ext u w') := by
  have bad : (∀ u, Calls Tryz.prog 85 #[.string S] u fun e w' => e = .returned (.tuple #[.int .u32 0, .int .i64 7]) ∧ Ext u w') → (∀ u, Calls Tryz.prog 60 #[.string S] u fun e w' => e = .returned (.tuple #[.int .u32 0, .int .i64 7]) ∧ u = w') → _ := fun h1 h2 =>
    (⟨⟨#[]⟩, 7, 0, 7, fun u r k _ hu => open_form u hu path v S h1, fun u B d p c _ _ => (ropen_form u d path v S h2).mono fun _ _ q => ⟨q.1, q.2 ▸ Ext.refl _⟩, h1, fun u => (h2 u).mono fun _ _ q => ⟨q.1, q.2 ▸ Ext.refl _⟩⟩ : ∃ (V : ByteArray) (oe : Int) (en : Int) (ee : Int),
      (∀ u r k, Ext w u → IsK u r k L → Calls Tryz.prog 49 #[.pointer (some ⟨r, 0, none⟩), .string path, .int .u64 (v : Int), .string S] u fun e w' => e = .returned (.tuple #[.string V, .int .i64 oe]) ∧ Ext u w') ∧
      (∀ u B d p c, IsR u B d p c L → GoodK L → Calls Tryz.prog 63 #[.pointer (some ⟨d, 0, none⟩), .string path, .int .u64 (v : Int), .string S] u fun e w' => e = .returned (.tuple #[.string V, .int .i64 oe]) ∧ Ext u w') ∧
      (∀ u, Calls Tryz.prog 85 #[.string S] u fun e w' => e = .returned (.tuple #[.int .u32 en, .int .i64 ee]) ∧ Ext u w') ∧
      (∀ u, Calls Tryz.prog 60 #[.string S] u fun e w' => e = .returned (.tuple #[.int .u32 en, .int .i64 ee]) ∧ Ext u w'))
  by_cases hs : S.size < 49 ∨ 1048625 < S.size
  · exact bad (fun u => (epoch_len S hs u).mono fun _ _ q => ⟨q.1, q.2 ▸ Ext.refl _⟩) (fun u => repoch_len S hs u)
  · obtain ⟨x, e, C, D, T, he, hC, hT, hD, rfl⟩ := shape_ex S (by omega)
    have hD2 : D.size ≤ 1048576 := by omega
    by_cases hx : x = 1
    · subst hx
      have hb : b1 1 = t1 := rfl
      rw [hb]
      by_cases hn : e ∈ eps L
      · obtain ⟨⟨e', s⟩, hm, rfl⟩ := List.mem_map.1 hn
        have h1 := fun u r k hx (hu : IsK u r k L) => open_key (T := T) u (hL.ext hx) hu s hm path v hC hT hD2 (by omega)
        have h2 := fun u B d p c (hu : IsR u B d p c L) hG => ropen_key (T := T) u hu hG s hm path v hv hC hT hD2 (by omega)
        have h3 := fun u => epoch_yes (T := T) he hC hT hD2 u
        have h4 : ∀ u, Calls Tryz.prog 60 #[.string (env5 t1 (t4 e') C D T)] u fun e w' => e = .returned (.tuple #[.int .u32 (e' : Int), .int .i64 0]) ∧ Ext u w' := fun u => (repoch_yes (T := T) he hC hT hD2 u).mono fun _ _ q => ⟨q.1, q.2 ▸ Ext.refl _⟩
        revert h1 h2
        generalize chk T.data.toList (tagT (kd s tagB 32) path v t1 (t4 e') C D).data.toList = ok
        intro h1 h2
        cases ok
        · exact ⟨⟨#[]⟩, 141, _, 0, h1, h2, h3, h4⟩
        · exact ⟨turnT (kd s cipB 16) C 0 D, 0, _, 0, h1, h2, h3, h4⟩
      · exact ⟨⟨#[]⟩, 140, (e : Int), 0, fun u r k _ hu => open_epoch u hu path v he hC hT hD2 (by omega) hn, fun u B d p c hu hG => ropen_epoch u hu hG.few path v he hC hT hD2 (by omega) hn, fun u => epoch_yes he hC hT hD2 u, fun u => (repoch_yes he hC hT hD2 u).mono fun _ _ q => ⟨q.1, q.2 ▸ Ext.refl _⟩⟩
    · exact bad (fun u => epoch_first hC hT hD2 hx u) (fun u => repoch_first hC hT hD2 hx u)
end Go.Proofs.YtobhbppogeghnaaGreatDoor
end

section
namespace Go.Proofs.YtobhbppogeghnaaGreatDoor
open Go.RowKit

set_option maxRecDepth 100000 in
theorem rread_no (s : ByteArray) (h : ¬ Counted s) (hz : s.size ≤ 140737488351232) (w : World) :
    Calls Tryz.prog 65 #[.string s] w fun e w' => e = .returned (.pointer none) ∧ w = w' := by
  by_cases h0 : 0 < s.size
  · have h0i : (0 : Int) < (s.size : Int) := by omega
    have h0n : ¬ (s.size : Int) = 0 := by omega
    have hb256 := UInt8.toNat_lt s[0]
    have hcase : s[0].toNat < 1 ∨ 64 < s[0].toNat ∨ ¬ s.size = 1 + s[0].toNat * 36 := by
      rcases Nat.lt_or_ge s[0].toNat 1 with q | q1
      · exact .inl q
      · rcases Nat.lt_or_ge 64 s[0].toNat with q | q2
        · exact .inr (.inl q)
        · refine .inr (.inr fun q3 => h ⟨s[0], s.data.toList.tail, ?_, q1, q2, ?_⟩)
          · cases hd : s.data.toList with
            | nil => have := size_list s; rw [hd] at this; simp at this; omega
            | cons x r =>
              have := text_at s 0 x (by rw [hd]; rfl) h0
              rw [this]
              rfl
          · rw [List.length_tail, size_list]; omega
    obtain ⟨n, hb⟩ : ∃ n, s[0].toNat = n := ⟨_, rfl⟩
    have hw : wrap64 (s[0].toNat : Int) = (n : Int) := by rw [hb]; simp [wrap64]; omega
    rw [hb] at hcase hb256
    have HC := Lib.hid hcase
    clear hcase h hb
    go_enter Tryz.func65, Tryz.ntmps65
    by_cases h1 : n < 1
    · have h1i : (n : Int) < 1 := by omega
      go_wp2
      go_ret
      exact ⟨rfl, rfl⟩
    · have h1i : ¬ (n : Int) < 1 := by omega
      by_cases h2 : 64 < n
      · have h2i : (64 : Int) < (n : Int) := by omega
        go_wp2
        go_ret
        exact ⟨rfl, rfl⟩
      · have h2i : ¬ (64 : Int) < (n : Int) := by omega
        have h3 : ¬ (s.size : Int) = 1 + (n : Int) * 36 := by have := HC.out; omega
        have h3b : ((s.size : Int) != 1 + (n : Int) * 36) = true := by simpa using h3
        go_wp2
        go_ret
        exact ⟨rfl, rfl⟩
  · have h0n : (s.size : Int) = 0 := by omega
    clear h
    go_enter Tryz.func65, Tryz.ntmps65
    go_wp2
    go_ret
    exact ⟨rfl, rfl⟩
/-- What stands at a row. -/
theorem row_at {L : List (Nat × ByteArray)} (hs : ∀ x ∈ L, x.2.size = 32) {j e : Nat} {s : ByteArray} (hx : L[j]? = some (e, s)) :
    ∃ pre post, ringL L = pre ++ (be 4 e ++ (s.data.toList ++ post)) ∧ pre.length = 1 + j * 36 := by
  obtain ⟨h1, h2⟩ := List.getElem?_eq_some_iff.1 hx
  have hd : L.drop j = (e, s) :: L.drop (j + 1) := by rw [← h2]; exact List.drop_eq_getElem_cons h1
  refine ⟨UInt8.ofNat L.length :: rowsL (L.take j), rowsL (L.drop (j + 1)), ?_, ?_⟩
  · have hr : rowsL (L.take j ++ L.drop j) = rowsL (L.take j) ++ (be 4 e ++ s.data.toList ++ rowsL (L.drop (j + 1))) := by rw [rowsL_append, hd, rowsL]
    rw [List.take_append_drop] at hr
    unfold ringL
    rw [hr]
    simp
  · rw [List.length_cons, rowsL_length (fun x hx2 => hs x (List.mem_of_mem_take hx2)), List.length_take]
    omega
theorem sub_row {pre post : List UInt8} {e : Nat} {s : ByteArray} (hs : s.size = 32) : sub ⟨(pre ++ (be 4 e ++ (s.data.toList ++ post))).toArray⟩ pre.length 4 = be 4 e ∧ (⟨(pre ++ (be 4 e ++ (s.data.toList ++ post))).toArray⟩ : ByteArray).extract (pre.length + 4) (pre.length + 4 + 32) = s := by
  constructor
  · unfold sub
    show List.take 4 (List.drop pre.length (pre ++ (be 4 e ++ (s.data.toList ++ post)))) = be 4 e
    rw [List.drop_append_of_le_length (Nat.le_refl _), List.drop_length, List.nil_append, List.take_append_of_le_length (by rw [be_length]; exact Nat.le_refl _)]
    exact List.take_of_length_le (by rw [be_length]; exact Nat.le_refl _)
  · apply ByteArray.ext
    apply Array.toList_inj.1
    rw [Lib.extract_data]
    have e1 : pre ++ (be 4 e ++ (s.data.toList ++ post)) = (pre ++ be 4 e) ++ (s.data.toList ++ post) := by simp
    simp only [e1]
    rw [List.drop_append_of_le_length (by simp [be_length]), List.drop_of_length_le (by simp [be_length]), List.nil_append, List.take_append_of_le_length (by rw [size_list]; omega)]
    exact List.take_of_length_le (by rw [size_list]; omega)
/-- What the document's Read answers: a ring of the rows, or nothing. -/
def RReadE (w w' : World) (L : List (Nat × ByteArray)) (e : Ending) : Prop :=
  (Rising L ∧ ∃ d p c, e = .returned (.pointer (some ⟨d, 0, none⟩)) ∧ IsR w' w.heap.size d p c L) ∨ (¬ Rising L ∧ e = .returned (.pointer none))
set_option maxRecDepth 100000 in
set_option maxHeartbeats 8000000 in
theorem rread_rows (w : World) (L : List (Nat × ByteArray)) (hG : RowsOk L) :
    Calls Tryz.prog 65 #[.string ⟨(ringL L).toArray⟩] w fun e w' => RReadE w w' L e ∧ Ext w w' := by
  have h1 : 1 ≤ L.length := hG.one
  have h64 := hG.few
  have hsz : ByteArray.size ⟨(ringL L).toArray⟩ = 1 + L.length * 36 := by
    rw [txt_size, ringL, List.length_cons, rowsL_length fun x hx => (hG.each x hx).2]
    omega
  have hfirst := index_text ⟨(ringL L).toArray⟩ 0 (UInt8.ofNat L.length) (by simp [ringL])
  have hfn : (((UInt8.ofNat L.length).toNat : Nat) : Int) = (L.length : Int) := by rw [UInt8.toNat_ofNat']; omega
  have hfirst2 : ∀ u, (Instr.index 9 (.string ⟨(ringL L).toArray⟩) (.int .i64 0)).run Tryz.prog u = .ok (.int .u8 (L.length : Int)) u := fun u => by
    have := hfirst u
    rw [hfn] at this
    exact this
  have HRow := Lib.hid (fun j e s (hx : L[j]? = some (e, s)) => row_at (fun x hx => (hG.each x hx).2) hx)
  have HGd := Lib.hid hG
  have HX := Lib.hid (rfl : (⟨(ringL L).toArray⟩ : ByteArray) = ⟨(ringL L).toArray⟩)
  obtain ⟨S, hS⟩ : ∃ S : ByteArray, S = ⟨(ringL L).toArray⟩ := ⟨_, rfl⟩
  rw [← hS] at hsz hfirst2 ⊢
  have HS := Lib.hid hS
  have hszi : (S.size : Int) = 1 + (L.length : Int) * 36 := by omega
  have h0n : ¬ (S.size : Int) = 0 := by omega
  have h0i : (0 : Int) < (S.size : Int) := by omega
  have h1i : ¬ (L.length : Int) < 1 := by omega
  have h2i : ¬ (64 : Int) < (L.length : Int) := by omega
  have hwn : IntKind.i64.wrap (L.length : Int) = (L.length : Int) := IntWalk.i64_in _ ⟨by omega, by omega⟩
  have hwm : wrap64 (L.length : Int) = (L.length : Int) := IntWalk.wrap64_in _ ⟨by omega, by omega⟩
  have HSz := Lib.hid hsz
  obtain ⟨W1, hW1⟩ : ∃ W1, w.alloc (.cells #[.slice none 0 0] 77) = W1 := ⟨_, rfl⟩
  have hX1 : Ext w W1 := by rw [← hW1]; exact (Ext.refl w).alloc _
  have hR1 : IsR W1 w.heap.size w.heap.size none 0 [] := ⟨by rw [← hW1]; exact Blk.new w _ _, Sl.nil _ _ _ _ _, Nat.le_refl _, fun g hg => (by cases hg), by simp [kp]⟩
  have HX1 := Lib.hid hX1; have HR1 := Lib.hid hR1
  clear hG hsz hfirst hfn HX hS hX1 hR1 h1
  go_enter Tryz.func65, Tryz.ntmps65
  go_wp2
  clear h0n h0i h1i h2i hwn hwm hszi hfirst2
  go_loopw [5, 6] (fun lv iv wr => ∃ (j m : Nat) (pd : Option Addr) (cd : Nat), j ≤ L.length ∧ iv = .int .i64 (j : Int) ∧ lv = .int .u32 (m : Int) ∧ Hid (m = top (eps (L.take j))) ∧ Hid (Rising (L.take j)) ∧ Hid (IsR wr w.heap.size w.heap.size pd cd (L.take j)) ∧ Hid (Ext w wr)) (fun _ iv _ => L.length - (intOf iv).toNat)
  case atStart =>
    exact ⟨0, 0, none, 0, Nat.zero_le _, rfl, rfl, Lib.hid (by simp [eps, top]), Lib.hid (by simp [Rising, eps]), by rw [List.take_zero]; exact HR1, HX1⟩
  case round =>
    clear HX1 HR1 hW1
    obtain ⟨j, m, pd, cd, hj, rfl, rfl, HM, HRi, HD, HXr⟩ := hrel
    by_cases hlt : j < L.length
    · have hlti : (j : Int) < (L.length : Int) := by omega
      obtain ⟨⟨e, s⟩, hx⟩ : ∃ x, L[j]? = some x := ⟨_, List.getElem?_eq_getElem hlt⟩
      have hmem := List.mem_of_getElem? hx
      have hs32 : s.size = 32 := (HGd.out.each _ hmem).2
      have he32 : e < 4294967296 := (HGd.out.each _ hmem).1
      obtain ⟨pre, post, hrow, hpre⟩ := HRow.out j e s hx
      have hsub := sub_row (pre := pre) (post := post) (e := e) hs32
      rw [← hrow, ← HS.out, hpre] at hsub
      have ht : L.take (j + 1) = L.take j ++ [(e, s)] := by
        rw [List.take_add_one, hx]
        rfl
      have HT := Lib.hid ht
      obtain ⟨A, hA⟩ : ∃ A, 1 + j * 36 = A := ⟨_, rfl⟩
      rw [hA] at hsub
      have hAi : 1 + (j : Int) * 36 = (A : Int) := by omega
      have hAs : A + 36 ≤ S.size := by rw [HSz.out]; omega
      have hSs : S.size ≤ 3000 := by rw [HSz.out]; omega
      have hg := fun u => rGet_yes S A 4 (by omega) (by omega) (by omega) u
      rw [hsub.1, num_be, Nat.mod_eq_of_lt he32] at hg
      have HG : Hid (∀ u, Calls Tryz.prog 98 #[.string S, .int .i64 (A : Int), .int .i64 4] u fun r w' => r = .returned (.tuple #[.int .u64 (e : Int), .bool true]) ∧ u = w') := Lib.hid hg
      have hsl := fun u => cut_mid S (A + 4) (A + 4 + 32) (by omega) (by omega) u
      rw [hsub.2] at hsl
      have hsl2 : ∀ u, (Instr.slice 9 (.string S) (some (.int .i64 ((A : Int) + 4))) (some (.int .i64 ((A : Int) + 4 + 32))) none).run Tryz.prog u = .ok (.string s) u := hsl
      have hw1 : IntKind.i64.wrap ((j : Int) * 36) = (j : Int) * 36 := IntWalk.i64_in _ ⟨by omega, by omega⟩
      have hw2 : IntKind.i64.wrap (1 + (j : Int) * 36) = 1 + (j : Int) * 36 := IntWalk.i64_in _ ⟨by omega, by omega⟩
      have hw3 : IntKind.i64.wrap ((A : Int) + 4) = (A : Int) + 4 := IntWalk.i64_in _ ⟨by omega, by omega⟩
      have hw4 : IntKind.i64.wrap ((A : Int) + 4 + 32) = (A : Int) + 4 + 32 := IntWalk.i64_in _ ⟨by omega, by omega⟩
      have hw5 : IntKind.u32.wrap (e : Int) = (e : Int) := by simp [IntKind.wrap, IntKind.signed, IntKind.bits]; omega
      clear hx hmem hrow hpre hsub ht hg hsl hA
      go_upto_region 12 with (fail)
      clear hw1 hw2 hAi
      by_cases hle : e ≤ m
      · have hlei : (e : Int) ≤ (m : Int) := by omega
        have HSt := Lib.hid (rising_stop HT.out (by rw [← HM.out]; exact hle))
        clear hle
        go_wp2_with (go_at_call 98; refine (HG.out _).mono ?_; rintro e1 w4 ⟨rfl, rfl⟩)
        go_ret
        exact ⟨.inr ⟨HSt.out, rfl⟩, HXr.out⟩
      · have hlei : ¬ (e : Int) ≤ (m : Int) := by omega
        have HNx := Lib.hid (rising_next HT.out HRi.out (by rw [← HM.out]; omega))
        have htp : top (eps (L.take (j + 1))) = e := by rw [HT.out]; exact top_snocR _ _ _ (by rw [← HM.out]; omega)
        have HTp := Lib.hid htp
        clear hle htp
        go_upto_region 16 with (go_at_call 98; refine (HG.out _).mono ?_; rintro e1 w4 ⟨rfl, rfl⟩)
        have c0 := HD.out.ring.cell 0 _ rfl
        have hltk : (L.take j).length = j := by rw [List.length_take]; omega
        have HX9 : Hid (Ext wr ((wr.alloc (.cells #[.int .u32 (e : Int), .string s] 79)).drew)) := Lib.hid ((Ext.refl wr).alloc _).drew
        have c9 := (HD.out.ring.ext HX9.out).cell 0 _ rfl
        have hl1 : (L.take j).length + 1 ≤ 1000000000 := by omega
        go_region_law (refine step_append_sl rfl (.tmp 56) (.tmp 66) 75 75 rfl Tryz.underlying75 infoEn rfl (by decide) (by simp only [hltk]; simp [Act.eval]) (HD.out.ents.ext HX9.out) (entL_one _) _ (by simp [Act.eval]) 1 [.int .u32 (e : Int), .string s] ((Sl.ofBlkR (κ := fun _ => 0) (z := 2) ((Blk.new wr [.int .u32 (e : Int), .string s] 79).ext (Ext.refl _).drew) rfl rfl).src Tryz.underlying75 (by intro u hu; simp at hu; rcases hu with rfl | rfl <;> rfl)) hl1 ?_; intro p2 c2 w3 κ3 s3 f3 e3 x3 _; obtain ⟨m1, m2⟩ := HD.out.more HXr.out.size HX9.out s3 f3 e3 x3; have hd3 := (f3.blk (HD.out.ring.ext HX9.out) (fun q => HD.out.apart q)); have c3 := hd3.cell 0 _ rfl; have g3 := hd3.frozen 0; have M1 := Lib.hid m1; have M2 := Lib.hid m2; clear s3 f3 e3 x3 m1 m2 hd3)
        all_goals
          have hm1 := M1.out
          have hm2 := M2.out
          rw [← HT.out] at hm1
          simp only [hltk] at hm1 hm2
          have HI := Lib.hid hm1
          have HY := Lib.hid (HXr.out.trans3 hm2.below)
          clear hm1 hm2 M1 M2 c0 c9 hl1
          go_wp2
          go_roundw
          case rel => exact ⟨j + 1, e, p2, c2, hlt, by go_num, rfl, Lib.hid HTp.out.symm, HNx, HI, HY⟩
          case measure => simp [intOf]; omega
    · obtain rfl : j = L.length := by omega
      have hlti : ¬ (L.length : Int) < (L.length : Int) := by omega
      have hR := HRi.out
      rw [List.take_length] at hR
      have hD := HD.out
      rw [List.take_length] at hD
      have HD2 := Lib.hid hD; have HR2 := Lib.hid hR
      clear hlti hD hR HD HRi
      go_wp2
      go_ret
      exact ⟨.inl ⟨HR2.out, _, _, _, rfl, HD2.out⟩, HXr.out⟩
end Go.Proofs.YtobhbppogeghnaaGreatDoor
end

section
namespace Go.Proofs.YtobhbppogeghnaaGreatDoor
open Go.RowKit

end Go.Proofs.YtobhbppogeghnaaGreatDoor
end

section
namespace Go.Proofs.YtobhbppogeghnaaGreatDoor
open Go.RowKit
attribute [local irreducible] rkey expand enc dec ctrB ctrC ctrL xorL xorAll turnL turnT kd t4 t8 env5 chk tagT sealT ringL hdT envOf hdOf

/-- What holds of each state that a barrier is in. -/
def OkS : BS → Prop
  | .none => True
  | .closed n E L => 1 ≤ n ∧ n ≤ 16 ∧ E.size ≤ 140737488351232 ∧ L.length < n
  | .opened n E root K => 1 ≤ n ∧ n ≤ 16 ∧ E.size ≤ 140737488351232 ∧ root.size = 32 ∧ GoodK K
theorem IsP.still {w w' : World} {B b : Nat} {S : BS} (i : IsP w B b S) (x : Ext w w') : IsP w' B b S ∧ TurnP B w w' := ⟨i.ext x, x.turnP i.low_size⟩
theorem IsQ.low_size {w : World} {B d : Nat} {S : BS} (i : IsQ w B d S) : B ≤ w.heap.size := Nat.le_trans i.low.1 (Nat.le_of_lt i.low.2)
theorem IsQ.still {w w' : World} {B d : Nat} {S : BS} (i : IsQ w B d S) (x : Ext w w') : IsQ w' B d S ∧ TurnQ B w w' := ⟨i.ext x, x.turnQ i.low_size⟩
theorem GoodK.topv {K : List (Nat × ByteArray)} (h : GoodK K) : ∃ s, (top (eps K), s) ∈ K := by
  obtain ⟨n, s, _, _, hs⟩ := h.last
  exact ⟨s, List.mem_of_getElem? hs⟩
theorem both_seal (B : Nat) (S : BS) (hS : OkS S) : ∃ (c : Int) (S' : BS), OkS S' ∧
    (∀ w b, IsP w B b S → Calls Tryz.prog 18 #[.pointer (some ⟨b, 0, none⟩)] w fun e w' => e = .returned (.int .i64 c) ∧ IsP w' B b S' ∧ TurnP B w w') ∧
    (∀ w d, IsQ w B d S → Calls Tryz.prog 31 #[.pointer (some ⟨d, 0, none⟩)] w fun e w' => e = .returned (.int .i64 c) ∧ IsQ w' B d S' ∧ TurnQ B w w') := by
  by_cases h2 : stN S = 2
  · cases S with
    | none => cases h2
    | closed n E L => cases h2
    | opened n E root K =>
      refine ⟨0, .closed n E [], ⟨hS.1, hS.2.1, hS.2.2.1, by have := hS.1; simp; omega⟩, fun w b h => seal_yes w B b n E root K h, fun w d h => rseal_yes w B d n E root K h⟩
  · exact ⟨151, S, hS, fun w b h => (seal_no w B b S h h2).mono fun _ _ ⟨q, x⟩ => ⟨q, h.still (x ▸ Ext.refl w)⟩, fun w d h => (rseal_no w B d S h h2).mono fun _ _ ⟨q, x⟩ => ⟨q, h.still (x ▸ Ext.refl w)⟩⟩
theorem both_load (w0 : World) (hL : Laid w0) (B : Nat) (S : BS) (hS : OkS S) (s : ByteArray) (hs : s.size ≤ 140737488351233) : ∃ (c : Int) (S' : BS), OkS S' ∧
    (∀ w b, IsP w B b S → Calls Tryz.prog 19 #[.pointer (some ⟨b, 0, none⟩), .string s] w fun e w' => e = .returned (.int .i64 c) ∧ IsP w' B b S' ∧ TurnP B w w') ∧
    (∀ w d, IsQ w B d S → Calls Tryz.prog 28 #[.pointer (some ⟨d, 0, none⟩), .string s] w fun e w' => e = .returned (.int .i64 c) ∧ IsQ w' B d S' ∧ TurnQ B w w') := by
  by_cases h0 : stN S = 0
  · cases S with
    | closed n E L => cases h0
    | opened n E root K => cases h0
    | none =>
      by_cases hz : 0 < s.size
      · obtain ⟨n, E, h256, rfl, hE⟩ := hdT_of s hz
        by_cases hn : n < 1 ∨ 16 < n
        · exact ⟨7, .none, trivial, fun w b h => (load_form w B b h _ (fun u => mayBe_n n E h256 hn u)).mono fun _ _ ⟨q, x⟩ => ⟨q, h.still x⟩, fun w d h => (rload_n w B d h n E h256 hn (by omega)).mono fun _ _ ⟨q, x⟩ => ⟨q, h.still x⟩⟩
        · obtain ⟨_, _, en, ee, _, _, h3, h4⟩ := opens_both w0 hL [] ⟨#[]⟩ 0 (by omega) E (by decide)
          by_cases he : ee = 0
          · subst he
            exact ⟨0, .closed n E [], ⟨by omega, by omega, by omega, by simp; omega⟩, fun w b h => load_yes w B b h n E (by omega) (by omega) (by omega) (fun u => mayBe_yes n E en 0 (by omega) (by omega) h3 u), fun w d h => rload_yes w B d h n E (by omega) (by omega) en h4⟩
          · have hf : (ee == 0) = false := by simpa using he
            exact ⟨7, .none, trivial, fun w b h => (load_form w B b h _ (fun u => by have := mayBe_yes n E en ee (by omega) (by omega) h3 u; rwa [hf] at this)).mono fun _ _ ⟨q, x⟩ => ⟨q, h.still x⟩, fun w d h => (rload_epoch w B d h n E (by omega) (by omega) en ee he h4).mono fun _ _ ⟨q, x⟩ => ⟨q, h.still x⟩⟩
      · obtain rfl : s = ⟨#[]⟩ := by
          have : s.data.toList.length = 0 := by rw [size_list]; omega
          apply ByteArray.ext
          apply Array.toList_inj.1
          rw [List.length_eq_zero_iff.1 this]
        exact ⟨7, .none, trivial, fun w b h => (load_form w B b h _ (fun u => mayBe_nil u)).mono fun _ _ ⟨q, x⟩ => ⟨q, h.still x⟩, fun w d h => (rload_nil w B d h).mono fun _ _ ⟨q, x⟩ => ⟨q, h.still x⟩⟩
  · exact ⟨151, S, hS, fun w b h => (load_state w B b S h h0 s).mono fun _ _ ⟨q, x⟩ => ⟨q, h.still (x ▸ Ext.refl w)⟩, fun w d h => (rload_state w B d S h h0 s).mono fun _ _ ⟨q, x⟩ => ⟨q, h.still (x ▸ Ext.refl w)⟩⟩
theorem both_put (w0 : World) (hL : Laid w0) (B : Nat) (S : BS) (hS : OkS S) (v : Nat) (hv : v < 2 ^ 64) (nonce text : ByteArray) (ht : text.size ≤ 1048500) : ∃ (X : ByteArray) (c : Int), X.size ≤ 2000000 ∧
    (∀ w b, Ext w0 w → IsP w B b S → Calls Tryz.prog 15 #[.pointer (some ⟨b, 0, none⟩), .string ⟨#[112]⟩, .int .u64 (v : Int), .string nonce, .string text] w fun e w' => e = .returned (.tuple #[.string X, .int .i64 c]) ∧ Ext w w') ∧
    (∀ w d, IsQ w B d S → Calls Tryz.prog 35 #[.pointer (some ⟨d, 0, none⟩), .string ⟨#[112]⟩, .int .u64 (v : Int), .string nonce, .string text] w fun e w' => e = .returned (.tuple #[.string X, .int .i64 c]) ∧ Ext w w') := by
  by_cases h2 : stN S = 2
  · cases S with
    | none => cases h2
    | closed n E L => cases h2
    | opened n E root K =>
      obtain ⟨_, _, _, _, hG⟩ := hS
      obtain ⟨s, hm⟩ := hG.topv
      by_cases hn : nonce.size = 12
      · refine ⟨sealT s (top (eps K)) ⟨#[112]⟩ v nonce text, 0, by rw [sealT_size _ _ _ _ _ _ hn]; omega, fun w b x h => put_open w B b n E root K h _ _ nonce text _ 0 (fun r k hk => close_yes w r k K (hL.ext x) hk s hm _ v nonce text hn (by decide) (by omega)), fun w d h => rput_open w B d n E root K h _ _ nonce text _ 0 (fun r p q hr => rclose_yes w B r p q K hr hG s hm _ v hv nonce text hn (by decide) ht)⟩
      · exact ⟨⟨#[]⟩, 2, by decide, fun w b x h => put_open w B b n E root K h _ _ nonce text _ 2 (fun r k hk => close_arg w r k K hk _ _ nonce text hn), fun w d h => rput_open w B d n E root K h _ _ nonce text _ 2 (fun r p q hr => (rclose_arg w r _ _ nonce text hn).mono fun _ _ ⟨a, x⟩ => ⟨a, x ▸ Ext.refl w⟩)⟩
  · exact ⟨⟨#[]⟩, mayE S, by decide, fun w b x h => (put_shut w B b S h h2 _ _ nonce text).mono fun _ _ ⟨a, x⟩ => ⟨a, x ▸ Ext.refl w⟩, fun w d h => (rput_shut w B d S h h2 _ _ nonce text).mono fun _ _ ⟨a, x⟩ => ⟨a, x ▸ Ext.refl w⟩⟩
theorem both_get (w0 : World) (hL : Laid w0) (B : Nat) (S : BS) (hS : OkS S) (v : Nat) (hv : v < 2 ^ 64) (s : ByteArray) : ∃ (X : ByteArray) (c : Int),
    (∀ w b, Ext w0 w → IsP w B b S → Calls Tryz.prog 20 #[.pointer (some ⟨b, 0, none⟩), .string ⟨#[112]⟩, .int .u64 (v : Int), .string s] w fun e w' => e = .returned (.tuple #[.string X, .int .i64 c]) ∧ Ext w w') ∧
    (∀ w d, IsQ w B d S → Calls Tryz.prog 36 #[.pointer (some ⟨d, 0, none⟩), .string ⟨#[112]⟩, .int .u64 (v : Int), .string s] w fun e w' => e = .returned (.tuple #[.string X, .int .i64 c]) ∧ Ext w w') := by
  by_cases h2 : stN S = 2
  · cases S with
    | none => cases h2
    | closed n E L => cases h2
    | opened n E root K =>
      obtain ⟨_, _, _, _, hG⟩ := hS
      obtain ⟨V, oe, _, _, h1, h2', _, _⟩ := opens_both w0 hL K ⟨#[112]⟩ v hv s (by decide)
      exact ⟨V, oe, fun w b x h => get_open w B b n E root K h _ _ s V oe (fun r k hk => h1 w r k x hk), fun w d h => rget_open w B d n E root K h _ _ s V oe (fun r p q hr => h2' w B r p q hr hG)⟩
  · exact ⟨⟨#[]⟩, mayE S, fun w b x h => (get_shut w B b S h h2 _ _ s).mono fun _ _ ⟨a, x⟩ => ⟨a, x ▸ Ext.refl w⟩, fun w d h => (rget_shut w B d S h h2 _ _ s).mono fun _ _ ⟨a, x⟩ => ⟨a, x ▸ Ext.refl w⟩⟩
theorem ring_retire (B : Nat) (K : List (Nat × ByteArray)) (hG : GoodK K) (e : Nat) (he : e < 4294967296) :
    ∃ (v : Int) (K' : List (Nat × ByteArray)), GoodK K' ∧ (v ≠ 0 → K' = K) ∧
      (∀ u r b, IsK u r b K → Calls Tryz.prog 58 #[.pointer (some ⟨r, 0, none⟩), .int .u32 (e : Int)] u fun x w' => x = .returned (.int .i64 v) ∧ IsK w' r b K' ∧ u.grownBy w' (some b)) ∧
      (∀ u d p c, B ≤ u.heap.size → IsR u B d p c K → Calls Tryz.prog 69 #[.pointer (some ⟨d, 0, none⟩), .int .u32 (e : Int)] u fun x w' => ∃ p' c', x = .returned (.int .i64 v) ∧ IsR w' B d p' c' K' ∧ TurnD B u w') := by
  by_cases h1 : e = top (eps K)
  · subst h1
    exact ⟨2, K, hG, fun _ => rfl, fun u r b hu => (retire_top u r b K hu).mono fun _ _ q => ⟨q.1, hu.ext q.2, grownK_ext (grown_self u _) q.2⟩, fun u d p c hB hu => (rretire_top u B d p c K hu hG).mono fun _ _ q => ⟨p, c, q.1, hu.ext q.2, q.2.turnD hB⟩⟩
  · by_cases h2 : e ∈ eps K
    · exact ⟨0, outK K e, hG.out h1, fun q => absurd rfl q, fun u r b hu => retire_yes u r b K hu e h1 h2, fun u d p c hB hu => rretire_yes u B d p c K hB hu hG e h1 h2⟩
    · exact ⟨3, K, hG, fun _ => rfl, fun u r b hu => (retire_none u r b K hu e he h2).mono fun _ _ q => ⟨q.1, hu.ext q.2, grownK_ext (grown_self u _) q.2⟩, fun u d p c hB hu => (rretire_none u B d p c K hu hG e h2).mono fun _ _ q => ⟨p, c, q.1, hu.ext q.2, q.2.turnD hB⟩⟩
theorem ring_rotate (B : Nat) (K : List (Nat × ByteArray)) (hG : GoodK K) (s : ByteArray) :
    ∃ (n v : Int) (K' : List (Nat × ByteArray)), GoodK K' ∧ (v ≠ 0 → K' = K) ∧
      (∀ u r b, IsK u r b K → Calls Tryz.prog 45 #[.pointer (some ⟨r, 0, none⟩), .string s] u fun x w' => x = .returned (.tuple #[.int .u32 n, .int .i64 v]) ∧ IsK w' r b K' ∧ u.grownBy w' (some b)) ∧
      (∀ u d p c, B ≤ u.heap.size → IsR u B d p c K → Calls Tryz.prog 67 #[.pointer (some ⟨d, 0, none⟩), .string s] u fun x w' => ∃ p' c', x = .returned (.tuple #[.int .u32 n, .int .i64 v]) ∧ IsR w' B d p' c' K' ∧ TurnD B u w') := by
  by_cases hs : s.size = 32
  · by_cases hf : 64 ≤ K.length ∨ top (eps K) = 4294967295
    · exact ⟨0, 4, K, hG, fun _ => rfl, fun u r b hu => (rotate_full u r b K hu s hs hf).mono fun _ _ q => ⟨q.1, hu.ext q.2, grownK_ext (grown_self u _) q.2⟩, fun u d p c hB hu => (rrotate_full u B d p c K hu hG s hs hf).mono fun _ _ q => ⟨p, c, q.1, hu.ext q.2, q.2.turnD hB⟩⟩
    · have ht := hG.top_lt
      exact ⟨_, 0, _, hG.snoc (by omega) (by omega) hs, fun q => absurd rfl q, fun u r b hu => rotate_yes u r b K hu s hs (by omega) (by omega), fun u d p c hB hu => rrotate_yes u B d p c K hB hu hG s hs (by omega) (by omega)⟩
  · exact ⟨0, 2, K, hG, fun _ => rfl, fun u r b hu => (rotate_arg u r b K hu s hs).mono fun _ _ q => ⟨q.1, hu.ext q.2, grownK_ext (grown_self u _) q.2⟩, fun u d p c hB hu => (rrotate_arg u d s hs).mono fun _ _ q => ⟨p, c, q.1, hu.ext q.2, q.2.turnD hB⟩⟩
theorem both_rotateB (w0 : World) (hL : Laid w0) (B : Nat) (hB2 : 2 ≤ B) (S : BS) (hS : OkS S) (key nonce : ByteArray) : ∃ (N c : Int) (S' : BS), OkS S' ∧
    (∀ w b, Ext w0 w → IsP w B b S → Calls Tryz.prog 16 #[.pointer (some ⟨b, 0, none⟩), .string key, .string nonce] w fun e w' => e = .returned (.tuple #[.int .u32 N, .int .i64 c]) ∧ IsP w' B b S' ∧ TurnP B w w') ∧
    (∀ w d, IsQ w B d S → Calls Tryz.prog 33 #[.pointer (some ⟨d, 0, none⟩), .string key, .string nonce] w fun e w' => e = .returned (.tuple #[.int .u32 N, .int .i64 c]) ∧ IsQ w' B d S' ∧ TurnQ B w w') := by
  by_cases h2 : stN S = 2
  · cases S with
    | none => cases h2
    | closed n E L => cases h2
    | opened n E root K =>
      by_cases hz : nonce.size = 12
      · obtain ⟨N, c, K', hG', hc0, h3, h4⟩ := ring_rotate B K hS.2.2.2.2 key
        refine ⟨N, c, newS n E root nonce K' c, ?_, fun w b x h => brotate_is w B b n E root K nonce hB2 (hL.ext x) h hz key K' N c h3, fun w d h => ?_⟩
        · unfold newS
          split
          · refine ⟨hS.1, hS.2.1, ?_, hS.2.2.2.1, hG'⟩
            rw [envOf_size hG' root n nonce hz]
            have := hG'.few
            omega
          · exact ⟨hS.1, hS.2.1, hS.2.2.1, hS.2.2.2.1, hG'⟩
        · by_cases hc : c = 0
          · subst hc
            exact rrotateB_ok w B d n E root K nonce h hS.2.2.2.1 hz key K' hG' N h4
          · have := rrotateB_err w B d n E root K nonce h hz key K' c hc N h4
            unfold newS
            rw [if_neg hc]
            exact this
      · exact ⟨0, 2, _, hS, fun w b x h => (brotate_arg w B b n E root K nonce h hz key).mono fun _ _ ⟨q, x⟩ => ⟨q, h.still x⟩, fun w d h => (rrotateB_arg w B d n E root K nonce h hz key).mono fun _ _ ⟨q, x⟩ => ⟨q, h.still (x ▸ Ext.refl w)⟩⟩
  · exact ⟨0, mayE S, S, hS, fun w b x h => (brotate_shut w B b nonce S h h2 key).mono fun _ _ ⟨q, x⟩ => ⟨q, h.still x⟩, fun w d h => (rrotateB_shut w B d nonce S h h2 key).mono fun _ _ ⟨q, x⟩ => ⟨q, h.still (x ▸ Ext.refl w)⟩⟩
theorem both_retireB (w0 : World) (hL : Laid w0) (B : Nat) (hB2 : 2 ≤ B) (S : BS) (hS : OkS S) (ep : Nat) (hep : ep < 4294967296) (nonce : ByteArray) : ∃ (c : Int) (S' : BS), OkS S' ∧
    (∀ w b, Ext w0 w → IsP w B b S → Calls Tryz.prog 25 #[.pointer (some ⟨b, 0, none⟩), .int .u32 (ep : Int), .string nonce] w fun e w' => e = .returned (.int .i64 c) ∧ IsP w' B b S' ∧ TurnP B w w') ∧
    (∀ w d, IsQ w B d S → Calls Tryz.prog 34 #[.pointer (some ⟨d, 0, none⟩), .int .u32 (ep : Int), .string nonce] w fun e w' => e = .returned (.int .i64 c) ∧ IsQ w' B d S' ∧ TurnQ B w w') := by
  by_cases h2 : stN S = 2
  · cases S with
    | none => cases h2
    | closed n E L => cases h2
    | opened n E root K =>
      by_cases hz : nonce.size = 12
      · obtain ⟨c, K', hG', hc0, h3, h4⟩ := ring_retire B K hS.2.2.2.2 ep hep
        refine ⟨c, newS n E root nonce K' c, ?_, fun w b x h => bretire_is w B b n E root K nonce hB2 (hL.ext x) h hz (ep : Int) K' c h3, fun w d h => ?_⟩
        · unfold newS
          split
          · refine ⟨hS.1, hS.2.1, ?_, hS.2.2.2.1, hG'⟩
            rw [envOf_size hG' root n nonce hz]
            have := hG'.few
            omega
          · exact ⟨hS.1, hS.2.1, hS.2.2.1, hS.2.2.2.1, hG'⟩
        · by_cases hc : c = 0
          · subst hc
            exact rretireB_ok w B d n E root K nonce h hS.2.2.2.1 hz (ep : Int) K' hG' h4
          · have := rretireB_err w B d n E root K nonce h hz (ep : Int) K' c hc h4
            unfold newS
            rw [if_neg hc]
            exact this
      · exact ⟨2, _, hS, fun w b x h => (bretire_arg w B b n E root K nonce h hz (ep : Int)).mono fun _ _ ⟨q, x⟩ => ⟨q, h.still x⟩, fun w d h => (rretireB_arg w B d n E root K nonce h hz (ep : Int)).mono fun _ _ ⟨q, x⟩ => ⟨q, h.still (x ▸ Ext.refl w)⟩⟩
  · exact ⟨mayE S, S, hS, fun w b x h => (bretire_shut w B b nonce S h h2 (ep : Int)).mono fun _ _ ⟨q, x⟩ => ⟨q, h.still x⟩, fun w d h => (rretireB_shut w B d nonce S h h2 (ep : Int)).mono fun _ _ ⟨q, x⟩ => ⟨q, h.still (x ▸ Ext.refl w)⟩⟩
end Go.Proofs.YtobhbppogeghnaaGreatDoor
end
