/- Contracts: the document's barrier: unsealed by the last share, or not. Both Open, and both Epoch, of any text; what has an error has no text. Both sides' barriers: unsealed by any text, with one answer, and to one state. Both sides' barriers: begun, or not, with one answer, and to one state. -/
import Derived.Test.YtobhbppogeghnaaGreatDoorM39
import Derived.Test.YtobhbppogeghnaaGreatDoorM37
import Derived.Test.YtobhbppogeghnaaGreatDoorM22
import Derived.Test.YtobhbppogeghnaaGreatDoorM40
import Derived.Test.YtobhbppogeghnaaGreatDoorM38
import Derived.Test.YtobhbppogeghnaaGreatDoorM25
section
namespace Go.Proofs.YtobhbppogeghnaaGreatDoor
open Go.RowKit
attribute [local irreducible] rkey expand enc dec ctrB ctrC ctrL xorL xorAll turnL turnT kd t4 t8 env5 chk tagT sealT ringL hdT envOf hdOf

set_option maxRecDepth 100000 in
set_option maxHeartbeats 4000000 in
theorem runseal_no (w : World) (B d n : Nat) (E root T : ByteArray) (L : List (Nat × ByteArray)) (h : IsQ w B d (.closed n E L)) (s : ByteArray) (i : Nat) (t : ByteArray) (ht : t.size = 32) (hroot : root.size = 32) (c : Int)
    (HA : ∀ v, IsGF w d 1 (hdT n E) ⟨#[]⟩ (.pointer none) v n 32 L → Calls Tryz.prog 61 #[.pointer (some ⟨d, 4, none⟩), .string s] w fun e w' => ∃ v', e = .returned (.int .i64 0) ∧ IsGF w' d 1 (hdT n E) ⟨#[]⟩ (.pointer none) v' n 32 (L ++ [(i, t)]) ∧ Below d w w' ∧ KeepQ w w')
    (HS : ∀ u v, IsGF u d 1 (hdT n E) ⟨#[]⟩ (.pointer none) v n 32 (L ++ [(i, t)]) → Calls Tryz.prog 62 #[.pointer (some ⟨d, 4, none⟩)] u fun e w' => e = .returned (.string root) ∧ Ext u w')
    (HO : ∀ u A r q, IsR u A r q 1 [(1, root)] → Calls Tryz.prog 63 #[.pointer (some ⟨r, 0, none⟩), .string ⟨#[98, 97, 114, 114, 105, 101, 114]⟩, .int .u64 (n : Int), .string E] u fun e w' => e = .returned (.tuple #[.string T, .int .i64 c]) ∧ Ext u w')
    (HR : ∀ u, Calls Tryz.prog 65 #[.string T] u fun e w' => e = .returned (.pointer none) ∧ Ext u w') :
    Calls Tryz.prog 30 #[.pointer (some ⟨d, 0, none⟩), .string s] w fun e w' => e = .returned (.tuple #[.bool false, .int .i64 141]) ∧ IsQ w' B d (.closed n E []) ∧ TurnQ B w w' := by
  obtain ⟨v, i0, l⟩ := h
  have n16 := i0.alike.n16
  have h1 := fun u => hdT_index n E (by omega) u
  have h2 := fun u => hdT_from n E u
  obtain ⟨p, cc, rfl, hcl⟩ := i0.buf.cells
  have c0 := i0.blk.cell 0 _ rfl
  have c4 := i0.blk.cell 4 _ rfl
  have HAd := Lib.hid (HA _ i0)
  have HSe := Lib.hid HS
  have HOp := Lib.hid HO
  have HRd := Lib.hid HR
  have HN := Lib.hid (fun u => rnewK_any u root)
  have hwn : IntKind.i64.wrap (n : Int) = (n : Int) := IntWalk.i64_in _ ⟨by omega, by omega⟩
  have hwu : IntKind.u64.wrap (n : Int) = (n : Int) := IntWalk.u64_in _ ⟨by omega, by omega⟩
  have hti : (t.size : Int) = 32 := by omega
  have hne : ((n : Int) != (n : Int)) = false := by simp
  have hne2 : ((t.size : Int) != 32) = false := by simp [hti]
  have hre : root.toList.isEmpty = false := by
    have hl : root.toList.length = root.size := by rw [ByteArray.toList_eq, size_list]
    cases hrl : root.toList with
    | nil => rw [hrl, hroot] at hl; cases hl
    | cons => rfl
  have hLl : (L.length : Int) < ((L ++ [(i, t)]).length : Int) := by simp; omega
  have hL0 : (0 : Int) ≤ (L.length : Int) := by omega
  clear i0 hcl HA HS HO HR hroot
  go_enter Tryz.func30, Tryz.ntmps30
  go_wp2_with (go_at_call 61; refine (HAd.out).mono ?_; rintro e w1 ⟨v1, rfl, i1, b1, k1⟩; have I1 := Lib.hid i1; have T1 := Lib.hid (k1.turnQ b1 l); obtain ⟨p1, cc1, rfl, hcl1⟩ := i1.buf.cells; obtain ⟨q, rfl, hq1, hq2, d0, d1, d2⟩ := hcl1 L.length (i, t) (by simp); have a4 := i1.blk.cell 4 _ rfl; have hlw := Lib.hid (Nat.le_trans l (Nat.le_of_lt i1.blk.lt)); have XX := Lib.hid ((Ext.refl w1).alloc (.cells #[.int .i64 (i : Int), .int .i64 (n : Int), .string t] 100)); have IX := Lib.hid (i1.ext XX.out); have hbx := Blk.new w1 [.int .i64 (i : Int), .int .i64 (n : Int), .string t] 100; have y1 := hbx.cell 1 _ rfl; have y2 := hbx.cell 2 _ rfl; have ya := IX.out.blk.cell 1 _ rfl; clear i1 b1 k1 hcl1 hbx)
  go_quiet (fail)
  go_wp2_with (first
    | (go_at_call 62; refine (HSe.out _ _ (IX.out.ext ((Ext.refl _).drewN _))).mono ?_; rintro e w2 ⟨rfl, x2⟩; have I2 := Lib.hid (I1.out.ext ((XX.out.drewN _).trans x2)); have T2 := Lib.hid (T1.out.trans (((XX.out.drewN _).trans x2).turnQ hlw.out)); have z4 := I2.out.blk.cell 4 _ rfl; have f4 := I2.out.blk.frozen 4; have I3 := Lib.hid I2.out.zero; have T3 := Lib.hid (T2.out.trans (TurnQ.set (i := 4) I2.out.blk l (.slice none 0 0))); clear x2))
  have x0 : Ext (w2.setCell ⟨d, 4, none⟩ (.slice none 0 0)) (w2.setCell ⟨d, 4, none⟩ (.slice none 0 0)).drew := (Ext.refl _).drew
  have e1 := I3.out.blk.cell 1 _ rfl
  go_region_law (first
    | (go_simp; go_at_call 64; refine (HN.out _).mono ?_; rintro e w3 ⟨r3, q3, rfl, i3, x3⟩; have y3 := Ext.trans x0 x3; have R3 := Lib.hid i3; have i4 := I3.out.ext y3; have g1 := i4.blk.cell 1 _ rfl; have I4 := Lib.hid i4; have T4 := Lib.hid (T3.out.trans (y3.turnQ (Nat.le_trans l (Nat.le_of_lt I3.out.blk.lt)))); clear i3 i4 x3 y3)
    | (go_simp; go_at_call 63; refine (HOp.out _ _ _ _ R3.out).mono ?_; rintro e w4 ⟨rfl, x4⟩; have I5 := Lib.hid (I4.out.ext x4); have T5 := Lib.hid (T4.out.trans (x4.turnQ (Nat.le_trans l (Nat.le_of_lt I4.out.blk.lt)))); clear x4))
  all_goals (go_wp2_with (go_at_call 65; refine (HRd.out _).mono ?_; rintro e w5 ⟨rfl, x5⟩))
  all_goals
    go_ret2
    exact ⟨rfl, ⟨_, I5.out.ext x5, l⟩, T5.out.trans (x5.turnQ (Nat.le_trans l (Nat.le_of_lt I5.out.blk.lt)))⟩
end Go.Proofs.YtobhbppogeghnaaGreatDoor
end

section
namespace Go.Proofs.YtobhbppogeghnaaGreatDoor
open Go.RowKit
attribute [local irreducible] rkey expand enc dec ctrB ctrC ctrL xorL turnL turnT kd t4 t8 env5 chk tagT sealT outK

theorem opens_bothV (w : World) (hL : Laid w) (L : List (Nat × ByteArray)) (path : ByteArray) (v : Nat) (hv : v < 2 ^ 64) (S : ByteArray) (hp : path.size ≤ 1500) :
    ∃ (V : ByteArray) (oe : Int) (en : Int) (ee : Int), (oe ≠ 0 → V = ⟨#[]⟩) ∧ V.size ≤ 1048576 ∧
      (∀ u r k, Ext w u → IsK u r k L → Calls Tryz.prog 49 #[.pointer (some ⟨r, 0, none⟩), .string path, .int .u64 (v : Int), .string S] u fun e w' => e = .returned (.tuple #[.string V, .int .i64 oe]) ∧ Ext u w') ∧
      (∀ u B d p c, IsR u B d p c L → GoodK L → Calls Tryz.prog 63 #[.pointer (some ⟨d, 0, none⟩), .string path, .int .u64 (v : Int), .string S] u fun e w' => e = .returned (.tuple #[.string V, .int .i64 oe]) ∧ Ext u w') ∧
      (∀ u, Calls Tryz.prog 85 #[.string S] u fun e w' => e = .returned (.tuple #[.int .u32 en, .int .i64 ee]) ∧ Ext u w') ∧
      (∀ u, Calls Tryz.prog 60 #[.string S] u fun e w' => e = .returned (.tuple #[.int .u32 en, .int .i64 ee]) ∧ Ext u w') := by
  have bad : (∀ u, Calls Tryz.prog 85 #[.string S] u fun e w' => e = .returned (.tuple #[.int .u32 0, .int .i64 7]) ∧ Ext u w') → (∀ u, Calls Tryz.prog 60 #[.string S] u fun e w' => e = .returned (.tuple #[.int .u32 0, .int .i64 7]) ∧ u = w') → _ := fun h1 h2 =>
    (⟨⟨#[]⟩, 7, 0, 7, fun _ => rfl, by decide, fun u r k _ hu => open_form u hu path v S h1, fun u B d p c _ _ => (ropen_form u d path v S h2).mono fun _ _ q => ⟨q.1, q.2 ▸ Ext.refl _⟩, h1, fun u => (h2 u).mono fun _ _ q => ⟨q.1, q.2 ▸ Ext.refl _⟩⟩ : ∃ (V : ByteArray) (oe : Int) (en : Int) (ee : Int), (oe ≠ 0 → V = ⟨#[]⟩) ∧ V.size ≤ 1048576 ∧
      (∀ u r k, Ext w u → IsK u r k L → Calls Tryz.prog 49 #[.pointer (some ⟨r, 0, none⟩), .string path, .int .u64 (v : Int), .string S] u fun e w' => e = .returned (.tuple #[.string V, .int .i64 oe]) ∧ Ext u w') ∧
      (∀ u B d p c, IsR u B d p c L → GoodK L → Calls Tryz.prog 63 #[.pointer (some ⟨d, 0, none⟩), .string path, .int .u64 (v : Int), .string S] u fun e w' => e = .returned (.tuple #[.string V, .int .i64 oe]) ∧ Ext u w') ∧
      (∀ u, Calls Tryz.prog 85 #[.string S] u fun e w' => e = .returned (.tuple #[.int .u32 en, .int .i64 ee]) ∧ Ext u w') ∧
      (∀ u, Calls Tryz.prog 60 #[.string S] u fun e w' => e = .returned (.tuple #[.int .u32 en, .int .i64 ee]) ∧ Ext u w'))
  by_cases hs : S.size < 49 ∨ 1048625 < S.size
  · exact bad (fun u => (epoch_len S hs u).mono fun _ _ q => ⟨q.1, q.2 ▸ Ext.refl _⟩) (fun u => repoch_len S hs u)
  · obtain ⟨x, e, C, D, T, he, hC, hT, hD, rfl⟩ := shape_ex S (by omega)
    have hD2 : D.size ≤ 1048576 := by omega
    by_cases hx : x = 1
    · subst hx
      have hb : b1 1 = t1 := rfl
      rw [hb]
      by_cases hn : e ∈ eps L
      · obtain ⟨⟨e', s⟩, hm, rfl⟩ := List.mem_map.1 hn
        have h1 := fun u r k hx (hu : IsK u r k L) => open_key (T := T) u (hL.ext hx) hu s hm path v hC hT hD2 (by omega)
        have h2 := fun u B d p c (hu : IsR u B d p c L) hG => ropen_key (T := T) u hu hG s hm path v hv hC hT hD2 (by omega)
        have h3 := fun u => epoch_yes (T := T) he hC hT hD2 u
        have h4 : ∀ u, Calls Tryz.prog 60 #[.string (env5 t1 (t4 e') C D T)] u fun e w' => e = .returned (.tuple #[.int .u32 (e' : Int), .int .i64 0]) ∧ Ext u w' := fun u => (repoch_yes (T := T) he hC hT hD2 u).mono fun _ _ q => ⟨q.1, q.2 ▸ Ext.refl _⟩
        revert h1 h2
        generalize chk T.data.toList (tagT (kd s tagB 32) path v t1 (t4 e') C D).data.toList = ok
        intro h1 h2
        cases ok
        · exact ⟨⟨#[]⟩, 141, _, 0, fun _ => rfl, by decide, h1, h2, h3, h4⟩
        · exact ⟨turnT (kd s cipB 16) C 0 D, 0, _, 0, fun q => absurd rfl q, by rw [turnT_size _ _ _ _ (kd_size _ _ _ (by omega))]; exact hD2, h1, h2, h3, h4⟩
      · exact ⟨⟨#[]⟩, 140, (e : Int), 0, fun _ => rfl, by decide, fun u r k _ hu => open_epoch u hu path v he hC hT hD2 (by omega) hn, fun u B d p c hu hG => ropen_epoch u hu hG.few path v he hC hT hD2 (by omega) hn, fun u => epoch_yes he hC hT hD2 u, fun u => (repoch_yes he hC hT hD2 u).mono fun _ _ q => ⟨q.1, q.2 ▸ Ext.refl _⟩⟩
    · exact bad (fun u => epoch_first hC hT hD2 hx u) (fun u => repoch_first hC hT hD2 hx u)
end Go.Proofs.YtobhbppogeghnaaGreatDoor
end

section
namespace Go.Proofs.YtobhbppogeghnaaGreatDoor
open Go.RowKit
attribute [local irreducible] rkey expand enc dec ctrB ctrC ctrL xorL turnL turnT kd t4 t8 env5 chk tagT sealT ringL hdT envOf hdOf

/-- The ring that both read, and where the program's map lies. -/
theorem read_bothB (s : ByteArray) (hz : s.size ≤ 140737488351232) :
    ((∀ u, Calls Tryz.prog 125 #[.string s] u fun e w' => e = .returned (.tuple #[.pointer none, .int .i64 7]) ∧ Ext u w') ∧
      (∀ u, Calls Tryz.prog 65 #[.string s] u fun e w' => e = .returned (.pointer none) ∧ Ext u w')) ∨
    ∃ L : List (Nat × ByteArray), GoodK L ∧
      (∀ u, Calls Tryz.prog 125 #[.string s] u fun e w' => (∃ r b, e = .returned (.tuple #[.pointer (some ⟨r, 0, none⟩), .int .i64 0]) ∧ IsK w' r b L ∧ u.heap.size ≤ b) ∧ Ext u w') ∧
      (∀ u, Calls Tryz.prog 65 #[.string s] u fun e w' => (∃ d p c, e = .returned (.pointer (some ⟨d, 0, none⟩)) ∧ IsR w' u.heap.size d p c L) ∧ Ext u w') := by
  by_cases hc : Counted s
  · obtain ⟨L, hL, rfl⟩ := counted_rows hc
    by_cases hr : Rising L
    · refine .inr ⟨L, hL.good hr, fun u => (read_rows u L hL).mono ?_, fun u => (rread_rows u L hL).mono ?_⟩
      · rintro e w' ⟨⟨_, r, b, q1, q2, _, q4⟩ | ⟨q, _⟩, x⟩
        · exact ⟨⟨r, b, q1, q2, q4⟩, x⟩
        · exact absurd hr q
      · rintro e w' ⟨⟨_, d, p, c, q1, q2⟩ | ⟨q, _⟩, x⟩
        · exact ⟨⟨d, p, c, q1, q2⟩, x⟩
        · exact absurd hr q
    · refine .inl ⟨fun u => (read_rows u L hL).mono ?_, fun u => (rread_rows u L hL).mono ?_⟩
      · rintro e w' ⟨⟨q, _⟩ | ⟨_, q⟩, x⟩
        · exact absurd q hr
        · exact ⟨q, x⟩
      · rintro e w' ⟨⟨q, _⟩ | ⟨_, q⟩, x⟩
        · exact absurd q hr
        · exact ⟨q, x⟩
  · exact .inl ⟨fun u => (read_no s hc hz u).mono fun _ _ q => ⟨q.1, q.2 ▸ Ext.refl _⟩, fun u => (rread_no s hc hz u).mono fun _ _ q => ⟨q.1, q.2 ▸ Ext.refl _⟩⟩
/-- The secret of all shares, by both. -/
theorem secret_bothF (n : Nat) (L : List (Nat × ByteArray)) (hA : Alike n 32 L) (hln : L.length = n) : ∃ root : ByteArray, root.size = 32 ∧
    (∀ (u : World) (g b : Nat), IsG u g b n 32 L → Calls Tryz.prog 51 #[.pointer (some ⟨g, 0, none⟩)] u fun e u' => e = .returned (.tuple #[.string root, .bool true]) ∧ Ext u u') ∧
    (∀ (u : World) (d : Nat) (st : Int) (hh rr : ByteArray) (rg v : Value), IsGF u d st hh rr rg v n 32 L → Calls Tryz.prog 62 #[.pointer (some ⟨d, 4, none⟩)] u fun e u' => e = .returned (.string root) ∧ Ext u u') := by
  obtain ⟨S, h1, h2, h3⟩ := whole n L hA.once (fun x hx => ⟨(hA.each x hx).1, (hA.each x hx).2.1⟩) hln
  have hn1 := hA.n1
  cases S with
  | nil => simp at h1; omega
  | cons s0 St =>
    cases L with
    | nil => simp at hln; omega
    | cons y L =>
      have hs0 : s0.size = 32 := (hA.each _ (h2 0 s0 rfl)).2.2
      have hy : y.2.size = 32 := (hA.each y (by simp)).2.2
      have e : xorAll s0.data.toList St = xorAll y.2.data.toList (txtsOf L) := xorAll_rows h3 hs0 hy
      have hlen : (xorAll s0.data.toList St).length = 32 := by
        refine xorAll_length St _ (by rw [size_list, hs0]) (fun b hb => ?_)
        obtain ⟨j, hj⟩ := List.getElem?_of_mem hb
        exact (hA.each _ (h2 (j + 1) b (by simpa using hj))).2.2
      refine ⟨⟨(xorAll s0.data.toList St).toArray⟩, by rw [txt_size, hlen], fun u g b h => secret_yes u g b n 32 _ h hln s0 St (by simpa using h1) h2, fun u d st hh rr rg v h => ?_⟩
      rw [e]
      exact fsecret_yes u d st hh rr rg v n 32 y L h (by simpa using hln)
attribute [local irreducible] xorAll
theorem share_sizes {s : ByteArray} {i n : Nat} (h : ShareOf s i n) : 3 ≤ s.size ∧ s.size ≤ 66 ∧ 1 ≤ n ∧ n ≤ 16 ∧ 1 ≤ i ∧ i ≤ n := by
  obtain ⟨a, b, c, d, e, f, _⟩ := h
  exact ⟨a, b, c, d, e, f⟩
/-- The last share came: opened by both, or by none. -/
theorem both_last (w0 : World) (hL : Laid w0) (n : Nat) (E : ByteArray) (L : List (Nat × ByteArray)) (hn1 : 1 ≤ n) (hn16 : n ≤ 16) (hE : E.size ≤ 140737488351232) (s : ByteArray) (i : Nat) (hs : ShareOf s i n) (hm : s.size - 2 = 32) (hnin : ∀ x ∈ L, x.1 ≠ i) (hl : L.length + 1 = n) (hA : Alike n 32 L) :
    ∃ (op : Bool) (c : Int) (S' : BS), OkS S' ∧
    (∀ w b, Ext w0 w → IsP w w0.heap.size b (.closed n E L) → Calls Tryz.prog 21 #[.pointer (some ⟨b, 0, none⟩), .string s] w fun e w' => e = .returned (.tuple #[.bool op, .int .i64 c]) ∧ IsP w' w0.heap.size b S' ∧ TurnP w0.heap.size w w') ∧
    (∀ w d, IsQ w w0.heap.size d (.closed n E L) → Calls Tryz.prog 30 #[.pointer (some ⟨d, 0, none⟩), .string s] w fun e w' => e = .returned (.tuple #[.bool op, .int .i64 c]) ∧ IsQ w' w0.heap.size d S' ∧ TurnQ w0.heap.size w w') := by
  have hz := share_sizes hs
  have ht : (s.extract 2 s.size).size = 32 := by simp; omega
  have hA' : Alike n 32 (L ++ [(i, s.extract 2 s.size)]) := hA.snoc hz.2.2.2.2.1 hz.2.2.2.2.2 ht hnin
  obtain ⟨root, hr, hSP, hSQ⟩ := secret_bothF n _ hA' (by simp; omega)
  obtain ⟨V, oe, _, _, hV, hVs, hOP, hOQ, _, _⟩ := opens_bothV w0 hL [(1, root)] pathB n (by omega) E (by decide)
  have hG1 := GoodK.one root hr
  have HAp : ∀ w b g bm, IsBar w w0.heap.size b g bm (hdT n E) none none n 32 L → Calls Tryz.prog 50 #[.pointer (some ⟨b, 0, none⟩), .string s] w fun e w' => e = .returned (.int .i64 0) ∧ IsBar w' w0.heap.size b g bm (hdT n E) none none n 32 (L ++ [(i, s.extract 2 s.size)]) ∧ TurnP w0.heap.size w w' := fun w b g bm h =>
    badd_is w w0.heap.size b g bm n E L _ h s i hs hm 0 (fun u x => add_ok u g bm n 32 L s i (h.gat.ext x) hs hm hnin)
  have HAq : ∀ w d v, IsGF w d 1 (hdT n E) ⟨#[]⟩ (.pointer none) v n 32 L → Calls Tryz.prog 61 #[.pointer (some ⟨d, 4, none⟩), .string s] w fun e w' => ∃ v', e = .returned (.int .i64 0) ∧ IsGF w' d 1 (hdT n E) ⟨#[]⟩ (.pointer none) v' n 32 (L ++ [(i, s.extract 2 s.size)]) ∧ Below d w w' ∧ KeepQ w w' := fun w d v h =>
    fadd_ok w d 1 _ _ _ v n 32 L s i h hs hm (by omega) hnin
  have hno : (∀ u r k, Ext w0 u → IsK u r k [(1, root)] → Calls Tryz.prog 92 #[.string (hdT n E), .pointer (some ⟨r, 0, none⟩)] u fun e w' => (∃ a, e = .returned (.tuple #[.pointer a, .bool false])) ∧ Ext u w') →
      (∃ T c, (∀ u A r q, IsR u A r q 1 [(1, root)] → Calls Tryz.prog 63 #[.pointer (some ⟨r, 0, none⟩), .string ⟨#[98, 97, 114, 114, 105, 101, 114]⟩, .int .u64 (n : Int), .string E] u fun e w' => e = .returned (.tuple #[.string T, .int .i64 c]) ∧ Ext u w') ∧ (∀ u, Calls Tryz.prog 65 #[.string T] u fun e w' => e = .returned (.pointer none) ∧ Ext u w')) →
      (∃ (op : Bool) (c : Int) (S' : BS), OkS S' ∧
        (∀ w b, Ext w0 w → IsP w w0.heap.size b (.closed n E L) → Calls Tryz.prog 21 #[.pointer (some ⟨b, 0, none⟩), .string s] w fun e w' => e = .returned (.tuple #[.bool op, .int .i64 c]) ∧ IsP w' w0.heap.size b S' ∧ TurnP w0.heap.size w w') ∧
        (∀ w d, IsQ w w0.heap.size d (.closed n E L) → Calls Tryz.prog 30 #[.pointer (some ⟨d, 0, none⟩), .string s] w fun e w' => e = .returned (.tuple #[.bool op, .int .i64 c]) ∧ IsQ w' w0.heap.size d S' ∧ TurnQ w0.heap.size w w')) := by
    rintro h1 ⟨T, c, h2, h3⟩
    refine ⟨false, 141, .closed n E [], ⟨hn1, hn16, hE, by simp; omega⟩, fun w b x h => ?_, fun w d h => ?_⟩
    · obtain ⟨g, bm, i0⟩ := h
      exact unseal_all w w0.heap.size b g bm n E root L _ i0 s false 141 _ (HAp w b g bm i0) (fun u hu => hSP u g bm hu) (fun u t hu =>
        (openBy_no u w0.heap.size b g bm n E root hu hr (fun u' r k x' hk => h1 u' r k ((Ext.turnedB x t).trans x') hk)).mono fun _ _ ⟨q, x'⟩ => ⟨q, IsP.still (S := .closed n E []) ⟨g, bm, hu⟩ x'⟩)
    · exact runseal_no w w0.heap.size d n E root T L h s i _ ht hr c (HAq w d) (fun u v hu => hSQ u d 1 _ _ _ v hu) h2 h3
  by_cases hoe : oe = 0
  · subst hoe
    rcases read_bothB V (by omega) with ⟨r1, r2⟩ | ⟨K, hG, r1, r2⟩
    · refine hno (fun u r k x hk => ?_) ⟨V, 0, fun u A r q hu => hOQ u A r q 1 hu hG1, r2⟩
      refine (ringIn_is u r n E V (by omega) (fun _ _ _ => True) 7 (fun u' x' => hOP u' r k (x.trans x') (hk.ext x')) (fun u' => (r1 u').mono fun _ _ ⟨q, y⟩ => ⟨⟨_, q, trivial⟩, y⟩)).mono ?_
      rintro e w' ⟨⟨a, u', q, _, _⟩, y⟩
      exact ⟨⟨a, q⟩, y⟩
    · refine ⟨true, 0, .opened n E root K, ⟨hn1, hn16, hE, hr, hG⟩, fun w b x h => ?_, fun w d h => ?_⟩
      · obtain ⟨g, bm, i0⟩ := h
        refine unseal_all w w0.heap.size b g bm n E root L _ i0 s true 0 _ (HAp w b g bm i0) (fun u hu => hSP u g bm hu) (fun u t hu =>
          openBy_yes u w0.heap.size b g bm n E root K hu hr (fun u' r k x' hk => ?_))
        refine (ringIn_is u' r n E V (by omega) (fun a v w' => ∃ r5 k', a = some ⟨r5, 0, none⟩ ∧ IsK w' r5 k' K ∧ v.heap.size ≤ k') 0 (fun u'' x'' => hOP u'' r k (((Ext.turnedB x t).trans x').trans x'') (hk.ext x'')) (fun u'' => (r1 u'').mono ?_)).mono ?_
        · rintro e w' ⟨⟨r5, k', q, i5, l5⟩, y⟩
          exact ⟨⟨_, q, r5, k', rfl, i5, l5⟩, y⟩
        · rintro e w' ⟨⟨a, v, q, ⟨r5, k', rfl, i5, l5⟩, y⟩, z⟩
          exact ⟨⟨r5, k', q, i5, Nat.le_trans y.size l5⟩, z⟩
      · exact runseal_yes w w0.heap.size d n E root V L h s i _ ht hr K (HAq w d) (fun u v hu => hSQ u d 1 _ _ _ v hu) (fun u A r q hu => hOQ u A r q 1 hu hG1) r2
  · obtain rfl := hV hoe
    rcases read_bothB ⟨#[]⟩ (by decide) with ⟨r1, r2⟩ | ⟨K, hG, r1, r2⟩
    · exact hno (fun u r k x hk => (ringIn_no u r n E ⟨#[]⟩ (by omega) oe hoe (fun u' x' => hOP u' r k (x.trans x') (hk.ext x'))).mono fun _ _ ⟨q, y⟩ => ⟨⟨_, q⟩, y⟩) ⟨⟨#[]⟩, oe, fun u A r q hu => hOQ u A r q 1 hu hG1, r2⟩
    · exact hno (fun u r k x hk => (ringIn_no u r n E ⟨#[]⟩ (by omega) oe hoe (fun u' x' => hOP u' r k (x.trans x') (hk.ext x'))).mono fun _ _ ⟨q, y⟩ => ⟨⟨_, q⟩, y⟩) ⟨⟨#[]⟩, oe, fun u A r q hu => hOQ u A r q 1 hu hG1, fun u => (rread_no ⟨#[]⟩ (by rintro ⟨b, l, hb, _⟩; cases hb) (by decide) u).mono fun _ _ q => ⟨q.1, q.2 ▸ Ext.refl _⟩⟩
/-- Any text. -/
theorem both_unseal (w0 : World) (hL : Laid w0) (S : BS) (hS : OkS S) (hAl : ∀ n E L, S = .closed n E L → Alike n 32 L) (s : ByteArray) :
    ∃ (op : Bool) (c : Int) (S' : BS), OkS S' ∧
    (∀ w b, Ext w0 w → IsP w w0.heap.size b S → Calls Tryz.prog 21 #[.pointer (some ⟨b, 0, none⟩), .string s] w fun e w' => e = .returned (.tuple #[.bool op, .int .i64 c]) ∧ IsP w' w0.heap.size b S' ∧ TurnP w0.heap.size w w') ∧
    (∀ w d, IsQ w w0.heap.size d S → Calls Tryz.prog 30 #[.pointer (some ⟨d, 0, none⟩), .string s] w fun e w' => e = .returned (.tuple #[.bool op, .int .i64 c]) ∧ IsQ w' w0.heap.size d S' ∧ TurnQ w0.heap.size w w') := by
  by_cases h1 : stN S = 1
  · cases S with
    | none => cases h1
    | opened n E root K => cases h1
    | closed n E L =>
      obtain ⟨hn1, hn16, hE, hlt⟩ := hS
      have hA := hAl n E L rfl
      rcases share_or s with ⟨i, n', hs⟩ | hs
      · have hz := share_sizes hs
        by_cases hg : n' = n ∧ s.size - 2 = 32
        · obtain ⟨rfl, hm⟩ := hg
          by_cases hin : ∃ t0, (i, t0) ∈ L
          · obtain ⟨t0, hin⟩ := hin
            refine ⟨false, 8, .closed n' E L, ⟨hn1, hn16, hE, hlt⟩, fun w b x h => ?_, fun w d h => ?_⟩
            · obtain ⟨g, bm, i0⟩ := h
              exact unseal_err w w0.heap.size b n' E L ⟨g, bm, i0⟩ s 8 (by decide) ((badd_is w w0.heap.size b g bm n' E L L i0 s i hs hm 8 (fun u x => (add_have u g bm n' 32 L s i (i0.gat.ext x) hs hm t0 hin).mono fun _ _ ⟨q, y⟩ => ⟨q, (i0.gat.ext x).ext y, ⟨y.os, y.tape, y.output, y.size, fun i hi _ => y.block i hi⟩⟩)).mono fun _ _ ⟨q, y, z⟩ => ⟨q, ⟨g, bm, y⟩, z⟩)
            · obtain ⟨v, i0, l⟩ := h
              exact (runseal_err w w0.heap.size d n' E L ⟨v, i0, l⟩ s 8 (by decide) (fadd_have w d 1 _ _ _ v n' 32 L s i i0 hs hm (by omega) t0 hin)).mono fun _ _ ⟨q, x⟩ => ⟨q, IsQ.still (S := .closed n' E L) ⟨v, i0, l⟩ x⟩
          · have hnin : ∀ x ∈ L, x.1 ≠ i := fun x hx e => hin ⟨x.2, by rw [← e]; exact hx⟩
            by_cases hl : L.length + 1 < n'
            · have ht : (s.extract 2 s.size).size = 32 := by simp; omega
              refine ⟨false, 0, .closed n' E (L ++ [(i, s.extract 2 s.size)]), ⟨hn1, hn16, hE, by simpa using hl⟩, fun w b x h => ?_, fun w d h => ?_⟩
              · obtain ⟨g, bm, i0⟩ := h
                exact unseal_more w w0.heap.size b g bm n' E L _ i0 s (by simpa using hl) (badd_is w w0.heap.size b g bm n' E L _ i0 s i hs hm 0 (fun u x => add_ok u g bm n' 32 L s i (i0.gat.ext x) hs hm hnin))
              · exact runseal_more w w0.heap.size d n' E L h s i _ ht hl (fun v h => fadd_ok w d 1 _ _ _ v n' 32 L s i h hs hm (by omega) hnin)
            · exact both_last w0 hL n' E L hn1 hn16 hE s i hs hm hnin (by omega) hA
        · refine ⟨false, 60, .closed n E L, ⟨hn1, hn16, hE, hlt⟩, fun w b x h => ?_, fun w d h => ?_⟩
          · obtain ⟨g, bm, i0⟩ := h
            exact unseal_err w w0.heap.size b n E L ⟨g, bm, i0⟩ s 60 (by decide) ((badd_other w w0.heap.size b g bm n E L i0 s i n' hs hg).mono fun _ _ ⟨q, y⟩ => ⟨q, IsP.still (S := .closed n E L) ⟨g, bm, i0⟩ y⟩)
          · by_cases hLe : L = []
            · subst hLe
              have ht : (s.extract 2 s.size).size = s.size - 2 := by simp
              exact runseal_other w w0.heap.size d n E h s i n' (s.size - 2) (s.extract 2 s.size) (by rw [ht]; by_cases q : n' = n; exact .inr (fun q2 => hg ⟨q, q2⟩); exact .inl q) (fun v h => by
                have := fadd_ok w d 1 _ _ _ v n' (s.size - 2) [] s i (h.turn hz.2.2.1 hz.2.2.2.1 (by omega) (by omega)) hs rfl (by simp) (by simp)
                exact this)
            · obtain ⟨v, i0, l⟩ := h
              exact (runseal_err w w0.heap.size d n E L ⟨v, i0, l⟩ s 60 (by decide) (fadd_other w d 1 _ _ _ v n 32 L s i n' i0 hs hLe hg)).mono fun _ _ ⟨q, x⟩ => ⟨q, IsQ.still (S := .closed n E L) ⟨v, i0, l⟩ x⟩
      · refine ⟨false, 7, .closed n E L, ⟨hn1, hn16, hE, hlt⟩, fun w b x h => ?_, fun w d h => ?_⟩
        · exact unseal_err w w0.heap.size b n E L h s 7 (by decide) ((badd_form w b s hs).mono fun _ _ ⟨q, y⟩ => ⟨q, h.still y⟩)
        · exact (runseal_err w w0.heap.size d n E L h s 7 (by decide) (fadd_form w d s hs)).mono fun _ _ ⟨q, x⟩ => ⟨q, h.still x⟩
  · exact ⟨false, 151, S, hS, fun w b x h => (unseal_state w w0.heap.size b S h h1 s).mono fun _ _ ⟨q, x⟩ => ⟨q, h.still (x ▸ Ext.refl w)⟩, fun w d h => (runseal_state w w0.heap.size d S h h1 s).mono fun _ _ ⟨q, x⟩ => ⟨q, h.still (x ▸ Ext.refl w)⟩⟩
end Go.Proofs.YtobhbppogeghnaaGreatDoor
end

section
namespace Go.Proofs.YtobhbppogeghnaaGreatDoor
open Go.RowKit
attribute [local irreducible] rkey expand enc dec ctrB ctrC ctrL xorL xorAll turnL turnT kd t4 t8 env5 chk tagT sealT ringL hdT envOf hdOf

theorem splitT_len (root : ByteArray) (l : List ByteArray) : (splitT root l).length = l.length + 1 := by
  unfold splitT
  rw [List.length_append, sharesT_length]
  rfl
theorem both_begin (w0 : World) (hL : Laid w0) (B : Nat) (hB2 : 2 ≤ B) (S : BS) (hS : OkS S) (root key nonce : ByteArray) (l : List ByteArray) (hl : l.length ≤ 4) : ∃ (c : Int) (T : List ByteArray) (S' : BS), OkS S' ∧ T.length ≤ 5 ∧ (∀ n E L, S' = .closed n E L → S' = S) ∧
    (∀ w b p q, Ext w0 w → IsP w B b S → TextsP w p l → Calls Tryz.prog 13 #[.pointer (some ⟨b, 0, none⟩), .string root, .string key, .string nonce, .slice p l.length q] w fun e w' => (∃ v, e = .returned (.tuple #[v, .int .i64 c]) ∧ BufS w' w.heap.size v T) ∧ IsP w' B b S' ∧ TurnP B w w') ∧
    (∀ w d p q, IsQ w B d S → TextsP w p l → Calls Tryz.prog 59 #[.pointer (some ⟨d, 0, none⟩), .string root, .string key, .string nonce, .slice p l.length q] w fun e w' => (∃ v, e = .returned (.tuple #[v, .int .i64 c]) ∧ BufS w' w.heap.size v T) ∧ IsQ w' B d S' ∧ TurnQ B w w') := by
  by_cases h0 : stN S = 0
  · cases S with
    | closed n E L => cases h0
    | opened n E root K => cases h0
    | none =>
      by_cases hz : root.size = 32 ∧ key.size = 32 ∧ nonce.size = 12
      · obtain ⟨hr, hk, hn⟩ := hz
        rcases first_other root l with hall | ⟨k, t, hk', ht, hf⟩
        · have hG := GoodK.one key hk
          refine ⟨0, splitT root l, .opened (l.length + 1) (envOf root (l.length + 1) nonce [(1, key)]) root [(1, key)], ⟨by omega, by omega, by rw [envOf_size hG root _ nonce hn]; simp, hr, hG⟩, by rw [splitT_len]; omega, (fun _ _ _ h => by cases h), fun w b p q x h hT => ?_, fun w d p q h hT => ?_⟩
          · exact (begin_yes w B b hB2 (hL.ext x) h root key nonce p q l hr hk hn (by omega) hT hall).mono fun _ _ ⟨⟨a, c, e, f⟩, g⟩ => ⟨⟨_, e, f⟩, g⟩
          · exact (rbegin_yes w B d h root key nonce p q l hr hk hn (by omega) hT hall).mono fun _ _ ⟨⟨a, c, e, f⟩, g⟩ => ⟨⟨_, e, f⟩, g⟩
        · refine ⟨2, [], .none, trivial, by simp, (fun _ _ _ h => by cases h), fun w b p q x h hT => ?_, fun w d p q h hT => ?_⟩
          · exact (bbegin_split w B b h root key nonce hr hk hn _ 2 (by decide) (split_no w root p q l (by omega) (by omega) (by omega) hT k t hk' ht hf)).mono fun _ _ ⟨e, y⟩ => ⟨⟨_, e, BufS.nil _ _⟩, h.still y⟩
          · exact (rbegin_split w B d h root key nonce hr hk hn _ 2 (by decide) (rsplit_no w root p q l (by omega) (by omega) (by omega) hT k t hk' ht hf)).mono fun _ _ ⟨e, y⟩ => ⟨⟨_, e, BufS.nil _ _⟩, h.still y⟩
      · exact ⟨2, [], .none, trivial, by simp, (fun _ _ _ h => by cases h), fun w b p q x h hT => (bbegin_arg w B b h root key nonce hz _).mono fun _ _ ⟨e, y⟩ => ⟨⟨_, e, BufS.nil _ _⟩, h.still (y ▸ Ext.refl w)⟩, fun w d p q h hT => (rbegin_arg w B d h root key nonce hz _).mono fun _ _ ⟨e, y⟩ => ⟨⟨_, e, BufS.nil _ _⟩, h.still (y ▸ Ext.refl w)⟩⟩
  · exact ⟨151, [], S, hS, by simp, fun _ _ _ _ => rfl, fun w b p q x h hT => (bbegin_state w B b S h h0 root key nonce _).mono fun _ _ ⟨e, y⟩ => ⟨⟨_, e, BufS.nil _ _⟩, h.still (y ▸ Ext.refl w)⟩, fun w d p q h hT => (rbegin_state w B d S h h0 root key nonce _).mono fun _ _ ⟨e, y⟩ => ⟨⟨_, e, BufS.nil _ _⟩, h.still (y ▸ Ext.refl w)⟩⟩
/-! ### What each side's calls leave of the other -/
theorem IsG.turnQ {A g b n m : Nat} {L : List (Nat × ByteArray)} {w w' : World} (h : IsG w g b n m L) (t : TurnQ A w w') : IsG w' g b n m L := by
  obtain ⟨es, cl, hm⟩ := h.map.is
  exact ⟨t.keep _ _ h.blk ⟨(fun _ _ e => by cases e), (fun _ _ e => by cases e), (fun _ _ e => by cases e), (fun _ _ e => by cases e)⟩, h.map.same ((t.keep _ _ hm ⟨(fun _ _ e => by cases e), (fun _ _ e => by cases e), (fun _ _ e => by cases e), (fun _ _ e => by cases e)⟩).trans hm.symm), h.alike⟩
theorem IsK.turnQ {A r b : Nat} {K : List (Nat × ByteArray)} {w w' : World} (h : IsK w r b K) (t : TurnQ A w w') : IsK w' r b K := by
  obtain ⟨es, cl, hm⟩ := h.map.is
  exact ⟨t.keep _ _ h.ring ⟨(fun _ _ e => by cases e), (fun _ _ e => by cases e), (fun _ _ e => by cases e), (fun _ _ e => by cases e)⟩, h.map.same ((t.keep _ _ hm ⟨(fun _ _ e => by cases e), (fun _ _ e => by cases e), (fun _ _ e => by cases e), (fun _ _ e => by cases e)⟩).trans hm.symm), h.good⟩
theorem IsBar.turnQ {A B b g bm n m : Nat} {h : ByteArray} {rt rg : Option Addr} {L : List (Nat × ByteArray)} {w w' : World} (i : IsBar w B b g bm h rt rg n m L) (t : TurnQ A w w') : IsBar w' B b g bm h rt rg n m L :=
  ⟨t.keep _ _ i.blk ⟨(fun _ _ e => by cases e), (fun _ _ e => by cases e), (fun _ _ e => by cases e), (fun _ _ e => by cases e)⟩, i.gat.turnQ t, i.low, i.lowm⟩
theorem IsP.turnQ {A B b : Nat} {S : BS} {w w' : World} (h : IsP w B b S) (t : TurnQ A w w') : IsP w' B b S := by
  cases S with
  | none => obtain ⟨g, bm, i⟩ := h; exact ⟨g, bm, i.turnQ t⟩
  | closed n E L => obtain ⟨g, bm, i⟩ := h; exact ⟨g, bm, i.turnQ t⟩
  | opened n E root K => obtain ⟨g, bm, r1, k1, r2, k2, i, j⟩ := h; exact ⟨g, bm, r1, k1, r2, k2, i.turnQ t, ⟨j.one.turnQ t, j.two.turnQ t, j.low, j.a1, j.a2⟩⟩
theorem IsGF.turnP {A d n m : Nat} {st : Int} {hh rr : ByteArray} {rg v : Value} {L : List (Nat × ByteArray)} {w w' : World} (h : IsGF w d st hh rr rg v n m L) (t : TurnP A w w') : IsGF w' d st hh rr rg v n m L := by
  refine ⟨t.blk h.blk (by decide), ⟨h.buf.1, ?_⟩, h.alike⟩
  rcases h.buf.2 with h0 | ⟨g, cap, cur, e1, e2, e3, e4⟩
  · exact .inl h0
  · exact .inr ⟨g, cap, cur, e1, e2, t.keep _ _ e3 ⟨fun _ _ e => (by cases e), fun _ _ e => (by cases e)⟩, e4⟩
theorem IsR.turnP {A B d c : Nat} {p : Option Addr} {L : List (Nat × ByteArray)} {w w' : World} (h : IsR w B d p c L) (t : TurnP A w w') : IsR w' B d p c L := by
  refine ⟨t.blk h.ring (by decide), ⟨h.ents.1, h.ents.2.1, h.ents.2.2.1, fun hc => ?_⟩, h.low, h.lowp, h.apart⟩
  obtain ⟨g, cur, h1, h2, h3, h4⟩ := h.ents.2.2.2 hc
  exact ⟨g, cur, h1, h2, t.keep _ _ h3 ⟨fun _ _ e => (by cases e), fun _ _ e => (by cases e)⟩, h4⟩
theorem IsQ.turnP {A B d : Nat} {S : BS} {w w' : World} (h : IsQ w B d S) (t : TurnP A w w') : IsQ w' B d S := by
  cases S with
  | none => obtain ⟨v, i, l⟩ := h; exact ⟨v, i.turnP t, l⟩
  | closed n E L => obtain ⟨v, i, l⟩ := h; exact ⟨v, i.turnP t, l⟩
  | opened n E root K => obtain ⟨v, rd, p, c, i, j, l⟩ := h; exact ⟨v, rd, p, c, i.turnP t, j.turnP t, l⟩
end Go.Proofs.YtobhbppogeghnaaGreatDoor
end
