/- Contracts: envelopes: of which epoch one is: by the program. Contracts: envelopes: Open: by the program. Contracts: what was closed opens, by its key; not, once that is gone. What the shares of a secret are. -/
import Derived.Test.YtcjdnifckngcfaaGreatDoorM34
import Derived.Deep.RegionHeld3
import Derived.Test.YtcjdnifckngcfaaGreatDoorM04
import Derived.Test.YtcjdnifckngcfaaGreatDoorM08
section
namespace Go.Proofs.YtcjdnifckngcfaaGreatDoor
open Go.RowKit
attribute [local irreducible] rkey expand enc dec ctrB ctrC ctrL xorL turnL turnT kd t8

/-- One byte. -/
def b1 (x : UInt8) : ByteArray := ⟨#[x]⟩
/-- A text that is long enough has the form of an envelope, but for its first byte. -/
theorem shape_ex (s : ByteArray) (h : 49 ≤ s.size) : ∃ (x : UInt8) (e : Nat) (C D T : ByteArray), e < 4294967296 ∧ C.size = 12 ∧ T.size = 32 ∧ D.size + 49 = s.size ∧ s = env5 (b1 x) (t4 e) C D T := by
  obtain ⟨l, hl⟩ : ∃ l, s.data.toList = l := ⟨_, rfl⟩
  have hs : l.length = s.size := by rw [← hl, size_list]
  cases l with
  | nil => simp at hs; omega
  | cons x r =>
    rw [List.length_cons] at hs
    refine ⟨x, num (r.take 4), ⟨((r.drop 4).take 12).toArray⟩, ⟨((r.drop 16).take (s.size - 49)).toArray⟩, ⟨(r.drop (s.size - 33)).toArray⟩, num_lt 4 _ (by rw [List.length_take]; omega), ?_, ?_, ?_, ?_⟩
    · rw [txt_size, List.length_take, List.length_drop]; omega
    · rw [txt_size, List.length_drop]; omega
    · rw [txt_size, List.length_take, List.length_drop]; omega
    · apply ByteArray.ext
      apply Array.toList_inj.1
      rw [hl]
      unfold env5 b1 t4
      simp only [be_num (r.take 4) 4 (by rw [List.length_take]; omega)]
      have e1 : (r.drop 16).take (s.size - 49) ++ r.drop (s.size - 33) = r.drop 16 := by
        have : r.drop (s.size - 33) = (r.drop 16).drop (s.size - 49) := by rw [List.drop_drop]; congr 1; omega
        rw [this, List.take_append_drop]
      have e2 : (r.drop 4).take 12 ++ r.drop 16 = r.drop 4 := by
        have : r.drop 16 = (r.drop 4).drop 12 := by rw [List.drop_drop]
        rw [this, List.take_append_drop]
      rw [e1, e2, List.take_append_drop]
      rfl
section
variable {x : UInt8} {e : Nat} {C D T : ByteArray}
theorem partsOf_env (hC : C.size = 12) (hT : T.size = 32) (hD : D.size ≤ 140737488351232) (w : World) :
    Calls Tryz.prog 87 #[.string (env5 (b1 x) (t4 e) C D T)] w fun r w' => r = .returned (.agg #[.string (b1 x), .string (t4 e), .string C, .string D, .string T]) ∧ Ext w w' := by
  have h := partsOf_cut w [x] (be 4 e) C.data.toList D.data.toList T.data.toList rfl (be_length 4 e) (by rw [size_list]; exact hC) (by rw [size_list]; exact hT) (by rw [size_list]; exact hD)
  rw [string_of, string_of, string_of] at h
  exact h
theorem size_lit (n : Nat) (k : Int) (hk : 17 + (n : Int) + 32 = k) (h : n ≤ 140737488351232) (w : World) :
    Calls Tryz.prog 119 #[.int .i64 (n : Int)] w fun e w' => e = .returned (.int .i64 k) ∧ w = w' := by subst hk; exact Size_any n h w
theorem size_zero (w : World) : Calls Tryz.prog 119 #[.int .i64 0] w fun e w' => e = .returned (.int .i64 49) ∧ w = w' := size_lit 0 49 (by decide) (by omega) w
theorem size_max (w : World) : Calls Tryz.prog 119 #[.int .i64 1048576] w fun e w' => e = .returned (.int .i64 1048625) ∧ w = w' := size_lit 1048576 1048625 (by decide) (by omega) w
theorem epoch_len (s : ByteArray) (h : s.size < 49 ∨ 1048625 < s.size) (w : World) :
    Calls Tryz.prog 85 #[.string s] w fun r w' => r = .returned (.tuple #[.int .u32 0, .int .i64 7]) ∧ w = w' := by
  by_cases h1 : s.size < 49
  · have h1i : (s.size : Int) < 49 := by omega
    go_enter Tryz.func85, Tryz.ntmps85
    go_wp2_with (first
      | (go_at_call 119; (with_reducible refine (size_zero _).mono ?_); rintro e w1 ⟨rfl, rfl⟩)
      | (go_at_call 119; (with_reducible refine (size_max _).mono ?_); rintro e w1 ⟨rfl, rfl⟩))
    go_ret2
    exact ⟨rfl, rfl⟩
  · have h1i : ¬ (s.size : Int) < 49 := by omega
    have h2i : (1048625 : Int) < (s.size : Int) := by omega
    go_enter Tryz.func85, Tryz.ntmps85
    go_wp2_with (first
      | (go_at_call 119; (with_reducible refine (size_zero _).mono ?_); rintro e w1 ⟨rfl, rfl⟩)
      | (go_at_call 119; (with_reducible refine (size_max _).mono ?_); rintro e w1 ⟨rfl, rfl⟩))
    go_ret2
    exact ⟨rfl, rfl⟩
theorem b1_ne (hx : x ≠ 1) : ((b1 x).toList == [1]) = false := by
  rw [beq_eq_false_iff_ne, ByteArray.toList_eq]
  intro q
  unfold b1 at q
  simp at q
  exact hx q
theorem epoch_first (hC : C.size = 12) (hT : T.size = 32) (hD : D.size ≤ 1048576) (hx : x ≠ 1) (w : World) :
    Calls Tryz.prog 85 #[.string (env5 (b1 x) (t4 e) C D T)] w fun r w' => r = .returned (.tuple #[.int .u32 0, .int .i64 7]) ∧ Ext w w' := by
  have hz := env5_size (b1 x) (t4 e) C D T
  rw [t4_size, hC, hT, show (b1 x).size = 1 from rfl] at hz
  have HP := Lib.hid (partsOf_env (x := x) (e := e) hC hT (D := D) (by omega) w)
  have hne := b1_ne hx
  have hne2 : ¬ (b1 x).toList = [1] := by simpa using hne
  generalize env5 (b1 x) (t4 e) C D T = S at *
  generalize b1 x = F at *
  generalize t4 e = E at *
  have h1i : ¬ (S.size : Int) < 49 := by omega
  have h2i : ¬ (1048625 : Int) < (S.size : Int) := by omega
  clear hz hC hT hD
  go_enter Tryz.func85, Tryz.ntmps85
  go_wp2_with (first
    | (go_at_call 119; (with_reducible refine (size_zero _).mono ?_); rintro e w1 ⟨rfl, rfl⟩)
    | (go_at_call 119; (with_reducible refine (size_max _).mono ?_); rintro e w1 ⟨rfl, rfl⟩)
    | (go_at_call 87; refine (HP.out).mono ?_; rintro e w2 ⟨rfl, x2⟩; have p2 := Blk.new w2 [.string F, .string E, .string C, .string D, .string T] 120; have a0 := p2.cell 0 _ rfl; have y2 := x2.alloc (.cells #[.string F, .string E, .string C, .string D, .string T] 120); clear p2))
  go_ret2
  exact ⟨rfl, y2⟩
theorem epoch_yes (he : e < 4294967296) (hC : C.size = 12) (hT : T.size = 32) (hD : D.size ≤ 1048576) (w : World) :
    Calls Tryz.prog 85 #[.string (env5 t1 (t4 e) C D T)] w fun r w' => r = .returned (.tuple #[.int .u32 (e : Int), .int .i64 0]) ∧ Ext w w' := by
  have hz := env5_size t1 (t4 e) C D T
  rw [t4_size, hC, hT, show t1.size = 1 from rfl] at hz
  have HP := Lib.hid (partsOf_env (x := 1) (e := e) hC hT (D := D) (by omega) w)
  have HG := Lib.hid (fun u => by
    have := Get32_any ⟨(be 4 e).toArray⟩ 0 (by rw [txt_size, be_length]; omega) u
    rw [(getK_be e he).1, (getK_be e he).2] at this
    exact this)
  rw [show b1 1 = t1 from rfl] at HP
  rw [show (⟨(be 4 e).toArray⟩ : ByteArray) = t4 e by unfold t4; rfl] at HG
  generalize env5 t1 (t4 e) C D T = S at *
  generalize t4 e = E at *
  have h1i : ¬ (S.size : Int) < 49 := by omega
  have h2i : ¬ (1048625 : Int) < (S.size : Int) := by omega
  clear hz hC hT hD
  unfold t1 at *
  go_enter Tryz.func85, Tryz.ntmps85
  go_wp2_with (first
    | (go_at_call 119; (with_reducible refine (size_zero _).mono ?_); rintro e w1 ⟨rfl, rfl⟩)
    | (go_at_call 119; (with_reducible refine (size_max _).mono ?_); rintro e w1 ⟨rfl, rfl⟩)
    | (go_at_call 87; refine (HP.out).mono ?_; rintro e w2 ⟨rfl, x2⟩; have p2 := Blk.new w2 [.string ⟨#[1]⟩, .string E, .string C, .string D, .string T] 120; have a0 := p2.cell 0 _ rfl; have a1 := p2.cell 1 _ rfl; have y2 := x2.alloc (.cells #[.string ⟨#[1]⟩, .string E, .string C, .string D, .string T] 120); clear p2)
    | (go_at_call 120; refine (HG.out _).mono ?_; rintro e w3 ⟨rfl, rfl⟩))
  go_ret2
  exact ⟨rfl, y2⟩
end
end Go.Proofs.YtcjdnifckngcfaaGreatDoor
end

section
namespace Go.Proofs.YtcjdnifckngcfaaGreatDoor
open Go.RowKit
attribute [local irreducible] rkey expand enc dec ctrB ctrC ctrL xorL turnL turnT kd t4 t8 env5 chk

theorem open_nil (w : World) (path : ByteArray) (v : Int) (s : ByteArray) :
    Calls Tryz.prog 49 #[.pointer none, .string path, .int .u64 v, .string s] w fun e w' => e = .returned (.tuple #[.string ⟨#[]⟩, .int .i64 1]) ∧ w = w' := by
  go_enter Tryz.func49, Tryz.ntmps49
  go_wp2_with (go_at_call 75; refine (there_nil14 _).mono ?_; rintro e w1 ⟨rfl, rfl⟩)
  go_ret2
  exact ⟨rfl, rfl⟩
section
variable {r b : Nat} {L : List (Nat × ByteArray)}
/-- What Epoch refuses Open refuses. -/
theorem open_form (w : World) (h : IsK w r b L) (path : ByteArray) (v : Int) (s : ByteArray) (hE : ∀ u, Calls Tryz.prog 85 #[.string s] u fun r w' => r = .returned (.tuple #[.int .u32 0, .int .i64 7]) ∧ Ext u w') :
    Calls Tryz.prog 49 #[.pointer (some ⟨r, 0, none⟩), .string path, .int .u64 v, .string s] w fun e w' => e = .returned (.tuple #[.string ⟨#[]⟩, .int .i64 7]) ∧ Ext w w' := by
  have HT := Lib.hid (there_yes14 w r b L h)
  have HE := Lib.hid hE
  clear h hE
  go_enter Tryz.func49, Tryz.ntmps49
  go_wp2_with (first
    | (go_at_call 75; refine (HT.out).mono ?_; rintro e w1 ⟨rfl, x1⟩)
    | (go_at_call 85; refine (HE.out _).mono ?_; rintro e w2 ⟨rfl, x2⟩))
  go_ret2
  exact ⟨rfl, x1.trans x2⟩
variable {e : Nat} {C D T : ByteArray}
theorem open_long (w : World) (h : IsK w r b L) (path : ByteArray) (v : Int) (he : e < 4294967296) (hC : C.size = 12) (hT : T.size = 32) (hD : D.size ≤ 1048576) (hp : 1048576 < path.size) :
    Calls Tryz.prog 49 #[.pointer (some ⟨r, 0, none⟩), .string path, .int .u64 v, .string (env5 t1 (t4 e) C D T)] w fun x w' => x = .returned (.tuple #[.string ⟨#[]⟩, .int .i64 5]) ∧ Ext w w' := by
  have HT := Lib.hid (there_yes14 w r b L h)
  have HE := Lib.hid (fun u => epoch_yes he hC hT hD u)
  have hpi : (1048576 : Int) < (path.size : Int) := by omega
  generalize env5 t1 (t4 e) C D T = S at *
  clear h hC hT hD
  go_enter Tryz.func49, Tryz.ntmps49
  go_wp2_with (first
    | (go_at_call 75; refine (HT.out).mono ?_; rintro e w1 ⟨rfl, x1⟩)
    | (go_at_call 85; refine (HE.out _).mono ?_; rintro e w2 ⟨rfl, x2⟩))
  go_ret2
  exact ⟨rfl, x1.trans x2⟩
theorem open_epoch (w : World) (h : IsK w r b L) (path : ByteArray) (v : Int) (he : e < 4294967296) (hC : C.size = 12) (hT : T.size = 32) (hD : D.size ≤ 1048576) (hp : path.size ≤ 1048576) (hn : e ∉ eps L) :
    Calls Tryz.prog 49 #[.pointer (some ⟨r, 0, none⟩), .string path, .int .u64 v, .string (env5 t1 (t4 e) C D T)] w fun x w' => x = .returned (.tuple #[.string ⟨#[]⟩, .int .i64 140]) ∧ Ext w w' := by
  have HT := Lib.hid (there_yes14 w r b L h)
  have HE := Lib.hid (fun u => epoch_yes he hC hT hD u)
  have HK := Lib.hid h
  have HKy := Lib.hid (fun u (hu : IsK u r b L) => keys_no u r b L hu e he hn)
  have hpi : ¬ (1048576 : Int) < (path.size : Int) := by omega
  generalize env5 t1 (t4 e) C D T = S at *
  clear h hC hT hD hn
  go_enter Tryz.func49, Tryz.ntmps49
  go_wp2_with (first
    | (go_at_call 75; refine (HT.out).mono ?_; rintro e w1 ⟨rfl, x1⟩)
    | (go_at_call 85; refine (HE.out _).mono ?_; rintro e w2 ⟨rfl, x2⟩; have y2 := x1.trans x2)
    | (go_at_call 77; refine (HKy.out _ (HK.out.ext y2)).mono ?_; rintro e w3 ⟨rfl, x3⟩))
  go_ret2
  exact ⟨rfl, y2.trans x3⟩
/-- What Open answers where there is a key: by whether the tag is right. -/
def OpenE (ok : Bool) (X : ByteArray) : Value := if ok then .tuple #[.string X, .int .i64 0] else .tuple #[.string ⟨#[]⟩, .int .i64 141]
set_option maxRecDepth 100000 in
set_option maxHeartbeats 4000000 in
theorem open_key (w : World) (hL : Laid w) (h : IsK w r b L) (s : ByteArray) (hm : (e, s) ∈ L) (path : ByteArray) (v : Nat) (hC : C.size = 12) (hT : T.size = 32) (hD : D.size ≤ 1048576) (hp : path.size ≤ 1048576) :
    Calls Tryz.prog 49 #[.pointer (some ⟨r, 0, none⟩), .string path, .int .u64 (v : Int), .string (env5 t1 (t4 e) C D T)] w fun x w' => x = .returned (OpenE (chk T.data.toList (tagT (kd s tagB 32) path v t1 (t4 e) C D).data.toList) (turnT (kd s cipB 16) C 0 D)) ∧ Ext w w' := by
  have he : e < 4294967296 := (h.good.each _ hm).2.1
  have HTh := Lib.hid (there_yes14 w r b L h)
  have HE := Lib.hid (fun u => epoch_yes he hC hT hD u)
  have HP := Lib.hid (fun u => partsOf_env (x := 1) (e := e) hC hT (D := D) (by omega) u)
  rw [show b1 1 = t1 from rfl] at HP
  have HK := Lib.hid h
  have hk1 : (kd s cipB 16).size = 16 := kd_size _ _ _ (by omega)
  have hk2 : (kd s tagB 32).size = 32 := kd_size _ _ _ (by omega)
  have HKy := Lib.hid (fun u (hx : Ext w u) (hu : IsK u r b L) => keys_yes u r b L (hL.ext hx) hu e s hm)
  have HTu := Lib.hid (fun u => turnT_to (kd s cipB 16) C 0 D hk1 hC hD (by unfold blocksOf; omega) (by omega) u)
  have hck : ∀ (u : World) (g c : Nat), Ext w u → Texts u ⟨g, 0, none⟩ ([t4 path.size, path, t8 v] ++ [t1, t4 e, C, D]) →
      Calls Tryz.prog 88 #[.string (kd s tagB 32), .string T, .slice (some ⟨g, 0, none⟩) 7 c] u fun x w' => x = .returned (.bool (chk T.data.toList (tagT (kd s tagB 32) path v t1 (t4 e) C D).data.toList)) ∧ Ext u w' := fun u g c hx hTx =>
    Check_any u _ _ _ [t4 path.size, path, t8 v, t1, t4 e, C, D] (hL.ext hx) (by rw [hk2]; omega) (by omega) (.inr ⟨⟨g, 0, none⟩, c, rfl, hTx, by simp⟩) (by
      rw [joinL_7, t4_size, t8_size, t4_size, hC]
      have : t1.size = 1 := rfl
      omega)
  have HCk := Lib.hid hck
  have HA := Lib.hid (fun u A B C D T => ahead_any u A B C D T)
  have HG := Lib.hid (fun u g (hb : Blk u g 9 ([t1, t4 e, C, D].map Value.string)) => tagged_any u path v g _ hp hb rfl)
  have hpi : ¬ (1048576 : Int) < (path.size : Int) := by omega
  clear h hL hm hk1 hk2 hck hC hT hD hp
  generalize env5 t1 (t4 e) C D T = S at *
  unfold t1 at *
  generalize chk T.data.toList (tagT (kd s tagB 32) path v ⟨#[1]⟩ (t4 e) C D).data.toList = ok at *
  generalize turnT (kd s cipB 16) C 0 D = X at *
  generalize kd s cipB 16 = K1 at *
  generalize kd s tagB 32 = K2 at *
  generalize t4 e = E at *
  go_enter Tryz.func49, Tryz.ntmps49
  go_upto_region 12 with (first
    | (go_at_call 75; refine (HTh.out).mono ?_; rintro e w1 ⟨rfl, x1⟩)
    | (go_at_call 85; refine (HE.out _).mono ?_; rintro e w2 ⟨rfl, x2⟩; have y2 := x1.trans x2)
    | (go_at_call 77; refine (HKy.out _ y2 (HK.out.ext y2)).mono ?_; rintro e w3 ⟨rfl, x3⟩; have y3 := y2.trans x3)
    | (go_at_call 87; refine (HP.out _).mono ?_; rintro e w4 ⟨rfl, x4⟩; have y4 := y3.trans x4))
  have p4 := Blk.new w4 [.string ⟨#[1]⟩, .string E, .string C, .string D, .string T] 120
  have y5 := y4.alloc (.cells #[.string ⟨#[1]⟩, .string E, .string C, .string D, .string T] 120)
  generalize w4.alloc (.cells #[.string ⟨#[1]⟩, .string E, .string C, .string D, .string T] 120) = W at *
  generalize w4.heap.size = P at *
  have HKeep : Hid (∀ u, Ext W u → u.cell? ⟨P, 0, none⟩ = some (.string ⟨#[1]⟩) ∧ u.cell? ⟨P, 1, none⟩ = some (.string E) ∧ u.cell? ⟨P, 2, none⟩ = some (.string C) ∧ u.cell? ⟨P, 3, none⟩ = some (.string D) ∧ u.cell? ⟨P, 4, none⟩ = some (.string T) ∧ Ext W u) :=
    Lib.hid fun u hu => ⟨(p4.ext hu).cell 0 _ rfl, (p4.ext hu).cell 1 _ rfl, (p4.ext hu).cell 2 _ rfl, (p4.ext hu).cell 3 _ rfl, (p4.ext hu).cell 4 _ rfl, hu⟩
  have hS := HKeep.out W.drew (Ext.refl W).drew
  have Y5 := Lib.hid y5
  clear p4 y5 x1 x2 x3 x4 y2 y3 y4
  go_region_held3 (fun u => u.cell? ⟨P, 0, none⟩ = some (.string ⟨#[1]⟩) ∧ u.cell? ⟨P, 1, none⟩ = some (.string E) ∧ u.cell? ⟨P, 2, none⟩ = some (.string C) ∧ u.cell? ⟨P, 3, none⟩ = some (.string D) ∧ u.cell? ⟨P, 4, none⟩ = some (.string T) ∧ Ext W u) (first | exact hS | exact hS1 | exact hS2 | exact hS3 | assumption | exact HKeep.out _ (by repeat' (first | assumption | exact Ext.refl _ | refine Ext.drew ?_ | refine Ext.alloc ?_ _)) | go_keep) (first
    | (go_at_call 82; refine (HA.out _ _ _ _ _ _).mono ?_; rintro e w6 ⟨g6, rfl, b6, q6, x6⟩; have y6 := Ext.trans (a := W) (by repeat' (first | assumption | exact Ext.refl _ | refine Ext.drew ?_ | refine Ext.alloc ?_ _)) x6; have hS1 := HKeep.out _ y6)
    | (go_at_call 81; refine (HG.out _ _ (b6.ext (by repeat' (first | assumption | exact Ext.refl _ | refine Ext.drew ?_ | refine Ext.alloc ?_ _)))).mono ?_; rintro e w7 ⟨g7, c7, rfl, k7, x7⟩; have y7 := y6.trans x7; have hS2 := HKeep.out _ y7)
    | (go_at_call 88; refine (HCk.out _ _ _ (Y5.out.trans y7) k7).mono ?_; rintro e w8 ⟨rfl, x8⟩; have y8 := y7.trans x8; have hS3 := HKeep.out _ y8))
  all_goals
    clear hS hS1 hS2
    obtain ⟨c0, c1, c2, c3, c4, _⟩ := hS3
    cases ok
    · go_wp2
      go_ret2
      exact ⟨rfl, Y5.out.trans y8⟩
    · go_wp2_with (go_at_call 78; refine (HTu.out _).mono ?_; rintro e w9 ⟨rfl, x9⟩)
      go_ret2
      exact ⟨rfl, Y5.out.trans (y8.trans x9)⟩
end
end Go.Proofs.YtcjdnifckngcfaaGreatDoor
end

section
namespace Go.Proofs.YtcjdnifckngcfaaGreatDoor
open Go.RowKit

theorem chk_self (m : List UInt8) (h : m.length = 32) : chk m m = true := by
  unfold chk
  rw [h]
  simp [List.take_of_length_le (Nat.le_of_eq h)]
attribute [local irreducible] rkey expand enc dec ctrB ctrC ctrL xorL turnL turnT kd t4 t8 env5 chk tagT
theorem open_sealed (w : World) (r b : Nat) (L : List (Nat × ByteArray)) (hL : Laid w) (h : IsK w r b L) (e : Nat) (s : ByteArray) (hm : (e, s) ∈ L) (path : ByteArray) (v : Nat) (nonce text : ByteArray) (hn : nonce.size = 12) (hp : path.size ≤ 1048576) (ht : text.size ≤ 1048576) :
    Calls Tryz.prog 49 #[.pointer (some ⟨r, 0, none⟩), .string path, .int .u64 (v : Int), .string (sealT s e path v nonce text)] w fun x w' => x = .returned (.tuple #[.string text, .int .i64 0]) ∧ Ext w w' := by
  have hk1 : (kd s cipB 16).size = 16 := kd_size _ _ _ (by omega)
  have h1 := open_key w hL h s hm path v (C := nonce) (D := turnT (kd s cipB 16) nonce 0 text) (T := tagT (kd s tagB 32) path v t1 (t4 e) nonce (turnT (kd s cipB 16) nonce 0 text)) hn (tagT_size _ _ _ _ _ _ _) (by rw [turnT_size _ _ _ _ hk1]; exact ht) hp
  rw [chk_self _ (by rw [size_list]; exact tagT_size _ _ _ _ _ _ _), turnT_twice _ _ _ _ hk1] at h1
  exact h1
theorem epoch_sealed (s : ByteArray) (e : Nat) (he : e < 4294967296) (path : ByteArray) (v : Nat) (nonce text : ByteArray) (hn : nonce.size = 12) (ht : text.size ≤ 1048576) (w : World) :
    Calls Tryz.prog 85 #[.string (sealT s e path v nonce text)] w fun x w' => x = .returned (.tuple #[.int .u32 (e : Int), .int .i64 0]) ∧ Ext w w' :=
  epoch_yes he hn (tagT_size _ _ _ _ _ _ _) (by rw [turnT_size _ _ _ _ (kd_size _ _ _ (by omega))]; exact ht) w
theorem open_gone (w : World) (r b : Nat) (L : List (Nat × ByteArray)) (h : IsK w r b L) (s : ByteArray) (e : Nat) (he : e < 4294967296) (path : ByteArray) (v : Nat) (nonce text : ByteArray) (hn : nonce.size = 12) (hp : path.size ≤ 1048576) (ht : text.size ≤ 1048576) (hg : e ∉ eps L) :
    Calls Tryz.prog 49 #[.pointer (some ⟨r, 0, none⟩), .string path, .int .u64 (v : Int), .string (sealT s e path v nonce text)] w fun x w' => x = .returned (.tuple #[.string ⟨#[]⟩, .int .i64 140]) ∧ Ext w w' :=
  open_epoch w h path v he hn (tagT_size _ _ _ _ _ _ _) (by rw [turnT_size _ _ _ _ (kd_size _ _ _ (by omega))]; exact ht) hp hg
end Go.Proofs.YtcjdnifckngcfaaGreatDoor
end

section
namespace Go.Proofs.YtcjdnifckngcfaaGreatDoor
open Go.RowKit

/-- A share's bytes. -/
def shareT (i n : Nat) (s : ByteArray) : ByteArray := ⟨(UInt8.ofNat i :: UInt8.ofNat n :: s.data.toList).toArray⟩
/-- The bytes of the shares that texts are. -/
def sharesT (n : Nat) (l : List ByteArray) : List ByteArray := l.mapIdx fun i s => shareT (i + 1) n s
theorem sharesT_length (n : Nat) (l : List ByteArray) : (sharesT n l).length = l.length := by simp [sharesT]
theorem sharesT_take (n : Nat) (l : List ByteArray) (j : Nat) (s : ByteArray) (h : l[j]? = some s) : (sharesT n l).take (j + 1) = (sharesT n l).take j ++ [shareT (j + 1) n s] := by
  rw [List.take_add_one]
  congr 1
  simp [sharesT, h]
/-- A text, either or all of them. -/
def xorAll (s : List UInt8) (l : List ByteArray) : List UInt8 := l.foldl (fun a b => xorL a b.data.toList) s
theorem xorAll_step (s : List UInt8) (l : List ByteArray) (j : Nat) (b : ByteArray) (h : l[j]? = some b) : xorAll s (l.take (j + 1)) = xorL (xorAll s (l.take j)) b.data.toList := by
  unfold xorAll
  rw [List.take_add_one, h]
  simp
theorem xorAll_length {n : Nat} : ∀ (l : List ByteArray) (s : List UInt8), s.length = n → (∀ b, b ∈ l → b.size = n) → (xorAll s l).length = n
  | [], _, h, _ => h
  | b :: r, s, h, hl => by
    have e : (xorL s b.data.toList).length = n := by unfold xorL; rw [List.length_zipWith, h, size_list, hl b (by simp)]; omega
    exact xorAll_length r _ e (fun c hc => hl c (by simp [hc]))
/-- The shares of a secret by texts. -/
def splitT (secret : ByteArray) (l : List ByteArray) : List ByteArray := sharesT (l.length + 1) l ++ [shareT (l.length + 1) (l.length + 1) ⟨(xorAll secret.data.toList l).toArray⟩]
theorem share_cat (i n : Nat) (x y : UInt8) (s : ByteArray) (hx : x = UInt8.ofNat i) (hy : y = UInt8.ofNat n) : (⟨#[x, y]⟩ : ByteArray) ++ s = shareT i n s := by
  subst hx hy
  unfold shareT
  apply ByteArray.ext
  rw [ByteArray.data_append]
  simp
end Go.Proofs.YtcjdnifckngcfaaGreatDoor
end
