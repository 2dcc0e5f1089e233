/- Contracts: envelopes: of which epoch one is: by the program. Contracts: envelopes: Open: by the program. Contracts: what was closed opens, by its key; not, once that is gone. What the shares of a secret are. Plain: either or of many texts, in any order; rows of shares. Bytes that are a share's, or none's. Plain: the bytes of shares. Plain: texts joined; a text of one byte. -/
import Derived.Test.YtobhbppogeghnaaGreatDoorM22
import Derived.Deep.RegionHeld3
import Derived.Test.YtobhbppogeghnaaGreatDoorM05
import Derived.Test.YtobhbppogeghnaaGreatDoorM06
import Derived.Test.YtobhbppogeghnaaGreatDoorM00
import Derived.Test.YtobhbppogeghnaaGreatDoorM01
import Derived.Laws.ResultCell
import Derived.Deep.QuietTactic
import Derived.BigQuiet
import Derived.StillTailTactics
import Derived.Test.YtobhbppogeghnaaGreatDoorM02
section
namespace Go.Proofs.YtobhbppogeghnaaGreatDoor
open Go.RowKit
attribute [local irreducible] rkey expand enc dec ctrB ctrC ctrL xorL turnL turnT kd t8

/-- One byte. -/
def b1 (x : UInt8) : ByteArray := ⟨#[x]⟩
/-- A text that is long enough has the form of an envelope, but for its first byte. -/
theorem shape_ex (s : ByteArray) (h : 49 ≤ s.size) : ∃ (x : UInt8) (e : Nat) (C D T : ByteArray), e < 4294967296 ∧ C.size = 12 ∧ T.size = 32 ∧ D.size + 49 = s.size ∧ s = env5 (b1 x) (t4 e) C D T := by
  obtain ⟨l, hl⟩ : ∃ l, s.data.toList = l := ⟨_, rfl⟩
  have hs : l.length = s.size := by rw [← hl, size_list]
  cases l with
  | nil => simp at hs; omega
  | cons x r =>
    rw [List.length_cons] at hs
    refine ⟨x, num (r.take 4), ⟨((r.drop 4).take 12).toArray⟩, ⟨((r.drop 16).take (s.size - 49)).toArray⟩, ⟨(r.drop (s.size - 33)).toArray⟩, num_lt 4 _ (by rw [List.length_take]; omega), ?_, ?_, ?_, ?_⟩
    · rw [txt_size, List.length_take, List.length_drop]; omega
    · rw [txt_size, List.length_drop]; omega
    · rw [txt_size, List.length_take, List.length_drop]; omega
    · apply ByteArray.ext
      apply Array.toList_inj.1
      rw [hl]
      unfold env5 b1 t4
      simp only [be_num (r.take 4) 4 (by rw [List.length_take]; omega)]
      have e1 : (r.drop 16).take (s.size - 49) ++ r.drop (s.size - 33) = r.drop 16 := by
        have : r.drop (s.size - 33) = (r.drop 16).drop (s.size - 49) := by rw [List.drop_drop]; congr 1; omega
        rw [this, List.take_append_drop]
      have e2 : (r.drop 4).take 12 ++ r.drop 16 = r.drop 4 := by
        have : r.drop 16 = (r.drop 4).drop 12 := by rw [List.drop_drop]
        rw [this, List.take_append_drop]
      rw [e1, e2, List.take_append_drop]
      rfl
section
variable {x : UInt8} {e : Nat} {C D T : ByteArray}
theorem partsOf_env (hC : C.size = 12) (hT : T.size = 32) (hD : D.size ≤ 140737488351232) (w : World) :
    Calls Tryz.prog 87 #[.string (env5 (b1 x) (t4 e) C D T)] w fun r w' => r = .returned (.agg #[.string (b1 x), .string (t4 e), .string C, .string D, .string T]) ∧ Ext w w' := by
  have h := partsOf_cut w [x] (be 4 e) C.data.toList D.data.toList T.data.toList rfl (be_length 4 e) (by rw [size_list]; exact hC) (by rw [size_list]; exact hT) (by rw [size_list]; exact hD)
  rw [string_of, string_of, string_of] at h
  exact h
theorem size_lit (n : Nat) (k : Int) (hk : 17 + (n : Int) + 32 = k) (h : n ≤ 140737488351232) (w : World) :
    Calls Tryz.prog 119 #[.int .i64 (n : Int)] w fun e w' => e = .returned (.int .i64 k) ∧ w = w' := by subst hk; exact Size_any n h w
theorem size_zero (w : World) : Calls Tryz.prog 119 #[.int .i64 0] w fun e w' => e = .returned (.int .i64 49) ∧ w = w' := size_lit 0 49 (by decide) (by omega) w
theorem size_max (w : World) : Calls Tryz.prog 119 #[.int .i64 1048576] w fun e w' => e = .returned (.int .i64 1048625) ∧ w = w' := size_lit 1048576 1048625 (by decide) (by omega) w
theorem epoch_len (s : ByteArray) (h : s.size < 49 ∨ 1048625 < s.size) (w : World) :
    Calls Tryz.prog 85 #[.string s] w fun r w' => r = .returned (.tuple #[.int .u32 0, .int .i64 7]) ∧ w = w' := by
  by_cases h1 : s.size < 49
  · have h1i : (s.size : Int) < 49 := by omega
    go_enter Tryz.func85, Tryz.ntmps85
    go_wp2_with (first
      | (go_at_call 119; (with_reducible refine (size_zero _).mono ?_); rintro e w1 ⟨rfl, rfl⟩)
      | (go_at_call 119; (with_reducible refine (size_max _).mono ?_); rintro e w1 ⟨rfl, rfl⟩))
    go_ret2
    exact ⟨rfl, rfl⟩
  · have h1i : ¬ (s.size : Int) < 49 := by omega
    have h2i : (1048625 : Int) < (s.size : Int) := by omega
    go_enter Tryz.func85, Tryz.ntmps85
    go_wp2_with (first
      | (go_at_call 119; (with_reducible refine (size_zero _).mono ?_); rintro e w1 ⟨rfl, rfl⟩)
      | (go_at_call 119; (with_reducible refine (size_max _).mono ?_); rintro e w1 ⟨rfl, rfl⟩))
    go_ret2
    exact ⟨rfl, rfl⟩
theorem b1_ne (hx : x ≠ 1) : ((b1 x).toList == [1]) = false := by
  rw [beq_eq_false_iff_ne, ByteArray.toList_eq]
  intro q
  unfold b1 at q
  simp at q
  exact hx q
theorem epoch_first (hC : C.size = 12) (hT : T.size = 32) (hD : D.size ≤ 1048576) (hx : x ≠ 1) (w : World) :
    Calls Tryz.prog 85 #[.string (env5 (b1 x) (t4 e) C D T)] w fun r w' => r = .returned (.tuple #[.int .u32 0, .int .i64 7]) ∧ Ext w w' := by
  have hz := env5_size (b1 x) (t4 e) C D T
  rw [t4_size, hC, hT, show (b1 x).size = 1 from rfl] at hz
  have HP := Lib.hid (partsOf_env (x := x) (e := e) hC hT (D := D) (by omega) w)
  have hne := b1_ne hx
  have hne2 : ¬ (b1 x).toList = [1] := by simpa using hne
  generalize env5 (b1 x) (t4 e) C D T = S at *
  generalize b1 x = F at *
  generalize t4 e = E at *
  have h1i : ¬ (S.size : Int) < 49 := by omega
  have h2i : ¬ (1048625 : Int) < (S.size : Int) := by omega
  clear hz hC hT hD
  go_enter Tryz.func85, Tryz.ntmps85
  go_wp2_with (first
    | (go_at_call 119; (with_reducible refine (size_zero _).mono ?_); rintro e w1 ⟨rfl, rfl⟩)
    | (go_at_call 119; (with_reducible refine (size_max _).mono ?_); rintro e w1 ⟨rfl, rfl⟩)
    | (go_at_call 87; refine (HP.out).mono ?_; rintro e w2 ⟨rfl, x2⟩; have p2 := Blk.new w2 [.string F, .string E, .string C, .string D, .string T] 120; have a0 := p2.cell 0 _ rfl; have y2 := x2.alloc (.cells #[.string F, .string E, .string C, .string D, .string T] 120); clear p2))
  go_ret2
  exact ⟨rfl, y2⟩
theorem epoch_yes (he : e < 4294967296) (hC : C.size = 12) (hT : T.size = 32) (hD : D.size ≤ 1048576) (w : World) :
    Calls Tryz.prog 85 #[.string (env5 t1 (t4 e) C D T)] w fun r w' => r = .returned (.tuple #[.int .u32 (e : Int), .int .i64 0]) ∧ Ext w w' := by
  have hz := env5_size t1 (t4 e) C D T
  rw [t4_size, hC, hT, show t1.size = 1 from rfl] at hz
  have HP := Lib.hid (partsOf_env (x := 1) (e := e) hC hT (D := D) (by omega) w)
  have HG := Lib.hid (fun u => by
    have := Get32_any ⟨(be 4 e).toArray⟩ 0 (by rw [txt_size, be_length]; omega) u
    rw [(getK_be e he).1, (getK_be e he).2] at this
    exact this)
  rw [show b1 1 = t1 from rfl] at HP
  rw [show (⟨(be 4 e).toArray⟩ : ByteArray) = t4 e by unfold t4; rfl] at HG
  generalize env5 t1 (t4 e) C D T = S at *
  generalize t4 e = E at *
  have h1i : ¬ (S.size : Int) < 49 := by omega
  have h2i : ¬ (1048625 : Int) < (S.size : Int) := by omega
  clear hz hC hT hD
  unfold t1 at *
  go_enter Tryz.func85, Tryz.ntmps85
  go_wp2_with (first
    | (go_at_call 119; (with_reducible refine (size_zero _).mono ?_); rintro e w1 ⟨rfl, rfl⟩)
    | (go_at_call 119; (with_reducible refine (size_max _).mono ?_); rintro e w1 ⟨rfl, rfl⟩)
    | (go_at_call 87; refine (HP.out).mono ?_; rintro e w2 ⟨rfl, x2⟩; have p2 := Blk.new w2 [.string ⟨#[1]⟩, .string E, .string C, .string D, .string T] 120; have a0 := p2.cell 0 _ rfl; have a1 := p2.cell 1 _ rfl; have y2 := x2.alloc (.cells #[.string ⟨#[1]⟩, .string E, .string C, .string D, .string T] 120); clear p2)
    | (go_at_call 120; refine (HG.out _).mono ?_; rintro e w3 ⟨rfl, rfl⟩))
  go_ret2
  exact ⟨rfl, y2⟩
end
end Go.Proofs.YtobhbppogeghnaaGreatDoor
end

section
namespace Go.Proofs.YtobhbppogeghnaaGreatDoor
open Go.RowKit
attribute [local irreducible] rkey expand enc dec ctrB ctrC ctrL xorL turnL turnT kd t4 t8 env5 chk

section
variable {r b : Nat} {L : List (Nat × ByteArray)}
/-- What Epoch refuses Open refuses. -/
theorem open_form (w : World) (h : IsK w r b L) (path : ByteArray) (v : Int) (s : ByteArray) (hE : ∀ u, Calls Tryz.prog 85 #[.string s] u fun r w' => r = .returned (.tuple #[.int .u32 0, .int .i64 7]) ∧ Ext u w') :
    Calls Tryz.prog 49 #[.pointer (some ⟨r, 0, none⟩), .string path, .int .u64 v, .string s] w fun e w' => e = .returned (.tuple #[.string ⟨#[]⟩, .int .i64 7]) ∧ Ext w w' := by
  have HT := Lib.hid (there_yes14 w r b L h)
  have HE := Lib.hid hE
  clear h hE
  go_enter Tryz.func49, Tryz.ntmps49
  go_wp2_with (first
    | (go_at_call 75; refine (HT.out).mono ?_; rintro e w1 ⟨rfl, x1⟩)
    | (go_at_call 85; refine (HE.out _).mono ?_; rintro e w2 ⟨rfl, x2⟩))
  go_ret2
  exact ⟨rfl, x1.trans x2⟩
variable {e : Nat} {C D T : ByteArray}
theorem open_epoch (w : World) (h : IsK w r b L) (path : ByteArray) (v : Int) (he : e < 4294967296) (hC : C.size = 12) (hT : T.size = 32) (hD : D.size ≤ 1048576) (hp : path.size ≤ 1048576) (hn : e ∉ eps L) :
    Calls Tryz.prog 49 #[.pointer (some ⟨r, 0, none⟩), .string path, .int .u64 v, .string (env5 t1 (t4 e) C D T)] w fun x w' => x = .returned (.tuple #[.string ⟨#[]⟩, .int .i64 140]) ∧ Ext w w' := by
  have HT := Lib.hid (there_yes14 w r b L h)
  have HE := Lib.hid (fun u => epoch_yes he hC hT hD u)
  have HK := Lib.hid h
  have HKy := Lib.hid (fun u (hu : IsK u r b L) => keys_no u r b L hu e he hn)
  have hpi : ¬ (1048576 : Int) < (path.size : Int) := by omega
  generalize env5 t1 (t4 e) C D T = S at *
  clear h hC hT hD hn
  go_enter Tryz.func49, Tryz.ntmps49
  go_wp2_with (first
    | (go_at_call 75; refine (HT.out).mono ?_; rintro e w1 ⟨rfl, x1⟩)
    | (go_at_call 85; refine (HE.out _).mono ?_; rintro e w2 ⟨rfl, x2⟩; have y2 := x1.trans x2)
    | (go_at_call 77; refine (HKy.out _ (HK.out.ext y2)).mono ?_; rintro e w3 ⟨rfl, x3⟩))
  go_ret2
  exact ⟨rfl, y2.trans x3⟩
/-- What Open answers where there is a key: by whether the tag is right. -/
def OpenE (ok : Bool) (X : ByteArray) : Value := if ok then .tuple #[.string X, .int .i64 0] else .tuple #[.string ⟨#[]⟩, .int .i64 141]
set_option maxRecDepth 100000 in
set_option maxHeartbeats 4000000 in
theorem open_key (w : World) (hL : Laid w) (h : IsK w r b L) (s : ByteArray) (hm : (e, s) ∈ L) (path : ByteArray) (v : Nat) (hC : C.size = 12) (hT : T.size = 32) (hD : D.size ≤ 1048576) (hp : path.size ≤ 1048576) :
    Calls Tryz.prog 49 #[.pointer (some ⟨r, 0, none⟩), .string path, .int .u64 (v : Int), .string (env5 t1 (t4 e) C D T)] w fun x w' => x = .returned (OpenE (chk T.data.toList (tagT (kd s tagB 32) path v t1 (t4 e) C D).data.toList) (turnT (kd s cipB 16) C 0 D)) ∧ Ext w w' := by
  have he : e < 4294967296 := (h.good.each _ hm).2.1
  have HTh := Lib.hid (there_yes14 w r b L h)
  have HE := Lib.hid (fun u => epoch_yes he hC hT hD u)
  have HP := Lib.hid (fun u => partsOf_env (x := 1) (e := e) hC hT (D := D) (by omega) u)
  rw [show b1 1 = t1 from rfl] at HP
  have HK := Lib.hid h
  have hk1 : (kd s cipB 16).size = 16 := kd_size _ _ _ (by omega)
  have hk2 : (kd s tagB 32).size = 32 := kd_size _ _ _ (by omega)
  have HKy := Lib.hid (fun u (hx : Ext w u) (hu : IsK u r b L) => keys_yes u r b L (hL.ext hx) hu e s hm)
  have HTu := Lib.hid (fun u => turnT_to (kd s cipB 16) C 0 D hk1 hC hD (by unfold blocksOf; omega) (by omega) u)
  have hck : ∀ (u : World) (g c : Nat), Ext w u → Texts u ⟨g, 0, none⟩ ([t4 path.size, path, t8 v] ++ [t1, t4 e, C, D]) →
      Calls Tryz.prog 88 #[.string (kd s tagB 32), .string T, .slice (some ⟨g, 0, none⟩) 7 c] u fun x w' => x = .returned (.bool (chk T.data.toList (tagT (kd s tagB 32) path v t1 (t4 e) C D).data.toList)) ∧ Ext u w' := fun u g c hx hTx =>
    Check_any u _ _ _ [t4 path.size, path, t8 v, t1, t4 e, C, D] (hL.ext hx) (by rw [hk2]; omega) (by omega) (.inr ⟨⟨g, 0, none⟩, c, rfl, hTx, by simp⟩) (by
      rw [joinL_7, t4_size, t8_size, t4_size, hC]
      have : t1.size = 1 := rfl
      omega)
  have HCk := Lib.hid hck
  have HA := Lib.hid (fun u A B C D T => ahead_any u A B C D T)
  have HG := Lib.hid (fun u g (hb : Blk u g 9 ([t1, t4 e, C, D].map Value.string)) => tagged_any u path v g _ hp hb rfl)
  have hpi : ¬ (1048576 : Int) < (path.size : Int) := by omega
  clear h hL hm hk1 hk2 hck hC hT hD hp
  generalize env5 t1 (t4 e) C D T = S at *
  unfold t1 at *
  generalize chk T.data.toList (tagT (kd s tagB 32) path v ⟨#[1]⟩ (t4 e) C D).data.toList = ok at *
  generalize turnT (kd s cipB 16) C 0 D = X at *
  generalize kd s cipB 16 = K1 at *
  generalize kd s tagB 32 = K2 at *
  generalize t4 e = E at *
  go_enter Tryz.func49, Tryz.ntmps49
  go_upto_region 12 with (first
    | (go_at_call 75; refine (HTh.out).mono ?_; rintro e w1 ⟨rfl, x1⟩)
    | (go_at_call 85; refine (HE.out _).mono ?_; rintro e w2 ⟨rfl, x2⟩; have y2 := x1.trans x2)
    | (go_at_call 77; refine (HKy.out _ y2 (HK.out.ext y2)).mono ?_; rintro e w3 ⟨rfl, x3⟩; have y3 := y2.trans x3)
    | (go_at_call 87; refine (HP.out _).mono ?_; rintro e w4 ⟨rfl, x4⟩; have y4 := y3.trans x4))
  have p4 := Blk.new w4 [.string ⟨#[1]⟩, .string E, .string C, .string D, .string T] 120
  have y5 := y4.alloc (.cells #[.string ⟨#[1]⟩, .string E, .string C, .string D, .string T] 120)
  generalize w4.alloc (.cells #[.string ⟨#[1]⟩, .string E, .string C, .string D, .string T] 120) = W at *
  generalize w4.heap.size = P at *
  have HKeep : Hid (∀ u, Ext W u → u.cell? ⟨P, 0, none⟩ = some (.string ⟨#[1]⟩) ∧ u.cell? ⟨P, 1, none⟩ = some (.string E) ∧ u.cell? ⟨P, 2, none⟩ = some (.string C) ∧ u.cell? ⟨P, 3, none⟩ = some (.string D) ∧ u.cell? ⟨P, 4, none⟩ = some (.string T) ∧ Ext W u) :=
    Lib.hid fun u hu => ⟨(p4.ext hu).cell 0 _ rfl, (p4.ext hu).cell 1 _ rfl, (p4.ext hu).cell 2 _ rfl, (p4.ext hu).cell 3 _ rfl, (p4.ext hu).cell 4 _ rfl, hu⟩
  have hS := HKeep.out W.drew (Ext.refl W).drew
  have Y5 := Lib.hid y5
  clear p4 y5 x1 x2 x3 x4 y2 y3 y4
  go_region_held3 (fun u => u.cell? ⟨P, 0, none⟩ = some (.string ⟨#[1]⟩) ∧ u.cell? ⟨P, 1, none⟩ = some (.string E) ∧ u.cell? ⟨P, 2, none⟩ = some (.string C) ∧ u.cell? ⟨P, 3, none⟩ = some (.string D) ∧ u.cell? ⟨P, 4, none⟩ = some (.string T) ∧ Ext W u) (first | exact hS | exact hS1 | exact hS2 | exact hS3 | assumption | exact HKeep.out _ (by repeat' (first | assumption | exact Ext.refl _ | refine Ext.drew ?_ | refine Ext.alloc ?_ _)) | go_keep) (first
    | (go_at_call 82; refine (HA.out _ _ _ _ _ _).mono ?_; rintro e w6 ⟨g6, rfl, b6, q6, x6⟩; have y6 := Ext.trans (a := W) (by repeat' (first | assumption | exact Ext.refl _ | refine Ext.drew ?_ | refine Ext.alloc ?_ _)) x6; have hS1 := HKeep.out _ y6)
    | (go_at_call 81; refine (HG.out _ _ (b6.ext (by repeat' (first | assumption | exact Ext.refl _ | refine Ext.drew ?_ | refine Ext.alloc ?_ _)))).mono ?_; rintro e w7 ⟨g7, c7, rfl, k7, x7⟩; have y7 := y6.trans x7; have hS2 := HKeep.out _ y7)
    | (go_at_call 88; refine (HCk.out _ _ _ (Y5.out.trans y7) k7).mono ?_; rintro e w8 ⟨rfl, x8⟩; have y8 := y7.trans x8; have hS3 := HKeep.out _ y8))
  all_goals
    clear hS hS1 hS2
    obtain ⟨c0, c1, c2, c3, c4, _⟩ := hS3
    cases ok
    · go_wp2
      go_ret2
      exact ⟨rfl, Y5.out.trans y8⟩
    · go_wp2_with (go_at_call 78; refine (HTu.out _).mono ?_; rintro e w9 ⟨rfl, x9⟩)
      go_ret2
      exact ⟨rfl, Y5.out.trans (y8.trans x9)⟩
end
end Go.Proofs.YtobhbppogeghnaaGreatDoor
end

section
namespace Go.Proofs.YtobhbppogeghnaaGreatDoor
open Go.RowKit

theorem chk_self (m : List UInt8) (h : m.length = 32) : chk m m = true := by
  unfold chk
  rw [h]
  simp [List.take_of_length_le (Nat.le_of_eq h)]
attribute [local irreducible] rkey expand enc dec ctrB ctrC ctrL xorL turnL turnT kd t4 t8 env5 chk tagT
theorem open_sealed (w : World) (r b : Nat) (L : List (Nat × ByteArray)) (hL : Laid w) (h : IsK w r b L) (e : Nat) (s : ByteArray) (hm : (e, s) ∈ L) (path : ByteArray) (v : Nat) (nonce text : ByteArray) (hn : nonce.size = 12) (hp : path.size ≤ 1048576) (ht : text.size ≤ 1048576) :
    Calls Tryz.prog 49 #[.pointer (some ⟨r, 0, none⟩), .string path, .int .u64 (v : Int), .string (sealT s e path v nonce text)] w fun x w' => x = .returned (.tuple #[.string text, .int .i64 0]) ∧ Ext w w' := by
  have hk1 : (kd s cipB 16).size = 16 := kd_size _ _ _ (by omega)
  have h1 := open_key w hL h s hm path v (C := nonce) (D := turnT (kd s cipB 16) nonce 0 text) (T := tagT (kd s tagB 32) path v t1 (t4 e) nonce (turnT (kd s cipB 16) nonce 0 text)) hn (tagT_size _ _ _ _ _ _ _) (by rw [turnT_size _ _ _ _ hk1]; exact ht) hp
  rw [chk_self _ (by rw [size_list]; exact tagT_size _ _ _ _ _ _ _), turnT_twice _ _ _ _ hk1] at h1
  exact h1
end Go.Proofs.YtobhbppogeghnaaGreatDoor
end

section
namespace Go.Proofs.YtobhbppogeghnaaGreatDoor
open Go.RowKit

/-- A share's bytes. -/
def shareT (i n : Nat) (s : ByteArray) : ByteArray := ⟨(UInt8.ofNat i :: UInt8.ofNat n :: s.data.toList).toArray⟩
/-- The bytes of the shares that texts are. -/
def sharesT (n : Nat) (l : List ByteArray) : List ByteArray := l.mapIdx fun i s => shareT (i + 1) n s
theorem sharesT_length (n : Nat) (l : List ByteArray) : (sharesT n l).length = l.length := by simp [sharesT]
theorem sharesT_take (n : Nat) (l : List ByteArray) (j : Nat) (s : ByteArray) (h : l[j]? = some s) : (sharesT n l).take (j + 1) = (sharesT n l).take j ++ [shareT (j + 1) n s] := by
  rw [List.take_add_one]
  congr 1
  simp [sharesT, h]
/-- A text, either or all of them. -/
def xorAll (s : List UInt8) (l : List ByteArray) : List UInt8 := l.foldl (fun a b => xorL a b.data.toList) s
theorem xorAll_step (s : List UInt8) (l : List ByteArray) (j : Nat) (b : ByteArray) (h : l[j]? = some b) : xorAll s (l.take (j + 1)) = xorL (xorAll s (l.take j)) b.data.toList := by
  unfold xorAll
  rw [List.take_add_one, h]
  simp
theorem xorAll_length {n : Nat} : ∀ (l : List ByteArray) (s : List UInt8), s.length = n → (∀ b, b ∈ l → b.size = n) → (xorAll s l).length = n
  | [], _, h, _ => h
  | b :: r, s, h, hl => by
    have e : (xorL s b.data.toList).length = n := by unfold xorL; rw [List.length_zipWith, h, size_list, hl b (by simp)]; omega
    exact xorAll_length r _ e (fun c hc => hl c (by simp [hc]))
/-- The shares of a secret by texts. -/
def splitT (secret : ByteArray) (l : List ByteArray) : List ByteArray := sharesT (l.length + 1) l ++ [shareT (l.length + 1) (l.length + 1) ⟨(xorAll secret.data.toList l).toArray⟩]
theorem share_cat (i n : Nat) (x y : UInt8) (s : ByteArray) (hx : x = UInt8.ofNat i) (hy : y = UInt8.ofNat n) : (⟨#[x, y]⟩ : ByteArray) ++ s = shareT i n s := by
  subst hx hy
  unfold shareT
  apply ByteArray.ext
  rw [ByteArray.data_append]
  simp
end Go.Proofs.YtobhbppogeghnaaGreatDoor
end

section
namespace Go.Proofs.YtobhbppogeghnaaGreatDoor
open Go.RowKit
/-- Shares' texts. -/
def txtsOf (L : List (Nat × ByteArray)) : List ByteArray := L.map (·.2)

theorem xs_comm : ∀ (a b : List UInt8), xorL a b = xorL b a
  | [], b => by cases b <;> simp [xorL]
  | x :: a, [] => by simp [xorL]
  | x :: a, y :: b => by
    have ih := xs_comm a b
    unfold xorL at ih ⊢
    rw [List.zipWith_cons_cons, List.zipWith_cons_cons, ih, UInt8.xor_comm]
theorem xs_assoc : ∀ (a b c : List UInt8), xorL (xorL a b) c = xorL a (xorL b c)
  | [], b, c => by simp [xorL]
  | x :: a, [], c => by simp [xorL]
  | x :: a, y :: b, [] => by simp [xorL]
  | x :: a, y :: b, z :: c => by
    have ih := xs_assoc a b c
    unfold xorL at ih ⊢
    rw [List.zipWith_cons_cons, List.zipWith_cons_cons, List.zipWith_cons_cons, List.zipWith_cons_cons, ih, UInt8.xor_assoc]
theorem xs_self_left : ∀ (a b : List UInt8), a.length = b.length → xorL a (xorL a b) = b
  | [], b, h => by
    have : b = [] := by cases b with | nil => rfl | cons _ _ => simp at h
    subst this; rfl
  | x :: a, [], h => by simp at h
  | x :: a, y :: b, h => by
    have ih := xs_self_left a b (by simpa using h)
    unfold xorL at ih ⊢
    rw [List.zipWith_cons_cons, List.zipWith_cons_cons, ih, ← UInt8.xor_assoc, UInt8.xor_self, UInt8.zero_xor]
/-- Nothing, either or a text. -/
theorem xs_zero : ∀ (b : List UInt8), xorL (List.replicate b.length 0) b = b
  | [] => rfl
  | y :: b => by
    have ih := xs_zero b
    unfold xorL at ih ⊢
    rw [List.length_cons, List.replicate_succ, List.zipWith_cons_cons, ih, UInt8.zero_xor]
theorem xorAll_cons (a : List UInt8) (b : ByteArray) (r : List ByteArray) : xorAll a (b :: r) = xorAll (xorL a b.data.toList) r := rfl
theorem xorAll_nil (a : List UInt8) : xorAll a [] = a := rfl
theorem xorAll_append (a : List UInt8) (l r : List ByteArray) : xorAll a (l ++ r) = xorAll (xorAll a l) r := by unfold xorAll; rw [List.foldl_append]
theorem xorAll_out (r : List ByteArray) : ∀ (a b : List UInt8), xorAll (xorL a b) r = xorL a (xorAll b r) := by
  induction r with
  | nil => exact fun a b => rfl
  | cons c r ih => exact fun a b => by rw [xorAll_cons, xorAll_cons, xs_assoc, ih]
theorem xorAll_perm {l r : List ByteArray} (h : l.Perm r) : ∀ a, xorAll a l = xorAll a r := by
  induction h with
  | nil => exact fun a => rfl
  | cons x _ ih => exact fun a => ih _
  | swap x y l =>
    intro a
    rw [xorAll_cons, xorAll_cons, xorAll_cons, xorAll_cons, xs_assoc, xs_assoc, xs_comm y.data.toList]
  | trans _ _ ih1 ih2 => exact fun a => (ih1 a).trans (ih2 a)
/-- All of a row, either or. -/
theorem xorAll_head (m : Nat) (x : ByteArray) (r : List ByteArray) (hx : x.size = m) : xorAll x.data.toList r = xorAll (List.replicate m 0) (x :: r) := by
  rw [xorAll_cons]
  have e : List.replicate m (0 : UInt8) = List.replicate x.data.toList.length 0 := by rw [size_list, hx]
  rw [e, xs_zero]
theorem xorAll_rows {m : Nat} {x y : ByteArray} {l r : List ByteArray} (h : (x :: l).Perm (y :: r)) (hx : x.size = m) (hy : y.size = m) : xorAll x.data.toList l = xorAll y.data.toList r := by
  rw [xorAll_head m x l hx, xorAll_head m y r hy, xorAll_perm h]
/-- The last share. -/
def lastT (secret : ByteArray) (l : List ByteArray) : ByteArray := ⟨(xorAll secret.data.toList l).toArray⟩
theorem lastT_size (secret : ByteArray) (l : List ByteArray) (hl : ∀ s ∈ l, s.size = secret.size) : (lastT secret l).size = secret.size := by
  unfold lastT
  rw [txt_size, xorAll_length l _ (size_list _) hl]
/-- All shares' texts. -/
def allT (secret : ByteArray) (l : List ByteArray) : List ByteArray := l ++ [lastT secret l]
theorem allT_length (secret : ByteArray) (l : List ByteArray) : (allT secret l).length = l.length + 1 := by simp [allT]
theorem allT_size (secret : ByteArray) (l : List ByteArray) (hl : ∀ s ∈ l, s.size = secret.size) : ∀ s ∈ allT secret l, s.size = secret.size := by
  intro s hs
  rcases List.mem_append.1 hs with hs | hs
  · exact hl s hs
  · rw [List.mem_singleton] at hs; subst hs; exact lastT_size secret l hl
theorem zero_length (m : Nat) (l : List ByteArray) (h : ∀ s ∈ l, s.size = m) : (xorAll (List.replicate m 0) l).length = m := xorAll_length l _ (by simp) h
/-- All of them are the secret. -/
theorem allT_sum (secret : ByteArray) (l : List ByteArray) (hl : ∀ s ∈ l, s.size = secret.size) : xorAll (List.replicate secret.size 0) (allT secret l) = secret.data.toList := by
  have hz := zero_length _ l hl
  have e : (lastT secret l).data.toList = xorL (xorAll (List.replicate secret.size 0) l) secret.data.toList := by
    have e1 : (lastT secret l).data.toList = xorAll secret.data.toList l := by simp [lastT]
    have e2 : xorAll secret.data.toList l = xorAll (xorL secret.data.toList (List.replicate secret.size 0)) l := by
      rw [xs_comm secret.data.toList, ← size_list, xs_zero]
    rw [e1, e2, xorAll_out, xs_comm]
  unfold allT
  rw [xorAll_append, xorAll_cons, xorAll_nil, e, xs_self_left]
  rw [hz, size_list]
theorem allT_secret (secret : ByteArray) (l : List ByteArray) (hl : ∀ s ∈ l, s.size = secret.size) (s0 : ByteArray) (St : List ByteArray) (h : allT secret l = s0 :: St) : xorAll s0.data.toList St = secret.data.toList := by
  rw [xorAll_head secret.size s0 St (allT_size secret l hl s0 (by rw [h]; simp)), ← h, allT_sum secret l hl]
/-- The share that another secret wants in the place of one. -/
def otherT (secret o s : ByteArray) : ByteArray := ⟨(xorL (xorL s.data.toList secret.data.toList) o.data.toList).toArray⟩
/-! ### Rows that are whole -/
theorem hole : ∀ (n : Nat) (K : List Nat), K.Pairwise (· ≠ ·) → (∀ k ∈ K, 1 ≤ k ∧ k ≤ n) → K.length ≤ n
  | 0, K, _, hk => by
    cases K with
    | nil => simp
    | cons a r => have := hk a (by simp); omega
  | n + 1, K, hp, hk => by
    by_cases hm : n + 1 ∈ K
    · obtain ⟨l1, l2, rfl⟩ := List.append_of_mem hm
      have hp2 : (l1 ++ l2).Pairwise (· ≠ ·) := hp.sublist (List.Sublist.append_left (List.sublist_cons_self _ _) _)
      have h1 := hole n (l1 ++ l2) hp2 (fun k hkm => by
        have hkm2 : k ∈ l1 ++ (n + 1) :: l2 := by
          rcases List.mem_append.1 hkm with h | h
          · exact List.mem_append_left _ h
          · exact List.mem_append_right _ (List.mem_cons_of_mem _ h)
        have h2 := hk k hkm2
        have h3 : k ≠ n + 1 := by
          rw [List.pairwise_append] at hp
          rcases List.mem_append.1 hkm with h | h
          · exact hp.2.2 k h (n + 1) (by simp)
          · have := (List.pairwise_cons.1 hp.2.1).1 k h
            exact Ne.symm this
        omega)
      simp at h1 ⊢
      omega
    · have h1 := hole n K hp (fun k hkm => by
        have h2 := hk k hkm
        have h3 : k ≠ n + 1 := fun e => hm (e ▸ hkm)
        omega)
      omega
/-- As many shares as there are: the row in its order. -/
theorem whole : ∀ (n : Nat) (L : List (Nat × ByteArray)), L.Pairwise (fun x y => x.1 ≠ y.1) → (∀ x ∈ L, 1 ≤ x.1 ∧ x.1 ≤ n) → L.length = n →
    ∃ S : List ByteArray, S.length = n ∧ (∀ (j : Nat) (s : ByteArray), S[j]? = some s → (j + 1, s) ∈ L) ∧ S.Perm (txtsOf L)
  | 0, L, _, _, hl => by
    have : L = [] := List.length_eq_zero_iff.1 hl
    subst this
    exact ⟨[], rfl, by simp, List.Perm.refl _⟩
  | n + 1, L, hp, hk, hl => by
    have hm : ∃ s, (n + 1, s) ∈ L := by
      apply Classical.byContradiction
      intro hno
      have h1 := hole n (L.map (·.1)) (by rw [List.pairwise_map]; exact hp) (fun k hkm => by
        obtain ⟨x, hx, rfl⟩ := List.mem_map.1 hkm
        have h2 := hk x hx
        have h3 : x.1 ≠ n + 1 := fun e => hno ⟨x.2, by rw [← e]; exact hx⟩
        omega)
      rw [List.length_map] at h1
      omega
    obtain ⟨s, hs⟩ := hm
    obtain ⟨l1, l2, rfl⟩ := List.append_of_mem hs
    have hp2 : (l1 ++ l2).Pairwise (fun x y => x.1 ≠ y.1) := hp.sublist (List.Sublist.append_left (List.sublist_cons_self _ _) _)
    obtain ⟨S, h1, h2, h3⟩ := whole n (l1 ++ l2) hp2 (fun x hx => by
      have hx2 : x ∈ l1 ++ (n + 1, s) :: l2 := by
        rcases List.mem_append.1 hx with h | h
        · exact List.mem_append_left _ h
        · exact List.mem_append_right _ (List.mem_cons_of_mem _ h)
      have q := hk x hx2
      have h3 : x.1 ≠ n + 1 := by
        rw [List.pairwise_append] at hp
        rcases List.mem_append.1 hx with h | h
        · exact hp.2.2 x h (n + 1, s) (by simp)
        · have := (List.pairwise_cons.1 hp.2.1).1 x h
          exact Ne.symm this
      omega) (by simp at hl ⊢; omega)
    refine ⟨S ++ [s], by simp [h1], fun j t hj => ?_, ?_⟩
    · rw [List.getElem?_append] at hj
      split at hj
      · have q := h2 j t hj
        rcases List.mem_append.1 q with h | h
        · exact List.mem_append_left _ h
        · exact List.mem_append_right _ (List.mem_cons_of_mem _ h)
      · rename_i hge
        have hj2 : j - S.length < 1 := by
          have := (List.getElem?_eq_some_iff.1 hj).1
          simpa using this
        have e : j = n := by omega
        subst e
        have e0 : j - S.length = 0 := by omega
        rw [e0] at hj
        simp at hj
        subst hj
        simp
    · unfold txtsOf at h3 ⊢
      rw [List.map_append] at h3 ⊢
      rw [List.map_cons]
      exact (List.perm_append_comm.trans (List.Perm.cons s h3)).trans (List.perm_middle.symm)
end Go.Proofs.YtobhbppogeghnaaGreatDoor
end

section
namespace Go.Proofs.YtobhbppogeghnaaGreatDoor
open Go.RowKit

/-- What a share's bytes say, if they are a share's: its place, how many there are. -/
def ShareOf (s : ByteArray) (i n : Nat) : Prop := 3 ≤ s.size ∧ s.size ≤ 66 ∧ 1 ≤ n ∧ n ≤ 16 ∧ 1 ≤ i ∧ i ≤ n ∧ ∃ x y : UInt8, s.data.toList[0]? = some x ∧ s.data.toList[1]? = some y ∧ x.toNat = i ∧ y.toNat = n
theorem slice_rest (X : ByteArray) (c : Nat) (h : c ≤ X.size) (u : World) : (Instr.slice 9 (.string X) (some (.int .i64 (c : Int))) none none).run Tryz.prog u = .ok (.string (X.extract c X.size)) u := by
  have hj : (0 : Int) ≤ (c : Int) ∧ (c : Int) ≤ (X.size : Int) := by omega
  simp [Instr.slice, Instr.sliceBounds, Instr.sliceBound, asIntOf, run_underlying Tryz.underlying9, hj]
  intro hgt
  omega
theorem slice_two (X : ByteArray) (h : 2 ≤ X.size) (u : World) : (Instr.slice 9 (.string X) (some (.int .i64 2)) none none).run Tryz.prog u = .ok (.string (X.extract 2 X.size)) u := slice_rest X 2 h u
/-- What is no share's. -/
def NoShare (s : ByteArray) : Prop := ∀ i n, ¬ ShareOf s i n
theorem share_or (s : ByteArray) : (∃ i n, ShareOf s i n) ∨ NoShare s := by
  by_cases h : ∃ i n, ShareOf s i n
  · exact .inl h
  · exact .inr fun i n hi => h ⟨i, n, hi⟩
end Go.Proofs.YtobhbppogeghnaaGreatDoor
end

section
namespace Go.Proofs.YtobhbppogeghnaaGreatDoor
open Go.RowKit
attribute [local irreducible] xorL xorAll

theorem shareT_size (i n : Nat) (s : ByteArray) : (shareT i n s).size = s.size + 2 := by
  unfold shareT
  rw [txt_size, List.length_cons, List.length_cons, size_list]
theorem shareT_rest (i n : Nat) (s : ByteArray) : (shareT i n s).extract 2 (shareT i n s).size = s := by
  rw [shareT_size]
  apply ByteArray.ext
  simp [shareT]
  rw [List.take_of_length_le (by rw [size_list]; exact Nat.le_refl _)]
theorem shareT_of (i n : Nat) (s : ByteArray) (h1 : 1 ≤ i) (h2 : i ≤ n) (h3 : n ≤ 16) (h4 : 1 ≤ s.size) (h5 : s.size ≤ 64) : ShareOf (shareT i n s) i n := by
  refine ⟨by rw [shareT_size]; omega, by rw [shareT_size]; omega, by omega, h3, h1, h2, UInt8.ofNat i, UInt8.ofNat n, rfl, rfl, ?_, ?_⟩
  · rw [UInt8.toNat_ofNat']; omega
  · rw [UInt8.toNat_ofNat']; omega
theorem splitT_all (secret : ByteArray) (l : List ByteArray) : splitT secret l = sharesT (l.length + 1) (allT secret l) := by
  unfold splitT allT sharesT lastT
  rw [List.mapIdx_append]
  simp
theorem splitT_length (secret : ByteArray) (l : List ByteArray) : (splitT secret l).length = l.length + 1 := by simp [splitT, sharesT_length]
end Go.Proofs.YtobhbppogeghnaaGreatDoor
end

section
namespace Go.Proofs.YtobhbppogeghnaaGreatDoor
open Go.RowKit

theorem text_add (a : List UInt8) (s : ByteArray) : (⟨a.toArray⟩ : ByteArray) ++ s = ⟨(a ++ s.data.toList).toArray⟩ := by
  have : s = ⟨s.data.toList.toArray⟩ := rfl
  conv => lhs; rw [this]
  exact str_append _ _
theorem one_text2 (x : Int) (b : UInt8) (hx : x = (b.toNat : Int)) (t : TypeId) (u : World) : (convert 43 9 (.slice (some ⟨u.heap.size, 0, none⟩) 1 1)).run Tryz.prog (u.alloc (.cells #[.int .u8 x] t)) = .ok (.string ⟨#[b]⟩) (u.alloc (.cells #[.int .u8 x] t)) := by
  subst hx
  have hr : Row (u.alloc (.cells #[.int .u8 (b.toNat : Int)] t)) u.heap.size t [b] := heap_alloc_new u _
  exact hr.text (P := Tryz.prog) 43 5 9 Tryz.underlying43 Tryz.underlying5 Tryz.underlying9 1 1 rfl
end Go.Proofs.YtobhbppogeghnaaGreatDoor
end
