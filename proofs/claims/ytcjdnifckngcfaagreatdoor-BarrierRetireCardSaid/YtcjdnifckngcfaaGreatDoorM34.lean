/- Contracts: a stream, by the program. Contracts: a text, either or a stream, by the program. What the program's Turn gives, as a text. Contracts: envelopes: Close: by the program. Plain: bytes out of their number. -/
import Derived.Test.YtcjdnifckngcfaaGreatDoorM31
import Derived.Test.YtcjdnifckngcfaaGreatDoorM33
import Derived.Test.YtcjdnifckngcfaaGreatDoorM14
import Derived.Test.YtcjdnifckngcfaaGreatDoorM15
import Derived.Test.YtcjdnifckngcfaaGreatDoorM24
import Derived.Test.YtcjdnifckngcfaaGreatDoorM04
section
namespace Go.Proofs.YtcjdnifckngcfaaGreatDoor
open Go.RowKit Go.Shelf
attribute [local irreducible] rkey expand enc dec ctrB ctrC ctrL

theorem blocks_any (c : Nat) (nonce : ByteArray) (f : Nat) (w : World) :
    Calls Tryz.prog 137 #[.pointer (some ⟨c, 0, none⟩), .string nonce, .int .u32 (f : Int)] w
      fun e w' => e = .returned (.func (.func 161) #[] #[.pointer (some ⟨w.heap.size + 2, 0, none⟩), .pointer (some ⟨w.heap.size, 0, none⟩), .pointer (some ⟨w.heap.size + 1, 0, none⟩)]) ∧
        w' = ((w.alloc (.cells #[.pointer (some ⟨c, 0, none⟩)] 178)).alloc (.cells #[.string nonce] 9)).alloc (.cells #[.int .u32 (f : Int)] 40) := by
  go_enter Tryz.func137, Tryz.ntmps137
  go_wp2
  go_ret
  exact ⟨rfl, rfl⟩
theorem first_made (u : World) (c : Nat) (key : List UInt8) (nonce : ByteArray) (f n : Nat) (hno : nonce.size = 12) (hfl : f < 4294967296) (hn2 : n ≤ 1048576) (hf : f + blocksOf n ≤ 4294967296) (hB : IsCipher u c key) :
    Calls Tryz.prog 136 #[.func (.func 161) #[] #[.pointer (some ⟨u.heap.size + 2, 0, none⟩), .pointer (some ⟨u.heap.size, 0, none⟩), .pointer (some ⟨u.heap.size + 1, 0, none⟩)], .int .i64 (n : Int)]
      (((u.alloc (.cells #[.pointer (some ⟨c, 0, none⟩)] 178)).alloc (.cells #[.string nonce] 9)).alloc (.cells #[.int .u32 (f : Int)] 40))
      fun e w' => e = .returned (.string ⟨(ctrL key nonce.data.toList f n).toArray⟩) ∧ Ext u w' := by
  have z1 : (u.alloc (.cells #[.pointer (some ⟨c, 0, none⟩)] 178)).heap.size = u.heap.size + 1 := by simp
  have z2 : ((u.alloc (.cells #[.pointer (some ⟨c, 0, none⟩)] 178)).alloc (.cells #[.string nonce] 9)).heap.size = u.heap.size + 2 := by simp
  have hx : Ext u (((u.alloc (.cells #[.pointer (some ⟨c, 0, none⟩)] 178)).alloc (.cells #[.string nonce] 9)).alloc (.cells #[.int .u32 (f : Int)] 40)) := (((Ext.refl _).alloc _).alloc _).alloc _
  have b1 := ((Blk.new u [.pointer (some ⟨c, 0, none⟩)] 178).alloc (.cells #[.string nonce] 9)).alloc (.cells #[.int .u32 (f : Int)] 40)
  have b2 := (Blk.new (u.alloc (.cells #[.pointer (some ⟨c, 0, none⟩)] 178)) [.string nonce] 9).alloc (.cells #[.int .u32 (f : Int)] 40)
  have b3 := Blk.new ((u.alloc (.cells #[.pointer (some ⟨c, 0, none⟩)] 178)).alloc (.cells #[.string nonce] 9)) [.int .u32 (f : Int)] 40
  rw [z1] at b2
  rw [z2] at b3
  exact (first_any (u.heap.size + 2) u.heap.size (u.heap.size + 1) c key hB.size nonce f (4294967296 - f) n _ b3.lt b1.lt b2.lt hno (by omega) (by omega) hn2 (by unfold blocksOf at hf; omega) (hB.ext hx) (b3.cell 0 _ rfl) (b1.cell 0 _ rfl) (b2.cell 0 _ rfl)).mono fun e w' h => ⟨h.1, hx.trans h.2⟩
set_option maxRecDepth 100000 in
set_option maxHeartbeats 2000000 in
theorem stream_yes (key nonce : ByteArray) (f n : Nat) (hk : key.size = 16) (hn : nonce.size = 12) (hn2 : n ≤ 1048576) (hfl : f < 4294967296) (hf : f + blocksOf n ≤ 4294967296) (w : World) :
    Calls Tryz.prog 113 #[.string key, .string nonce, .int .u32 (f : Int), .int .i64 (n : Int)] w
      fun e w' => e = .returned (.tuple #[.string ⟨(ctrL key.data.toList nonce.data.toList f n).toArray⟩, .int .i64 0]) ∧ Ext w w' := by
  have hni : ((nonce.size : Int) != 12) = false := by simp [hn]
  have hkl : key.data.toList.length = 16 := by rw [size_list]; exact hk
  have HNew := Lib.hid (fun u => New_yes u key hk)
  have HRoom := Lib.hid (fun u => room_any f hfl u)
  have hw0 : IntKind.u64.wrap (n : Int) = (n : Int) := IntWalk.u64_in _ ⟨by omega, by omega⟩
  obtain ⟨r, hr⟩ : ∃ r : Nat, (4294967296 - f) * 16 = r := ⟨_, rfl⟩
  have hnr : (n : Int) ≤ (r : Int) := by unfold blocksOf at hf; omega
  have hn0 : ¬ (n : Int) < 0 := by omega
  have hn3 : (n : Int) ≤ 1048576 := by omega
  rw [hr] at HRoom
  have HF := Lib.hid (fun u c (gB : IsCipher u c key.data.toList) => first_made u c key.data.toList nonce f n hn hfl hn2 hf gB)
  clear hr hk hn hn2 hfl hf hkl hn0
  go_enter Tryz.func113, Tryz.ntmps113
  go_wp2_with (first
    | (go_at_call 134; refine (HNew.out _).mono ?_; rintro e w1 ⟨c, rfl, hc1, h1x⟩)
    | (go_at_call 135; refine (HRoom.out _).mono ?_; rintro e w2 ⟨rfl, rfl⟩)
    | (go_at_call 137; refine (blocks_any _ _ _ _).mono ?_; rintro e w3 ⟨rfl, rfl⟩)
    | (go_at_call 136; refine (HF.out _ _ hc1).mono ?_; rintro e w4 ⟨rfl, h4x⟩))
  go_ret2
  exact ⟨rfl, h1x.trans h4x⟩
end Go.Proofs.YtcjdnifckngcfaaGreatDoor
end

section
namespace Go.Proofs.YtcjdnifckngcfaaGreatDoor
open Go.RowKit
attribute [local irreducible] rkey expand enc dec ctrB ctrC ctrL xorL

set_option maxRecDepth 100000 in
set_option maxHeartbeats 1000000 in
theorem turn_yes (key nonce s : ByteArray) (f : Nat) (hk : key.size = 16) (hn : nonce.size = 12) (hn2 : s.size ≤ 1048576) (hfl : f < 4294967296) (hf : f + blocksOf s.size ≤ 4294967296) (w : World) :
    Calls Tryz.prog 78 #[.string key, .string nonce, .int .u32 (f : Int), .string s] w
      fun e w' => e = .returned (.tuple #[.string ⟨(turnL key.data.toList nonce.data.toList f s.data.toList).toArray⟩, .int .i64 0]) ∧ Ext w w' := by
  have HS := Lib.hid (fun u => stream_yes key nonce f s.size hk hn hn2 hfl hf u)
  have hkl : key.data.toList.length = 16 := by rw [size_list]; exact hk
  have HX := Lib.hid (fun u => xor_yes s ⟨(ctrL key.data.toList nonce.data.toList f s.size).toArray⟩ ((txt_size _).trans (ctrL_length hkl _ _ _)).symm (by omega) u)
  unfold turnL
  rw [size_list]
  clear hkl
  go_enter Tryz.func78, Tryz.ntmps78
  go_wp2_with (first
    | (go_at_call 113; refine (HS.out _).mono ?_; rintro e w1 ⟨rfl, h1⟩)
    | (go_at_call 108; refine (HX.out _).mono ?_; rintro e w2 ⟨rfl, h2⟩))
  go_ret2
  exact ⟨rfl, h1.trans h2⟩
theorem turn_err (key nonce s : ByteArray) (f : Nat) (c : Int) (hc : (c == 0) = false) (w : World)
    (h : ∀ u, Calls Tryz.prog 113 #[.string key, .string nonce, .int .u32 (f : Int), .int .i64 (s.size : Int)] u fun e w' => e = .returned (.tuple #[.string ⟨#[]⟩, .int .i64 c]) ∧ Ext u w') :
    Calls Tryz.prog 78 #[.string key, .string nonce, .int .u32 (f : Int), .string s] w
      fun e w' => e = .returned (.tuple #[.string ⟨#[]⟩, .int .i64 c]) ∧ Ext w w' := by
  have hne : (c != 0) = true := by simp [bne, hc]
  clear hc
  go_enter Tryz.func78, Tryz.ntmps78
  go_wp2_with (go_at_call 113; refine (h _).mono ?_; rintro e w1 ⟨rfl, h1⟩)
  go_ret2
  exact ⟨rfl, h1⟩
end Go.Proofs.YtcjdnifckngcfaaGreatDoor
end

section
namespace Go.Proofs.YtcjdnifckngcfaaGreatDoor
open Go.RowKit
attribute [local irreducible] rkey expand enc dec ctrB ctrC ctrL xorL turnL

/-- What the program's Turn gives. -/
def TurnsTo (K P : ByteArray) (f : Nat) (S X : ByteArray) : Prop :=
  ∀ u, Calls Tryz.prog 78 #[.string K, .string P, .int .u32 (f : Int), .string S] u fun e w' => e = .returned (.tuple #[.string X, .int .i64 0]) ∧ Ext u w'
theorem TurnsTo.out {K P : ByteArray} {f : Nat} {S X : ByteArray} (h : TurnsTo K P f S X) (u : World) :
    Calls Tryz.prog 78 #[.string K, .string P, .int .u32 (f : Int), .string S] u fun e w' => e = .returned (.tuple #[.string X, .int .i64 0]) ∧ Ext u w' := h u
/-- The text that it gives. -/
def turnT (K P : ByteArray) (f : Nat) (S : ByteArray) : ByteArray := ⟨(turnL K.data.toList P.data.toList f S.data.toList).toArray⟩
theorem turnT_to (K P : ByteArray) (f : Nat) (S : ByteArray) (hK : K.size = 16) (hP : P.size = 12) (hs : S.size ≤ 1048576) (hf : f + blocksOf S.size ≤ 4294967296) (hfl : f < 4294967296) : TurnsTo K P f S (turnT K P f S) :=
  fun u => turn_yes K P S f hK hP hs hfl hf u
theorem turnT_size (K P : ByteArray) (f : Nat) (S : ByteArray) (hK : K.size = 16) : (turnT K P f S).size = S.size := by
  unfold turnT; rw [txt_size, turnL_length (by rw [size_list]; exact hK), size_list]
theorem turnT_twice (K P : ByteArray) (f : Nat) (S : ByteArray) (hK : K.size = 16) : turnT K P f (turnT K P f S) = S := by
  have h := turnL_twice (key := K.data.toList) (by rw [size_list]; exact hK) P.data.toList f S.data.toList
  unfold turnT
  exact congrArg (fun l : List UInt8 => (⟨l.toArray⟩ : ByteArray)) h
theorem turnT_two (K P : ByteArray) (f : Nat) (L Q : ByteArray) (o : Nat) (S : ByteArray) (hK : K.size = 16) (hL : L.size = 16) : turnT L Q o (turnT K P f S) = turnT K P f (turnT L Q o S) := by
  have h := turnL_two (key := K.data.toList) (by rw [size_list]; exact hK) P.data.toList f S.data.toList (l := L.data.toList) (by rw [size_list]; exact hL) Q.data.toList o
  unfold turnT
  exact congrArg (fun l : List UInt8 => (⟨l.toArray⟩ : ByteArray)) h
theorem turnT_cut (K P : ByteArray) (f : Nat) (S : ByteArray) (hK : K.size = 16) (k : Nat) (hk : 16 * k ≤ S.size) : turnT K P f (S.extract 0 (16 * k)) ++ turnT K P (f + k) (S.extract (16 * k) S.size) = turnT K P f S := by
  have h := turnL_cut (key := K.data.toList) (by rw [size_list]; exact hK) P.data.toList f S.data.toList k (by rw [size_list]; exact hk)
  have e1 : (S.extract 0 (16 * k)).data.toList = S.data.toList.take (16 * k) := by rw [Lib.extract_data]; simp
  have e2 : (S.extract (16 * k) S.size).data.toList = S.data.toList.drop (16 * k) := by
    rw [Lib.extract_data]
    exact List.take_of_length_le (by rw [List.length_drop, size_list]; exact Nat.le_refl _)
  unfold turnT
  rw [e1, e2, str_append, h]
theorem turnT_zero (K P : ByteArray) (f n : Nat) (hK : K.size = 16) : turnT K P f ⟨(List.replicate n 0).toArray⟩ = ⟨(ctrL K.data.toList P.data.toList f n).toArray⟩ := by
  have h := turnL_zero (key := K.data.toList) (by rw [size_list]; exact hK) P.data.toList f n
  unfold turnT
  exact congrArg (fun l : List UInt8 => (⟨l.toArray⟩ : ByteArray)) h
end Go.Proofs.YtcjdnifckngcfaaGreatDoor
end

section
namespace Go.Proofs.YtcjdnifckngcfaaGreatDoor
open Go.RowKit
attribute [local irreducible] rkey expand enc dec ctrB ctrC ctrL xorL turnL turnT kd t4 t8 env5

def t1 : ByteArray := ⟨#[1]⟩
/-- The tag of an envelope of epoch e, its text turned to body. -/
def tagT (key path : ByteArray) (v : Nat) (a b c d : ByteArray) : ByteArray := ⟨(macL key.data.toList (joinL [t4 path.size, path, t8 v, a, b, c, d])).toArray⟩
theorem tagT_size (key path : ByteArray) (v : Nat) (a b c d : ByteArray) : (tagT key path v a b c d).size = 32 := by unfold tagT; rw [txt_size, macL_length]
/-- An envelope of epoch e, whose key is s. -/
def sealT (s : ByteArray) (e : Nat) (path : ByteArray) (v : Nat) (nonce text : ByteArray) : ByteArray :=
  env5 t1 (t4 e) nonce (turnT (kd s cipB 16) nonce 0 text) (tagT (kd s tagB 32) path v t1 (t4 e) nonce (turnT (kd s cipB 16) nonce 0 text))
theorem t4_size (n : Nat) : (t4 n).size = 4 := by unfold t4; rw [txt_size, be_length]
theorem t8_size (n : Nat) : (t8 n).size = 8 := by unfold t8; rw [txt_size, be_length]
theorem sealT_size (s : ByteArray) (e : Nat) (path : ByteArray) (v : Nat) (nonce text : ByteArray) (hn : nonce.size = 12) : (sealT s e path v nonce text).size = text.size + 49 := by
  unfold sealT
  rw [env5_size, t4_size, hn, turnT_size _ _ _ _ (kd_size _ _ _ (by omega)), tagT_size]
  have : t1.size = 1 := rfl
  omega
theorem joinL_7 (a b c d e f g : ByteArray) : (joinL [a, b, c, d, e, f, g]).length = a.size + (b.size + (c.size + (d.size + (e.size + (f.size + g.size))))) := by
  simp [joinL, List.length_append]
/-! ### Errors -/
theorem close_nil (w : World) (path : ByteArray) (v : Int) (nonce text : ByteArray) :
    Calls Tryz.prog 42 #[.pointer none, .string path, .int .u64 v, .string nonce, .string text] w fun e w' => e = .returned (.tuple #[.string ⟨#[]⟩, .int .i64 1]) ∧ w = w' := by
  go_enter Tryz.func42, Tryz.ntmps42
  go_wp2_with (go_at_call 75; refine (there_nil14 _).mono ?_; rintro e w1 ⟨rfl, rfl⟩)
  go_ret2
  exact ⟨rfl, rfl⟩
theorem close_arg (w : World) (r b : Nat) (L : List (Nat × ByteArray)) (h : IsK w r b L) (path : ByteArray) (v : Int) (nonce text : ByteArray) (hn : nonce.size ≠ 12) :
    Calls Tryz.prog 42 #[.pointer (some ⟨r, 0, none⟩), .string path, .int .u64 v, .string nonce, .string text] w fun e w' => e = .returned (.tuple #[.string ⟨#[]⟩, .int .i64 2]) ∧ Ext w w' := by
  have HT := Lib.hid (there_yes14 w r b L h)
  have hn2 : (nonce.size : Int) ≠ 12 := by omega
  have hn3 : ((nonce.size : Int) == 12) = false := by simpa using hn2
  clear h
  go_enter Tryz.func42, Tryz.ntmps42
  go_wp2_with (go_at_call 75; refine (HT.out).mono ?_; rintro e w1 ⟨rfl, x1⟩)
  go_ret2
  exact ⟨rfl, x1⟩
theorem close_long (w : World) (r b : Nat) (L : List (Nat × ByteArray)) (h : IsK w r b L) (path : ByteArray) (v : Int) (nonce text : ByteArray) (hn : nonce.size = 12) (hl : 1048576 < path.size ∨ 1048576 < text.size) :
    Calls Tryz.prog 42 #[.pointer (some ⟨r, 0, none⟩), .string path, .int .u64 v, .string nonce, .string text] w fun e w' => e = .returned (.tuple #[.string ⟨#[]⟩, .int .i64 5]) ∧ Ext w w' := by
  have HT := Lib.hid (there_yes14 w r b L h)
  have hn2 : (nonce.size : Int) = 12 := by omega
  clear h
  by_cases h1 : 1048576 < path.size
  · have h1i : (1048576 : Int) < (path.size : Int) := by omega
    go_enter Tryz.func42, Tryz.ntmps42
    go_wp2_with (go_at_call 75; refine (HT.out).mono ?_; rintro e w1 ⟨rfl, x1⟩)
    go_ret2
    exact ⟨rfl, x1⟩
  · have h1i : ¬ (1048576 : Int) < (path.size : Int) := by omega
    have h2i : (1048576 : Int) < (text.size : Int) := by omega
    go_enter Tryz.func42, Tryz.ntmps42
    go_wp2_with (go_at_call 75; refine (HT.out).mono ?_; rintro e w1 ⟨rfl, x1⟩)
    go_ret2
    exact ⟨rfl, x1⟩
/-! ### Close -/
set_option maxRecDepth 100000 in
set_option maxHeartbeats 4000000 in
theorem close_yes (w : World) (r b : Nat) (L : List (Nat × ByteArray)) (hL : Laid w) (h : IsK w r b L) (s : ByteArray) (hm : (top (eps L), s) ∈ L) (path : ByteArray) (v : Nat) (nonce text : ByteArray) (hn : nonce.size = 12) (hp : path.size ≤ 1048576) (ht : text.size ≤ 1048576) :
    Calls Tryz.prog 42 #[.pointer (some ⟨r, 0, none⟩), .string path, .int .u64 (v : Int), .string nonce, .string text] w fun e w' => e = .returned (.tuple #[.string (sealT s (top (eps L)) path v nonce text), .int .i64 0]) ∧ Ext w w' := by
  have hn2 : (nonce.size : Int) = 12 := by omega
  have h1i : ¬ (1048576 : Int) < (path.size : Int) := by omega
  have h2i : ¬ (1048576 : Int) < (text.size : Int) := by omega
  have hk1 : (kd s cipB 16).size = 16 := kd_size _ _ _ (by omega)
  have hk2 : (kd s tagB 32).size = 32 := kd_size _ _ _ (by omega)
  have hbs : (turnT (kd s cipB 16) nonce 0 text).size = text.size := turnT_size _ _ _ _ hk1
  have HT := Lib.hid (there_yes14 w r b L h)
  have HN := Lib.hid (fun u (hu : IsK u r b L) => newest_any u r b L hu)
  have HKy := Lib.hid (fun u (hx : Ext w u) (hu : IsK u r b L) => keys_yes u r b L (hL.ext hx) hu (top (eps L)) s hm)
  have HTu := Lib.hid (fun u => turnT_to (kd s cipB 16) nonce 0 text hk1 hn ht (by unfold blocksOf; omega) (by omega) u)
  have HP4 := Lib.hid (fun u => Put32_any (top (eps L)) u)
  have hz := sealT_size s (top (eps L)) path v nonce text hn
  unfold sealT at hz ⊢
  rw [show (⟨(be 4 (top (eps L))).toArray⟩ : ByteArray) = t4 (top (eps L)) by unfold t4; rfl] at HP4
  have htag : ∀ (u : World) (g c : Nat), Ext w u → Texts u ⟨g, 0, none⟩ ([t4 path.size, path, t8 v] ++ [t1, t4 (top (eps L)), nonce, turnT (kd s cipB 16) nonce 0 text]) →
      Calls Tryz.prog 80 #[.string (kd s tagB 32), .slice (some ⟨g, 0, none⟩) 7 c] u fun e w' => e = .returned (.string (tagT (kd s tagB 32) path v t1 (t4 (top (eps L))) nonce (turnT (kd s cipB 16) nonce 0 text))) ∧ Ext u w' := fun u g c hx hT =>
    Of_mac u _ _ [t4 path.size, path, t8 v, t1, t4 (top (eps L)), nonce, turnT (kd s cipB 16) nonce 0 text] (hL.ext hx) (by rw [hk2]; omega) (.inr ⟨⟨g, 0, none⟩, c, rfl, hT, by simp⟩) (by
      rw [joinL_7, t4_size, t8_size, t4_size, hbs, hn]
      have : t1.size = 1 := rfl
      omega)
  have HTag := Lib.hid htag
  have HK := Lib.hid h
  have HA := Lib.hid (fun u A B C D T => ahead_any u A B C D T)
  have HG := Lib.hid (fun u g (hb : Blk u g 9 ([t1, t4 (top (eps L)), nonce, turnT (kd s cipB 16) nonce 0 text].map Value.string)) => tagged_any u path v g _ hp hb rfl)
  clear h hL hm hk1 hk2 hbs htag
  unfold t1 at *
  generalize tagT (kd s tagB 32) path v ⟨#[1]⟩ (t4 (top (eps L))) nonce (turnT (kd s cipB 16) nonce 0 text) = X at *
  generalize turnT (kd s cipB 16) nonce 0 text = D at *
  generalize kd s cipB 16 = K1 at *
  generalize kd s tagB 32 = K2 at *
  generalize t4 (top (eps L)) = E at *
  generalize top (eps L) = tp at *
  have HB := Lib.hid (fun u => bytes_any14 u ⟨#[1]⟩ E nonce D X (by rw [hz]; omega))
  generalize env5 ⟨#[1]⟩ E nonce D X = Y at *
  clear hz
  go_enter Tryz.func42, Tryz.ntmps42
  go_wp2_with (first
    | (go_at_call 75; refine (HT.out).mono ?_; rintro e w1 ⟨rfl, x1⟩)
    | (go_at_call 76; refine (HN.out _ (HK.out.ext x1)).mono ?_; rintro e w2 ⟨rfl, x2⟩; have y2 := x1.trans x2)
    | (go_at_call 77; refine (HKy.out _ y2 (HK.out.ext y2)).mono ?_; rintro e w3 ⟨rfl, x3⟩; have y3 := y2.trans x3)
    | (go_at_call 78; refine (HTu.out _).mono ?_; rintro e w4 ⟨rfl, x4⟩; have y4 := y3.trans x4)
    | (go_at_call 79; refine (HP4.out _).mono ?_; rintro e w5 ⟨rfl, x5⟩; have y5 := (y4.trans x5).alloc (.cells #[.string ⟨#[1]⟩, .string E, .string nonce, .string D, .string ⟨#[]⟩] 120); have p5 := Blk.new w5 [.string ⟨#[1]⟩, .string E, .string nonce, .string D, .string ⟨#[]⟩] 120; have HPl := Lib.hid (y4.trans x5).size; have a0 := p5.cell 0 _ rfl; have a1 := p5.cell 1 _ rfl; have a2 := p5.cell 2 _ rfl; have a3 := p5.cell 3 _ rfl; have a4 := p5.cell 4 _ rfl; have P5 := Lib.hid p5; clear p5)
    | (go_at_call 82; refine (HA.out _ _ _ _ _ _).mono ?_; rintro e w6 ⟨g6, rfl, b6, q6, x6⟩; have y6 := y5.trans x6)
    | (go_at_call 81; refine (HG.out _ _ b6).mono ?_; rintro e w7 ⟨g7, c7, rfl, k7, x7⟩; have y7 := y6.trans x7)
    | (go_at_call 80; refine (HTag.out _ _ _ y7 k7).mono ?_; rintro e w8 ⟨rfl, x8⟩; have p8 := P5.out.ext ((x6.trans x7).trans x8); have c8 := p8.cell 4 _ rfl; have f8 := p8.frozen 4; have p9 := p8.set_ 4 (.string X); have d0 := p9.cell 0 _ rfl; have d1 := p9.cell 1 _ rfl; have d2 := p9.cell 2 _ rfl; have d3 := p9.cell 3 _ rfl; have d4 := p9.cell 4 _ rfl; have Y8 := Lib.hid ((y7.trans x8).setCell (p := ⟨w5.heap.size, 4, none⟩) HPl.out (.string X)); clear p8 p9)
    | (go_at_call 83; refine (HB.out _).mono ?_; rintro e w9 ⟨rfl, x9⟩))
  go_ret2
  exact ⟨rfl, Y8.out.trans x9⟩
end Go.Proofs.YtcjdnifckngcfaaGreatDoor
end

section
namespace Go.Proofs.YtcjdnifckngcfaaGreatDoor

theorem num_inj : ∀ (l r : List UInt8), l.length = r.length → num l = num r → l = r
  | [], [], _, _ => rfl
  | [], _ :: _, h, _ => by simp at h
  | _ :: _, [], h, _ => by simp at h
  | a :: l, b :: r, h, e => by
    have hl : l.length = r.length := by simpa using h
    rw [num_cons, num_cons, hl] at e
    have h1 := num_lt r.length l hl
    have h2 := num_lt r.length r rfl
    have hp : 0 < 256 ^ r.length := Nat.pow_pos (by decide)
    have ha : a.toNat = b.toNat := by
      have q1 : (a.toNat * 256 ^ r.length + num l) / 256 ^ r.length = a.toNat := by
        rw [Nat.add_comm, Nat.add_mul_div_right _ _ hp, Nat.div_eq_of_lt h1, Nat.zero_add]
      have q2 : (b.toNat * 256 ^ r.length + num r) / 256 ^ r.length = b.toNat := by
        rw [Nat.add_comm, Nat.add_mul_div_right _ _ hp, Nat.div_eq_of_lt h2, Nat.zero_add]
      rw [← q1, ← q2, e]
    have hb : a = b := UInt8.toNat_inj.1 ha
    subst hb
    rw [num_inj l r hl (by omega)]
theorem be_num (l : List UInt8) (k : Nat) (h : l.length = k) : be k (num l) = l :=
  num_inj _ _ (by rw [be_length, h]) (by rw [num_be, Nat.mod_eq_of_lt (num_lt k l h)])

end Go.Proofs.YtcjdnifckngcfaaGreatDoor
end
