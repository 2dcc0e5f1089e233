/- Contracts: envelopes, by the document's answer: Close. Contracts: the document's barrier: what it is; what it may; its header; closed by it, opened by it; shut; loaded. Contract: the shares of a secret, by the document's answer. Contract: what has no shares, by the document's answer. -/
import Derived.Test.YtobhbppogeghnaaGreatDoorM36
import Derived.Test.YtobhbppogeghnaaGreatDoorM26
import Derived.Test.YtobhbppogeghnaaGreatDoorM30
import Derived.Test.YtobhbppogeghnaaGreatDoorM31
import Derived.Deep.RegionLaw
import Derived.Test.YtobhbppogeghnaaGreatDoorM29
import Derived.Test.YtobhbppogeghnaaGreatDoorM24
import Derived.Test.YtobhbppogeghnaaGreatDoorM23
import Derived.Test.YtobhbppogeghnaaGreatDoorM02
import Derived.StillTailTactics
import Derived.Outline
section
namespace Go.Proofs.YtobhbppogeghnaaGreatDoor
open Go.RowKit
attribute [local irreducible] rkey expand enc dec ctrB ctrC ctrL xorL turnL turnT kd t4 t8 env5 chk tagT sealT
/-! ### Close -/
theorem rclose_arg (w : World) (d : Nat) (path : ByteArray) (v : Int) (nonce text : ByteArray) (hn : nonce.size ≠ 12) :
    Calls Tryz.prog 70 #[.pointer (some ⟨d, 0, none⟩), .string path, .int .u64 v, .string nonce, .string text] w fun e w' => e = .returned (.tuple #[.string ⟨#[]⟩, .int .i64 2]) ∧ w = w' := by
  have hn2 : (nonce.size : Int) ≠ 12 := by omega
  have hn3 : ((nonce.size : Int) == 12) = false := by simpa using hn2
  go_enter Tryz.func70, Tryz.ntmps70
  go_wp2
  go_ret2
  exact ⟨rfl, rfl⟩
set_option maxRecDepth 100000 in
set_option maxHeartbeats 4000000 in
theorem rclose_yes (w : World) (B d : Nat) (p : Option Addr) (c : Nat) (L : List (Nat × ByteArray)) (h : IsR w B d p c L) (hG : GoodK L) (s : ByteArray) (hm : (top (eps L), s) ∈ L) (path : ByteArray) (v : Nat) (hv : v < 2 ^ 64) (nonce text : ByteArray) (hn : nonce.size = 12) (hp : path.size ≤ 1048576) (ht : text.size ≤ 1048500) :
    Calls Tryz.prog 70 #[.pointer (some ⟨d, 0, none⟩), .string path, .int .u64 (v : Int), .string nonce, .string text] w fun e w' => e = .returned (.tuple #[.string (sealT s (top (eps L)) path v nonce text), .int .i64 0]) ∧ Ext w w' := by
  have hn2 : (nonce.size : Int) = 12 := by omega
  have h1i : ¬ (1048576 : Int) < (path.size : Int) := by omega
  have h2i : ¬ (1048576 : Int) < (text.size : Int) := by omega
  have hk1 : (kd s cipB 16).size = 16 := kd_size _ _ _ (by omega)
  have hk2 : (kd s tagB 32).size = 32 := kd_size _ _ _ (by omega)
  have hbs : (turnT (kd s cipB 16) nonce 0 text).size = text.size := turnT_size _ _ _ _ hk1
  have ht32 : top (eps L) < 4294967296 := hG.top_lt
  have HR := Lib.hid h
  have HN := Lib.hid (fun u (hu : IsR u B d p c L) => rnewestK_any u B d p c L hu hG)
  have HKy := Lib.hid (fun u (hu : IsR u B d p c L) => rkeysK_yes u B d p c L hu hG (top (eps L)) s hm)
  have HTu : Hid (∀ u, Calls Tryz.prog 103 #[.string (kd s cipB 16), .string nonce, .int .u32 0, .string text] u fun e w' => e = .returned (.tuple #[.string (turnT (kd s cipB 16) nonce 0 text), .int .i64 0]) ∧ Ext u w') := Lib.hid (fun u => by
    have := rturn_yes (kd s cipB 16) nonce text 0 hk1 hn (by omega) (by omega) (by unfold blocksOf; omega) u
    unfold turnT
    exact this)
  have HP4 := Lib.hid (fun u => rput4s (top (eps L)) ht32 u)
  have htg := fun u => rtag14_any (kd s tagB 32) path v (((t1 ++ t4 (top (eps L))) ++ nonce) ++ turnT (kd s cipB 16) nonce 0 text) hk2 hp hv (by
    rw [ByteArray.size_append, ByteArray.size_append, ByteArray.size_append, t4_size, hn, hbs]
    have : t1.size = 1 := rfl
    omega) u
  rw [tagT_app] at htg
  have HTg := Lib.hid htg
  have he := env5_app t1 (t4 (top (eps L))) nonce (turnT (kd s cipB 16) nonce 0 text) (tagT (kd s tagB 32) path v t1 (t4 (top (eps L))) nonce (turnT (kd s cipB 16) nonce 0 text))
  have z4 := t4_size (top (eps L))
  have zT := tagT_size (kd s tagB 32) path v t1 (t4 (top (eps L))) nonce (turnT (kd s cipB 16) nonce 0 text)
  have hw32 : IntKind.u64.wrap (top (eps L) : Int) = (top (eps L) : Int) := by simp [IntKind.wrap, IntKind.signed, IntKind.bits]; omega
  unfold sealT
  rw [← he]
  clear h hG hm hk1 hk2 htg he hv
  unfold t1 at *
  generalize tagT (kd s tagB 32) path v ⟨#[1]⟩ (t4 (top (eps L))) nonce (turnT (kd s cipB 16) nonce 0 text) = X at *
  generalize turnT (kd s cipB 16) nonce 0 text = D at *
  generalize kd s cipB 16 = K1 at *
  generalize kd s tagB 32 = K2 at *
  generalize t4 (top (eps L)) = E at *
  generalize top (eps L) = tp at *
  have hs1 : ((⟨#[1]⟩ : ByteArray) ++ E).size = 5 := by rw [ByteArray.size_append, z4]; rfl
  have hs2 : ((⟨#[1]⟩ : ByteArray) ++ E ++ nonce).size = 17 := by rw [ByteArray.size_append, hs1, hn]
  have hs3 : ((⟨#[1]⟩ : ByteArray) ++ E ++ nonce ++ D).size ≤ 1048600 := by rw [ByteArray.size_append, hs2, hbs]; omega
  go_enter Tryz.func70, Tryz.ntmps70
  go_upto_region 8 with (first
    | (go_at_call 104; refine (HN.out _ HR.out).mono ?_; rintro e w1 ⟨rfl, x1⟩; replace HR := Lib.hid (HR.out.ext x1); first | (have y0 := y.trans x1; clear y; have y := y0; clear y0) | have y := x1)
    | (go_at_call 101; refine (HKy.out _ HR.out).mono ?_; rintro e w2 ⟨rfl, x2⟩; replace HR := Lib.hid (HR.out.ext x2); replace y := y.trans x2)
    | (go_at_call 103; refine (HTu.out _).mono ?_; rintro e w3 ⟨rfl, x3⟩; replace HR := Lib.hid (HR.out.ext x3); replace y := y.trans x3)
    | (go_at_call 107; refine (HP4.out _).mono ?_; rintro e w4 ⟨rfl, x4⟩; replace HR := Lib.hid (HR.out.ext x4); replace y := y.trans x4)
    | (go_at_call 102; refine (HTg.out _).mono ?_; rintro e w5 ⟨rfl, x5⟩; replace y := y.trans x5))
  have HY := Lib.hid y
  clear y
  generalize hZ : (⟨#[1]⟩ : ByteArray) ++ E ++ nonce ++ D = Z at *
  have HZ := Lib.hid hZ
  clear hs1 hs2 hZ
  have hzs : Z.size + X.size ≤ 1048700 := by omega
  go_wp2_with (go_at_call 102; refine (HTg.out _).mono ?_; rintro e w5 ⟨rfl, x5⟩)
  go_ret2
  exact ⟨by rw [HZ.out]; rfl, HY.out.trans x5⟩
end Go.Proofs.YtobhbppogeghnaaGreatDoor
end

section
namespace Go.Proofs.YtobhbppogeghnaaGreatDoor
open Go.RowKit
attribute [local irreducible] rkey expand enc dec ctrB ctrC ctrL xorL xorAll turnL turnT kd t4 t8 env5 chk tagT sealT ringL hdT envOf

/-- None of the document's barrier's blocks. -/
def NotQ (o : Obj) : Prop := (∀ cur fr, o ≠ .cells cur 34 fr) ∧ (∀ cur fr, o ≠ .cells cur 100 fr) ∧ NotD o
/-- Only blocks of the document's barrier were written, none below B. -/
structure TurnQ (B : Nat) (w w' : World) : Prop where
  below : Below B w w'
  size : w.heap.size ≤ w'.heap.size
  keep : ∀ (g : Nat) (o : Obj), w.heap[g]? = some o → NotQ o → w'.heap[g]? = some o
section
variable {B : Nat} {v w w' w'' : World}
theorem TurnQ.trans (h : TurnQ B w w') (k : TurnQ B w' w'') : TurnQ B w w'' := ⟨h.below.trans k.below, Nat.le_trans h.size k.size, fun g o hg hn => k.keep g o (h.keep g o hg hn) hn⟩
theorem Ext.turnQ (h : Ext w w') (hB : B ≤ w.heap.size) : TurnQ B w w' := ⟨Below.mono h hB, h.size, fun g _ hg _ => (h.block g (heap_lt hg)).trans hg⟩
theorem TurnD.turnQ (h : TurnD B w w') : TurnQ B w w' := ⟨h.below, h.size, fun g o hg hn => h.keep g o hg hn.2.2⟩
theorem TurnQ.set {b i : Nat} {cs : List Value} (h : Blk w b 34 cs) (hl : B ≤ b) (u : Value) : TurnQ B w (w.setCell ⟨b, i, none⟩ u) := by
  refine ⟨(Below.refl _ _).setCell hl u, by simp [World.setCell], fun g o ho hn => ?_⟩
  by_cases e : g = b
  · subst e
    rw [h] at ho
    cases ho
    exact absurd rfl (hn.1 _ _)
  · exact (Below.heap_setCell _ _ _ _ e).trans ho
end
/-- Block d is the document's barrier in this state; neither it nor its ring lies below B. -/
def IsQ (w : World) (B d : Nat) : BS → Prop
  | .none => ∃ v, IsGF w d 0 ⟨#[]⟩ ⟨#[]⟩ (.pointer none) v 1 1 [] ∧ B ≤ d
  | .closed n E L => ∃ v, IsGF w d 1 (hdT n E) ⟨#[]⟩ (.pointer none) v n 32 L ∧ B ≤ d
  | .opened n E root K => ∃ v rd p c, IsGF w d 2 (hdT n E) root (.pointer (some ⟨rd, 0, none⟩)) v n 32 [] ∧ IsR w B rd p c K ∧ B ≤ d
theorem IsQ.ext {w w' : World} {B d : Nat} {S : BS} (h : IsQ w B d S) (x : Ext w w') : IsQ w' B d S := by
  cases S with
  | none => obtain ⟨v, i, l⟩ := h; exact ⟨v, i.ext x, l⟩
  | closed n E L => obtain ⟨v, i, l⟩ := h; exact ⟨v, i.ext x, l⟩
  | opened n E root K => obtain ⟨v, rd, p, c, i, j, l⟩ := h; exact ⟨v, rd, p, c, i.ext x, j.ext x, l⟩
theorem IsQ.cell0 {w : World} {B d : Nat} {S : BS} (h : IsQ w B d S) : w.cell? ⟨d, 0, none⟩ = some (.int .u8 (stN S : Int)) := by
  cases S with
  | none => obtain ⟨v, i, l⟩ := h; exact i.blk.cell 0 _ rfl
  | closed n E L => obtain ⟨v, i, l⟩ := h; exact i.blk.cell 0 _ rfl
  | opened n E root K => obtain ⟨v, rd, p, c, i, j, l⟩ := h; exact i.blk.cell 0 _ rfl
theorem IsQ.low {w : World} {B d : Nat} {S : BS} (h : IsQ w B d S) : B ≤ d ∧ d < w.heap.size := by
  cases S with
  | none => obtain ⟨v, i, l⟩ := h; exact ⟨l, i.blk.lt⟩
  | closed n E L => obtain ⟨v, i, l⟩ := h; exact ⟨l, i.blk.lt⟩
  | opened n E root K => obtain ⟨v, rd, p, c, i, j, l⟩ := h; exact ⟨l, i.blk.lt⟩
theorem rmay_any (w : World) (B d : Nat) (S : BS) (h : IsQ w B d S) :
    Calls Tryz.prog 66 #[.pointer (some ⟨d, 0, none⟩)] w fun e w' => e = .returned (.int .i64 (mayE S)) ∧ w = w' := by
  have c0 := h.cell0
  clear h
  cases S
  all_goals
    simp only [stN] at c0
    go_enter Tryz.func66, Tryz.ntmps66
    go_wp2
    go_ret
    exact ⟨rfl, rfl⟩
set_option maxHeartbeats 1000000 in
theorem rheader_any (w : World) (B d : Nat) (p : Option Addr) (c : Nat) (root : ByteArray) (K : List (Nat × ByteArray)) (h : IsR w B d p c K) (hG : GoodK K) (hr : root.size = 32) (n : Nat) (hn : n < 256) (nonce : ByteArray) (hz : nonce.size = 12) :
    Calls Tryz.prog 68 #[.int .i64 (n : Int), .string root, .string nonce, .pointer (some ⟨d, 0, none⟩)] w fun e w' => e = .returned (.string (hdOf root n nonce K)) ∧ Ext w w' := by
  have HN := Lib.hid (rnewK_any w root)
  have HB := Lib.hid (fun u (x : Ext w u) => rbytesK_any u B d p c K (h.ext x) hG)
  have hrl := ringB_le hG
  have hg1 := GoodK.one root hr
  have HC : Hid (∀ u r q, IsR u w.heap.size r q 1 [(1, root)] → Calls Tryz.prog 70 #[.pointer (some ⟨r, 0, none⟩), .string ⟨#[98, 97, 114, 114, 105, 101, 114]⟩, .int .u64 (n : Int), .string nonce, .string ⟨(ringL K).toArray⟩] u fun e w' => e = .returned (.tuple #[.string (sealT root 1 pathB n nonce (ringB K)), .int .i64 0]) ∧ Ext u w') := Lib.hid (fun u r q hu => by
    have := rclose_yes u w.heap.size r q 1 _ hu hg1 root (by rw [top_one1]; simp) pathB n (by omega) nonce (ringB K) hz (by decide) (by omega)
    rw [top_one1] at this
    exact this)
  have hcv := fun t u => byte_text n hn t u
  have hcat := hdT_cat n (sealT root 1 pathB n nonce (ringB K))
  have hw8 : IntKind.u8.wrap (n : Int) = (n : Int) := IntWalk.u8_in _ ⟨by omega, by omega⟩
  have hw64 : IntKind.u64.wrap (n : Int) = (n : Int) := IntWalk.u64_in _ ⟨by omega, by omega⟩
  have hs := envOf_size hG root n nonce hz
  have h64 := hG.few
  have hsz : (sealT root 1 pathB n nonce (ringB K)).size ≤ 3000 := by unfold envOf at hs; omega
  unfold hdOf envOf
  clear h hG hrl hs h64 hg1
  generalize sealT root 1 pathB n nonce (ringB K) = E at *
  generalize (⟨(ringL K).toArray⟩ : ByteArray) = RB at *
  go_enter Tryz.func68, Tryz.ntmps68
  go_wp2_with (first
    | (go_at_call 64; refine (HN.out).mono ?_; rintro e w1 ⟨r, q, rfl, i1, x1⟩; have I1 := Lib.hid i1; clear i1)
    | (go_at_call 105; refine (HB.out _ x1).mono ?_; rintro e w2 ⟨rfl, x2⟩)
    | (go_at_call 70; refine (HC.out _ _ _ (I1.out.ext x2)).mono ?_; rintro e w3 ⟨rfl, x3⟩))
  go_ret
  exact ⟨rfl, ((x1.trans x2).trans x3).alloc _⟩
theorem rput_shut (w : World) (B d : Nat) (S : BS) (h : IsQ w B d S) (hS : stN S ≠ 2) (path : ByteArray) (v : Int) (nonce text : ByteArray) :
    Calls Tryz.prog 35 #[.pointer (some ⟨d, 0, none⟩), .string path, .int .u64 v, .string nonce, .string text] w fun e w' => e = .returned (.tuple #[.string ⟨#[]⟩, .int .i64 (mayE S)]) ∧ w = w' := by
  have HIn := Lib.hid (rmay_any w B d S h)
  have hne : (mayE S != 0) = true := by cases S <;> first | rfl | exact absurd rfl hS
  clear h
  generalize mayE S = m at *
  go_enter Tryz.func35, Tryz.ntmps35
  go_wp2_with (go_at_call 66; refine (HIn.out).mono ?_; rintro e w1 ⟨rfl, rfl⟩)
  go_ret2
  exact ⟨rfl, rfl⟩
theorem rget_shut (w : World) (B d : Nat) (S : BS) (h : IsQ w B d S) (hS : stN S ≠ 2) (path : ByteArray) (v : Int) (s : ByteArray) :
    Calls Tryz.prog 36 #[.pointer (some ⟨d, 0, none⟩), .string path, .int .u64 v, .string s] w fun e w' => e = .returned (.tuple #[.string ⟨#[]⟩, .int .i64 (mayE S)]) ∧ w = w' := by
  have HIn := Lib.hid (rmay_any w B d S h)
  have hne : (mayE S != 0) = true := by cases S <;> first | rfl | exact absurd rfl hS
  clear h
  generalize mayE S = m at *
  go_enter Tryz.func36, Tryz.ntmps36
  go_wp2_with (go_at_call 66; refine (HIn.out).mono ?_; rintro e w1 ⟨rfl, rfl⟩)
  go_ret2
  exact ⟨rfl, rfl⟩
theorem rput_open (w : World) (B d n : Nat) (E root : ByteArray) (K : List (Nat × ByteArray)) (h : IsQ w B d (.opened n E root K)) (path : ByteArray) (v : Int) (nonce text X : ByteArray) (c : Int)
    (HC : ∀ r p q, IsR w B r p q K → Calls Tryz.prog 70 #[.pointer (some ⟨r, 0, none⟩), .string path, .int .u64 v, .string nonce, .string text] w fun e w' => e = .returned (.tuple #[.string X, .int .i64 c]) ∧ Ext w w') :
    Calls Tryz.prog 35 #[.pointer (some ⟨d, 0, none⟩), .string path, .int .u64 v, .string nonce, .string text] w fun e w' => e = .returned (.tuple #[.string X, .int .i64 c]) ∧ Ext w w' := by
  have HIn := Lib.hid (rmay_any w B d _ h)
  have hm : mayE (.opened n E root K) = 0 := rfl
  rw [hm] at HIn
  obtain ⟨v', rd, p, q, i, j, l⟩ := h
  have c3 := i.blk.cell 3 _ rfl
  have HCl := Lib.hid (HC rd p q j)
  clear i j HC hm
  go_enter Tryz.func35, Tryz.ntmps35
  go_wp2_with (first
    | (go_at_call 66; refine (HIn.out).mono ?_; rintro e w1 ⟨rfl, rfl⟩)
    | (go_at_call 70; refine (HCl.out).mono ?_; rintro e w2 ⟨rfl, x2⟩))
  go_ret2
  exact ⟨rfl, x2⟩
theorem rget_open (w : World) (B d n : Nat) (E root : ByteArray) (K : List (Nat × ByteArray)) (h : IsQ w B d (.opened n E root K)) (path : ByteArray) (v : Int) (s X : ByteArray) (c : Int)
    (HC : ∀ r p q, IsR w B r p q K → Calls Tryz.prog 63 #[.pointer (some ⟨r, 0, none⟩), .string path, .int .u64 v, .string s] w fun e w' => e = .returned (.tuple #[.string X, .int .i64 c]) ∧ Ext w w') :
    Calls Tryz.prog 36 #[.pointer (some ⟨d, 0, none⟩), .string path, .int .u64 v, .string s] w fun e w' => e = .returned (.tuple #[.string X, .int .i64 c]) ∧ Ext w w' := by
  have HIn := Lib.hid (rmay_any w B d _ h)
  have hm : mayE (.opened n E root K) = 0 := rfl
  rw [hm] at HIn
  obtain ⟨v', rd, p, q, i, j, l⟩ := h
  have c3 := i.blk.cell 3 _ rfl
  have HCl := Lib.hid (HC rd p q j)
  clear i j HC hm
  go_enter Tryz.func36, Tryz.ntmps36
  go_wp2_with (first
    | (go_at_call 66; refine (HIn.out).mono ?_; rintro e w1 ⟨rfl, rfl⟩)
    | (go_at_call 63; refine (HCl.out).mono ?_; rintro e w2 ⟨rfl, x2⟩))
  go_ret2
  exact ⟨rfl, x2⟩
end Go.Proofs.YtobhbppogeghnaaGreatDoor
end

section
namespace Go.Proofs.YtobhbppogeghnaaGreatDoor
open Go.RowKit
attribute [local irreducible] xorL xorAll

set_option maxRecDepth 100000 in
set_option maxHeartbeats 4000000 in
theorem rsplit_yes (w : World) (secret : ByteArray) (p : Option Addr) (c : Nat) (l : List ByteArray) (h1 : 1 ≤ secret.size) (h2 : secret.size ≤ 64) (h3 : l.length < 16) (h : TextsP w p l) (hl : ∀ s, s ∈ l → s.size = secret.size) :
    Calls Tryz.prog 96 #[.string secret, .slice p l.length c] w fun e w' => ∃ v, e = .returned (.tuple #[v, .int .i64 0]) ∧ BufS w' w.heap.size v (splitT secret l) ∧ Ext w w' := by
  have HH := Lib.hid (fun u (hu : Ext w u) => h.ext hu)
  have HS := Lib.hid (sharesT_take (l.length + 1) l)
  have HSl := Lib.hid (sharesT_length (l.length + 1) l)
  have HX := Lib.hid (xorAll_step secret.data.toList l)
  have HXl := Lib.hid (fun j => xorAll_length (n := secret.size) (l.take j) secret.data.toList (size_list _) (fun b hb => hl b (List.mem_of_mem_take hb)))
  have hX0 : xorAll secret.data.toList (l.take 0) = secret.data.toList := by rw [List.take_zero]; unfold xorAll; rfl
  have HX0 := Lib.hid hX0
  clear h hX0
  go_enter Tryz.func96, Tryz.ntmps96
  go_wp2
  go_loopw [6, 8, 9] (fun last v i wr => ∃ j : Nat, j ≤ l.length ∧ i = .int .i64 (j : Int) ∧ last = .string ⟨(xorAll secret.data.toList (l.take j)).toArray⟩ ∧ BufS wr w.heap.size v ((sharesT (l.length + 1) l).take j) ∧ Ext w wr) (fun _ _ i _ => l.length - (intOf i).toNat)
  case atStart => exact ⟨0, Nat.zero_le _, rfl, by rw [HX0.out], by rw [List.take_zero]; exact BufS.nil _ _, Ext.refl _⟩
  case round =>
    obtain ⟨j, hj, rfl, rfl, hb, hext⟩ := hrel
    have HB := Lib.hid hb; have HE := Lib.hid hext
    by_cases hlt : j < l.length
    · obtain ⟨s, hs⟩ : ∃ s, l[j]? = some s := ⟨_, List.getElem?_eq_getElem hlt⟩
      have hsz : s.size = secret.size := hl s (List.mem_of_getElem? hs)
      have hne : ((s.size : Int) != (secret.size : Int)) = false := by rw [hsz]; simp
      obtain ⟨a, rfl, _, hc1⟩ := HH.out _ hext j s hs
      have HC2 := Lib.hid (fun u (hu : Ext w u) => (show u.cell? (a.add j) = some (.string s) by obtain ⟨a', e, _, hc⟩ := HH.out u hu j s hs; cases e; exact hc))
      have HSj := Lib.hid (HS.out j s hs)
      have hxs := HX.out j s hs
      have hXr := Lib.hid (fun u => rXor_yes ⟨(xorAll secret.data.toList (l.take j)).toArray⟩ s (by rw [txt_size, HXl.out, hsz]) (by rw [txt_size, HXl.out]; omega) u)
      have exd : (⟨(xorAll secret.data.toList (l.take j)).toArray⟩ : ByteArray).data.toList = xorAll secret.data.toList (l.take j) := by simp
      rw [exd, ← hxs] at hXr
      obtain ⟨x, hx⟩ : ∃ x, x = UInt8.ofNat (j + 1) := ⟨_, rfl⟩
      obtain ⟨y, hy⟩ : ∃ y, y = UInt8.ofNat (l.length + 1) := ⟨_, rfl⟩
      have hcv := fun u => two_textD ((j : Int) + 1) ((l.length : Int) + 1) x y (by rw [hx]; simp; omega) (by rw [hy]; simp; omega) 5 u
      have hcat := share_cat (j + 1) (l.length + 1) x y s hx hy
      obtain ⟨T, hT⟩ : ∃ T, shareT (j + 1) (l.length + 1) s = T := ⟨_, rfl⟩
      rw [hT] at hcat HSj
      have HLe : Hid (((sharesT (l.length + 1) l).take j).length ≤ 1000000) := Lib.hid (by rw [List.length_take]; omega)
      have hw0 : IntKind.i64.wrap ((j : Int) + 1) = (j : Int) + 1 := IntWalk.i64_in _ ⟨by omega, by omega⟩
      have hw1 : IntKind.u8.wrap ((j : Int) + 1) = (j : Int) + 1 := IntWalk.u8_in _ ⟨by omega, by omega⟩
      have hw2 : IntKind.u8.wrap ((l.length : Int) + 1) = (l.length : Int) + 1 := IntWalk.u8_in _ ⟨by omega, by omega⟩
      have hs64 : ¬ 9223372036854775807 < 2 + s.size := by omega
      clear hb hext hs hsz hx hy hT hxs exd
      generalize (⟨(xorAll secret.data.toList (l.take j)).toArray⟩ : ByteArray) = L0 at *
      go_wp2_with (go_at_call 100; refine (hXr.out _).mono ?_; rintro e w2 ⟨rfl, h2⟩)
      have k1 := HC2.out w2 (HE.out.trans h2)
      have k2 := HC2.out _ ((HE.out.trans h2).alloc (.cells #[.int .u8 ((j : Int) + 1), .int .u8 ((l.length : Int) + 1)] 5))
      have HX3 := Lib.hid (((h2.alloc (.cells #[.int .u8 ((j : Int) + 1), .int .u8 ((l.length : Int) + 1)] 5)).alloc (.cells #[.string T] 9)).drew)
      have HCl : Hid (((w2.alloc (.cells #[.int .u8 ((j : Int) + 1), .int .u8 ((l.length : Int) + 1)] 5)).alloc (.cells #[.string T] 9)).cell? ⟨w2.heap.size + 1, 0, none⟩ = some (.string T)) := Lib.hid (by simp)
      go_region_law (refine step_append_text rfl (.tmp 47) (.tmp 60) rfl w.heap.size _ _ (by simp [Act.eval]) (HB.out.ext HX3.out) (w2.heap.size + 1) T (by simp [Act.eval]) HCl.out HLe.out (HE.out.trans HX3.out).size ?_; intro v1 w3 hb1 hx4; have x5 : Ext w w3 := Below.trans (HE.out.trans HX3.out) hx4)
      all_goals
        go_wp2
        go_roundw
        case rel => exact ⟨j + 1, hlt, by go_num, rfl, by rw [HSj.out]; exact hb1, x5⟩
        case measure => simp [intOf]; omega
    · obtain rfl : j = l.length := by omega
      obtain ⟨y, hy⟩ : ∃ y, y = UInt8.ofNat (l.length + 1) := ⟨_, rfl⟩
      have hcv := fun u => two_text ((l.length : Int) + 1) ((l.length : Int) + 1) y y (by rw [hy]; simp; omega) (by rw [hy]; simp; omega) 5 u
      have hw2 : IntKind.u8.wrap ((l.length : Int) + 1) = (l.length : Int) + 1 := IntWalk.u8_in _ ⟨by omega, by omega⟩
      have hxl := HXl.out l.length
      rw [List.take_of_length_le (Nat.le_refl l.length)] at hxl ⊢
      have hcat := share_cat (l.length + 1) (l.length + 1) y y ⟨(xorAll secret.data.toList l).toArray⟩ hy hy
      have hls : (⟨(xorAll secret.data.toList l).toArray⟩ : ByteArray).size ≤ 64 := by rw [txt_size, hxl]; exact h2
      have HSP : Hid (splitT secret l = sharesT (l.length + 1) l ++ [shareT (l.length + 1) (l.length + 1) ⟨(xorAll secret.data.toList l).toArray⟩]) := Lib.hid rfl
      have hB2 := HB.out
      rw [List.take_of_length_le (by rw [HSl.out]; exact Nat.le_refl _)] at hB2
      have HB2 := Lib.hid hB2
      have HLe : Hid ((sharesT (l.length + 1) l).length ≤ 1000000) := Lib.hid (by rw [HSl.out]; omega)
      generalize sharesT (l.length + 1) l = ST at *
      generalize (⟨(xorAll secret.data.toList l).toArray⟩ : ByteArray) = L0 at *
      obtain ⟨T, hT⟩ : ∃ T, shareT (l.length + 1) (l.length + 1) L0 = T := ⟨_, rfl⟩
      rw [hT] at hcat HSP
      have HX3 : Hid (Ext wr ((wr.alloc (.cells #[.int .u8 ((l.length : Int) + 1), .int .u8 ((l.length : Int) + 1)] 5)).alloc (.cells #[.string T] 9))) := Lib.hid (((Ext.refl wr).alloc _).alloc _)
      have HCl : Hid (((wr.alloc (.cells #[.int .u8 ((l.length : Int) + 1), .int .u8 ((l.length : Int) + 1)] 5)).alloc (.cells #[.string T] 9)).cell? ⟨wr.heap.size + 1, 0, none⟩ = some (.string T)) := Lib.hid (by simp)
      clear hb hext hB2 hT hy hxl
      go_wp2_with (at_builtin; refine append_text rfl _ _ rfl w.heap.size _ _ rfl (HB2.out.ext HX3.out) (wr.heap.size + 1) T rfl HCl.out HLe.out (HE.out.trans HX3.out).size ?_; intro v1 w3 hb1 hx4; have x5 : Ext w w3 := Below.trans (HE.out.trans HX3.out) hx4)
      go_ret2
      exact ⟨v1, rfl, by rw [HSP.out]; exact hb1, x5⟩
end Go.Proofs.YtobhbppogeghnaaGreatDoor
end

section
namespace Go.Proofs.YtobhbppogeghnaaGreatDoor
open Go.RowKit
attribute [local irreducible] xorL xorAll

set_option maxRecDepth 100000 in
set_option maxHeartbeats 4000000 in
theorem rsplit_no (w : World) (secret : ByteArray) (p : Option Addr) (c : Nat) (l : List ByteArray) (h1 : 1 ≤ secret.size) (h2 : secret.size ≤ 64) (h3 : l.length < 16) (h : TextsP w p l) (k : Nat) (t : ByteArray) (hk : l[k]? = some t) (ht : ¬ t.size = secret.size) (hl : ∀ (i : Nat) (s : ByteArray), i < k → l[i]? = some s → s.size = secret.size) :
    Calls Tryz.prog 96 #[.string secret, .slice p l.length c] w fun e w' => e = .returned (.tuple #[.slice none 0 0, .int .i64 2]) ∧ Ext w w' := by
  have HH := Lib.hid (fun u (hu : Ext w u) => h.ext hu)
  have HS := Lib.hid (sharesT_take (l.length + 1) l)
  have HSl := Lib.hid (sharesT_length (l.length + 1) l)
  have HX := Lib.hid (xorAll_step secret.data.toList l)
  have hkl : k < l.length := (List.getElem?_eq_some_iff.1 hk).1
  have HXl := Lib.hid (fun j (hj : j ≤ k) => xorAll_length (n := secret.size) (l.take j) secret.data.toList (size_list _) (fun b hb => by
    obtain ⟨i, hi⟩ := List.getElem?_of_mem hb
    rw [List.getElem?_take] at hi
    split at hi
    · exact hl i b (by omega) hi
    · cases hi))
  have HK := Lib.hid hk
  have hnt : ((t.size : Int) != (secret.size : Int)) = true := by
    have q : ¬ (t.size : Int) = (secret.size : Int) := by omega
    simpa using q
  clear hk ht
  have hX0 : xorAll secret.data.toList (l.take 0) = secret.data.toList := by rw [List.take_zero]; unfold xorAll; rfl
  have HX0 := Lib.hid hX0
  clear h hX0
  go_enter Tryz.func96, Tryz.ntmps96
  go_wp2
  go_loopw [6, 8, 9] (fun last v i wr => ∃ j : Nat, j ≤ k ∧ i = .int .i64 (j : Int) ∧ last = .string ⟨(xorAll secret.data.toList (l.take j)).toArray⟩ ∧ BufS wr w.heap.size v ((sharesT (l.length + 1) l).take j) ∧ Ext w wr) (fun _ _ i _ => l.length - (intOf i).toNat)
  case atStart => exact ⟨0, Nat.zero_le _, rfl, by rw [HX0.out], by rw [List.take_zero]; exact BufS.nil _ _, Ext.refl _⟩
  case round =>
    obtain ⟨j, hj, rfl, rfl, hb, hext⟩ := hrel
    have HB := Lib.hid hb; have HE := Lib.hid hext
    by_cases hlt : j < k
    · obtain ⟨s, hs⟩ : ∃ s, l[j]? = some s := ⟨_, List.getElem?_eq_getElem (by omega)⟩
      have hsz : s.size = secret.size := hl j s hlt hs
      have hltl : j < l.length := by omega
      have hne : ((s.size : Int) != (secret.size : Int)) = false := by rw [hsz]; simp
      obtain ⟨a, rfl, _, hc1⟩ := HH.out _ hext j s hs
      have HC2 := Lib.hid (fun u (hu : Ext w u) => (show u.cell? (a.add j) = some (.string s) by obtain ⟨a', e, _, hc⟩ := HH.out u hu j s hs; cases e; exact hc))
      have HSj := Lib.hid (HS.out j s hs)
      have hxs := HX.out j s hs
      have hXr := Lib.hid (fun u => rXor_yes ⟨(xorAll secret.data.toList (l.take j)).toArray⟩ s (by rw [txt_size, HXl.out j (by omega), hsz]) (by rw [txt_size, HXl.out j (by omega)]; omega) u)
      have exd : (⟨(xorAll secret.data.toList (l.take j)).toArray⟩ : ByteArray).data.toList = xorAll secret.data.toList (l.take j) := by simp
      rw [exd, ← hxs] at hXr
      obtain ⟨x, hx⟩ : ∃ x, x = UInt8.ofNat (j + 1) := ⟨_, rfl⟩
      obtain ⟨y, hy⟩ : ∃ y, y = UInt8.ofNat (l.length + 1) := ⟨_, rfl⟩
      have hcv := fun u => two_textD ((j : Int) + 1) ((l.length : Int) + 1) x y (by rw [hx]; simp; omega) (by rw [hy]; simp; omega) 5 u
      have hcat := share_cat (j + 1) (l.length + 1) x y s hx hy
      obtain ⟨T, hT⟩ : ∃ T, shareT (j + 1) (l.length + 1) s = T := ⟨_, rfl⟩
      rw [hT] at hcat HSj
      have HLe : Hid (((sharesT (l.length + 1) l).take j).length ≤ 1000000) := Lib.hid (by rw [List.length_take]; omega)
      have hw0 : IntKind.i64.wrap ((j : Int) + 1) = (j : Int) + 1 := IntWalk.i64_in _ ⟨by omega, by omega⟩
      have hw1 : IntKind.u8.wrap ((j : Int) + 1) = (j : Int) + 1 := IntWalk.u8_in _ ⟨by omega, by omega⟩
      have hw2 : IntKind.u8.wrap ((l.length : Int) + 1) = (l.length : Int) + 1 := IntWalk.u8_in _ ⟨by omega, by omega⟩
      have hs64 : ¬ 9223372036854775807 < 2 + s.size := by omega
      clear hb hext hs hsz hx hy hT hxs exd
      generalize (⟨(xorAll secret.data.toList (l.take j)).toArray⟩ : ByteArray) = L0 at *
      go_wp2_with (go_at_call 100; refine (hXr.out _).mono ?_; rintro e w2 ⟨rfl, h2⟩)
      have k1 := HC2.out w2 (HE.out.trans h2)
      have k2 := HC2.out _ ((HE.out.trans h2).alloc (.cells #[.int .u8 ((j : Int) + 1), .int .u8 ((l.length : Int) + 1)] 5))
      have HX3 := Lib.hid (((h2.alloc (.cells #[.int .u8 ((j : Int) + 1), .int .u8 ((l.length : Int) + 1)] 5)).alloc (.cells #[.string T] 9)).drew)
      have HCl : Hid (((w2.alloc (.cells #[.int .u8 ((j : Int) + 1), .int .u8 ((l.length : Int) + 1)] 5)).alloc (.cells #[.string T] 9)).cell? ⟨w2.heap.size + 1, 0, none⟩ = some (.string T)) := Lib.hid (by simp)
      go_region_law (refine step_append_text rfl (.tmp 47) (.tmp 60) rfl w.heap.size _ _ (by simp [Act.eval]) (HB.out.ext HX3.out) (w2.heap.size + 1) T (by simp [Act.eval]) HCl.out HLe.out (HE.out.trans HX3.out).size ?_; intro v1 w3 hb1 hx4; have x5 : Ext w w3 := Below.trans (HE.out.trans HX3.out) hx4)
      all_goals
        go_wp2
        go_roundw
        case rel => exact ⟨j + 1, hlt, by go_num, rfl, by rw [HSj.out]; exact hb1, x5⟩
        case measure => simp [intOf]; omega
    · obtain rfl : j = k := by omega
      obtain ⟨a, rfl, _, hc1⟩ := HH.out _ hext j t HK.out
      clear hb hext
      generalize (⟨(xorAll secret.data.toList (l.take j)).toArray⟩ : ByteArray) = L0 at *
      go_wp2
      go_ret2
      exact ⟨rfl, HE.out⟩
end Go.Proofs.YtobhbppogeghnaaGreatDoor
end
