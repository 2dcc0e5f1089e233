/- Contract: a byte written to a builder of strings. Plain: a ring's bytes. Plain: a byte of a text. Texts cut: from, up to, between. Plain: numbers out of their bytes. Contracts: keys by epochs: how many keys a text tells of; a piece taken off what is left: by the program. Contracts: keys by epochs: another ring of the same keys: by the program. Contracts: keys by epochs: a ring's bytes: by the program. Contracts: keys by epochs: a ring read out of its bytes: by the program. -/
import Derived.Shelf.Strings.BuilderK
import Derived.Test.YteddogalmdgjlaaDoorM21
import Derived.Test.YteddogalmdgjlaaDoorM13
import Derived.Test.YteddogalmdgjlaaDoorProg
import Derived.Test.YteddogalmdgjlaaDoorBytes
import Derived.WalkSpells
import Derived.Test.YteddogalmdgjlaaDoorM03
import Derived.WalkKit
import Derived.Test.YteddogalmdgjlaaDoorM19
import Derived.Shelf.SlMaps.Clone
import Derived.Test.YteddogalmdgjlaaDoorM46
import Derived.Test.YteddogalmdgjlaaDoorM20
import Derived.Test.YteddogalmdgjlaaDoorM04
section
namespace Go.Proofs.YteddogalmdgjlaaDoor
open Go.RowKit

def renB : Go.Shelf.Ren := ⟨fun | 167 => 32 | 240 => 42 | 276 => 50 | n => n, fun | 0 => 0 | 4 => 4 | 5 => 5 | 9 => 9 | 20 => 20 | 37 => 35 | 70 => 71 | 72 => 73 | 75 => 75 | 164 => 95 | 80 => 36 | n => n, fun n => n⟩
theorem laysB : Go.Proofs.Lays.n167 Tryd.prog renB := {
  mixed := by kernel_rfl
  f167 := Tryd.func32.trans (congrArg some (by kernel_rfl))
  f240 := Tryd.func42.trans (congrArg some (by kernel_rfl))
  f276 := Tryd.func50.trans (congrArg some (by kernel_rfl))
  t0 := Tryd.underlying0
  a0 := Tryd.isAgg0
  z0 := Tryd.sizeOf0
  v0 := Tryd.zeroValue0
  t4 := Tryd.underlying4
  a4 := Tryd.isAgg4
  z4 := Tryd.sizeOf4
  v4 := Tryd.zeroValue4
  t5 := Tryd.underlying5
  a5 := Tryd.isAgg5
  z5 := Tryd.sizeOf5
  v5 := Tryd.zeroValue5
  t9 := Tryd.underlying9
  a9 := Tryd.isAgg9
  z9 := Tryd.sizeOf9
  v9 := Tryd.zeroValue9
  t20 := Tryd.underlying20
  a20 := Tryd.isAgg20
  z20 := Tryd.sizeOf20
  v20 := Tryd.zeroValue20
  t37 := Tryd.underlying35
  a37 := Tryd.isAgg35
  z37 := Tryd.sizeOf35
  v37 := Tryd.zeroValue35
  t70 := Tryd.underlying71
  a70 := Tryd.isAgg71
  z70 := Tryd.sizeOf71
  v70 := Tryd.zeroValue71
  t72 := Tryd.underlying73
  a72 := Tryd.isAgg73
  z72 := Tryd.sizeOf73
  v72 := Tryd.zeroValue73
  t75 := Tryd.underlying75
  a75 := Tryd.isAgg75
  z75 := Tryd.sizeOf75
  v75 := Tryd.zeroValue75
  t164 := Tryd.underlying95
  a164 := Tryd.isAgg95
  z164 := Tryd.sizeOf95
  v164 := Tryd.zeroValue95 }
theorem extraB : Builder.Extra Tryd.prog renB := {
  sizeBuilder := by kernel_rfl
  liesBuilder := by kernel_rfl
  t5 := Tryd.underlying5
  a5 := Tryd.isAgg5
  z5 := Tryd.sizeOf5
  v5 := Tryd.zeroValue5
  infoByte := by kernel_rfl
  cellsByte := by kernel_rfl
  sizeByte := by kernel_rfl
  neB5 := by decide }
theorem byteCells_oneB (x : Int) (b : UInt8) (hx : x = (b.toNat : Int)) : [Value.int .u8 x] = Lib.byteCells [b] := by subst hx; rfl
theorem byte_b (B b : Nat) (l : List UInt8) (x : Int) (c : UInt8) (hx : x = (c.toNat : Int)) (w : World) (h : IsB w B b l) (hlen : l.length + 1 ≤ 140737488355328) (hBw : B ≤ w.heap.size) :
    Calls Tryd.prog 32 #[.pointer (some ⟨b, 0, none⟩), .int .u8 x] w fun e w' => e = .returned .nilIface ∧ IsB w' B b (l ++ [c]) ∧ Below B w w' :=
  (Any.Builder_WriteByte_k laysB extraB B b (Lib.byteCells l) x w h (by rw [Lib.byteCells_length]; exact hlen) hBw).mono fun _ _ h => ⟨h.1, .inr (by rw [Lib.byteCells_append, ← byteCells_oneB x c hx]; exact h.2.1), h.2.2.1⟩
end Go.Proofs.YteddogalmdgjlaaDoor
end

section
namespace Go.Proofs.YteddogalmdgjlaaDoor
open Go.RowKit

/-- The rows of keys. -/
def rowsL : List (Nat × ByteArray) → List UInt8
  | [] => []
  | x :: r => (be 4 x.1 ++ x.2.data.toList) ++ rowsL r
theorem rowsL_append : ∀ (l m : List (Nat × ByteArray)), rowsL (l ++ m) = rowsL l ++ rowsL m
  | [], _ => rfl
  | x :: r, m => by rw [List.cons_append, rowsL, rowsL_append r m, rowsL, List.append_assoc (be 4 x.1 ++ x.2.data.toList)]
theorem rowsL_succ {L : List (Nat × ByteArray)} {j e : Nat} {s : ByteArray} (h : L[j]? = some (e, s)) : rowsL (L.take (j + 1)) = rowsL (L.take j) ++ be 4 e ++ s.data.toList := by
  rw [List.take_add_one, h, rowsL_append]
  simp [rowsL]
theorem rowsL_length : ∀ {L : List (Nat × ByteArray)}, (∀ x ∈ L, x.2.size = 32) → (rowsL L).length = 36 * L.length
  | [], _ => rfl
  | x :: r, h => by
    have h1 := h x (by simp)
    rw [rowsL, List.length_append, List.length_append, be_length, size_list, rowsL_length fun y hy => h y (by simp [hy]), List.length_cons]
    omega
/-- A ring's bytes. -/
def ringL (L : List (Nat × ByteArray)) : List UInt8 := UInt8.ofNat L.length :: rowsL L
end Go.Proofs.YteddogalmdgjlaaDoor
end

section
namespace Go.Proofs.YteddogalmdgjlaaDoor
open Go.RowKit
theorem text_get (s : ByteArray) (i : Nat) (b : UInt8) (hb : s.data.toList[i]? = some b) : s[i]? = some b := by
  have hi : i < s.data.toList.length := (List.getElem?_eq_some_iff.1 hb).1
  have h2 : i < s.size := by rw [← size_list]; exact hi
  rw [getElem?_pos s i h2]
  rw [List.getElem?_eq_getElem hi] at hb
  exact hb
theorem text_at (s : ByteArray) (i : Nat) (b : UInt8) (hb : s.data.toList[i]? = some b) (h : i < s.size) : s[i] = b := by
  have e := text_get s i b hb
  rw [getElem?_pos s i h] at e
  exact Option.some.inj e
theorem index_text (s : ByteArray) (i : Nat) (b : UInt8) (hb : s.data.toList[i]? = some b) (w : World) :
    (Instr.index 9 (.string s) (.int .i64 (i : Int))).run Tryd.prog w = .ok (.int .u8 (b.toNat : Int)) w := by
  have h := text_get s i b hb
  have hu := Tryd.underlying9
  have h0 : (0 : Int) ≤ (i : Int) := by omega
  simp [Instr.index, run_underlying hu, asIntOf, go_sem, h0, h]
end Go.Proofs.YteddogalmdgjlaaDoor
end

section
namespace Go.Proofs.YteddogalmdgjlaaDoor
open Go.RowKit

theorem cut_to (X : ByteArray) (c : Nat) (h : c ≤ X.size) (u : World) : (Instr.slice 9 (.string X) none (some (.int .i64 (c : Int))) none).run Tryd.prog u = .ok (.string (X.extract 0 c)) u := by
  have hj : (0 : Int) ≤ (c : Int) ∧ (c : Int) ≤ (X.size : Int) := by omega
  simp [Instr.slice, Instr.sliceBounds, Instr.sliceBound, asIntOf, run_underlying Tryd.underlying9, hj]
  intro hgt
  omega
theorem cut_from (X : ByteArray) (c : Nat) (h : c ≤ X.size) (u : World) : (Instr.slice 9 (.string X) (some (.int .i64 (c : Int))) none none).run Tryd.prog u = .ok (.string (X.extract c X.size)) u := by
  have hj : (0 : Int) ≤ (c : Int) ∧ (c : Int) ≤ (X.size : Int) := by omega
  simp [Instr.slice, Instr.sliceBounds, Instr.sliceBound, asIntOf, run_underlying Tryd.underlying9, hj]
  intro hgt
  omega
theorem cut_mid (X : ByteArray) (a c : Nat) (ha : a ≤ c) (h : c ≤ X.size) (u : World) : (Instr.slice 9 (.string X) (some (.int .i64 (a : Int))) (some (.int .i64 (c : Int))) none).run Tryd.prog u = .ok (.string (X.extract a c)) u := by
  have hj : (0 : Int) ≤ (c : Int) ∧ (c : Int) ≤ (X.size : Int) := by omega
  have hk : (0 : Int) ≤ (a : Int) ∧ (a : Int) ≤ (c : Int) := by omega
  simp [Instr.slice, Instr.sliceBounds, Instr.sliceBound, asIntOf, run_underlying Tryd.underlying9, hj, hk]
  rw [if_pos h, if_pos ha]
theorem cut_list (X : ByteArray) (a c : Nat) : (X.extract a c).data.toList = (X.data.toList.drop a).take (c - a) := by
  rw [ByteArray.data_extract, Array.toList_extract, List.extract_eq_take_drop]
end Go.Proofs.YteddogalmdgjlaaDoor
end

section
namespace Go.Proofs.YteddogalmdgjlaaDoor

theorem num_cons (b : UInt8) (l : List UInt8) : num (b :: l) = b.toNat * 256 ^ l.length + num l := by
  have key : ∀ (l : List UInt8) (x : Nat), l.foldl (fun n b => n * 256 + b.toNat) x = x * 256 ^ l.length + num l := by
    intro l
    induction l with
    | nil => intro x; simp [num]
    | cons c r ih =>
      intro x
      have e : num (c :: r) = c.toNat * 256 ^ r.length + num r := by
        show List.foldl _ (0 * 256 + c.toNat) r = _
        rw [ih]; simp
      rw [List.foldl_cons, ih, e, List.length_cons, Nat.pow_succ, Nat.add_mul, Nat.mul_assoc, Nat.mul_comm 256, Nat.add_assoc]
  show List.foldl _ (0 * 256 + b.toNat) l = _
  rw [key]; simp
theorem num_be (n : Nat) : ∀ k, num (be k n) = n % 256 ^ k
  | 0 => by simp [be, num, Nat.mod_one]
  | k + 1 => by
    rw [be, num_cons, num_be n k, be_length, Nat.mod_pow_succ, Nat.add_comm, Nat.mul_comm]
    rfl
end Go.Proofs.YteddogalmdgjlaaDoor
end

section
namespace Go.Proofs.YteddogalmdgjlaaDoor
open Go.RowKit

theorem count_yes (s : ByteArray) (n : Nat) (h0 : 0 < s.size) (hb : s[0].toNat = n) (h1 : 1 ≤ n) (h64 : n ≤ 64) (hs : s.size = 1 + n * 36) (w : World) :
    Calls Tryd.prog 25 #[.string s] w fun e w' => e = .returned (.tuple #[.int .i64 (n : Int), .bool true]) ∧ w = w' := by
  have hemp : s.toList.isEmpty = false := by
    have hl : s.toList.length = s.size := by rw [ByteArray.toList_eq, size_list]
    cases hq : s.toList with
    | nil => rw [hq] at hl; simp at hl; omega
    | cons => rfl
  have hw : wrap64 (s[0].toNat : Int) = (n : Int) := by rw [hb]; simp [wrap64]; omega
  have hsi : (s.size : Int) = 1 + (n : Int) * 36 := by omega
  have h1i : ¬ ((n : Int) < 1) := by omega
  have h1j : 1 ≤ (n : Int) := by omega
  have h64i : ¬ (64 : Int) < (n : Int) := by omega
  have h64j : (n : Int) ≤ 64 := by omega
  have hsz := Lib.hid hs; have HB := Lib.hid hb
  have h0i : (0 : Int) < (s.size : Int) := by omega
  clear hs hb
  go_enter Tryd.func25, Tryd.ntmps25
  go_wp2
  go_ret2
  exact ⟨rfl, rfl⟩
theorem takeK_any (w : World) (c : Nat) (X : ByteArray) (k : Nat) (hk : k ≤ X.size) (hB : Blk w c 9 [.string X]) :
    Calls Tryd.prog 26 #[.int .i64 (k : Int), .pointer (some ⟨c, 0, none⟩)] w fun e w' => e = .returned (.string (X.extract 0 k)) ∧ w' = w.setCell ⟨c, 0, none⟩ (.string (X.extract k X.size)) := by
  have h1 := fun u => cut_to X k hk u
  have h2 := fun u => cut_from X k hk u
  have c0 := hB.cell 0 _ rfl
  have f0 := hB.frozen 0
  clear hB
  go_enter Tryd.func26, Tryd.ntmps26
  go_wp2
  go_ret
  exact ⟨rfl, rfl⟩
end Go.Proofs.YteddogalmdgjlaaDoor
end

section
namespace Go.Proofs.YteddogalmdgjlaaDoor
open Go.RowKit

set_option maxRecDepth 100000 in
set_option maxHeartbeats 2000000 in
theorem clone_any (w : World) (b : Nat) (es : Array MapEntry) (clock : Nat) (hb : w.heap[b]? = some (.map es clock)) :
    Calls Tryd.prog 36 #[.map (some b)] w fun e w' => e = .returned (.map (some w.heap.size)) ∧ w' = w.alloc (.map es clock) := by
  have hq := fun w => run_eql_map_nil_sl (P := Tryd.prog) w 60 _ _ (some b) Tryd.underlying60
  simp only [Option.isNone_some] at hq
  have hmi : ∀ u, (Instr.makeInterface 60 (.map (some b))).run Tryd.prog u = .ok (.iface 60 (.map (some b))) u := fun u => by kernel_rfl
  go_enter Tryd.func36, Tryd.ntmps36
  go_wp2
  rw [run_callFunc_extern Tryd.func44 (by kernel_rfl) (by kernel_rfl) (by kernel_rfl) (e := Extern.MapsClone.clone) (by kernel_rfl), run_maps_clone_sl w 60 hb]
  simp only [Result.andThen]
  rw [Oper.upon_value]
  go_wp2
  rw [run_typeAssert_map_sl _ 60 20 _ _ _ Tryd.underlying60]
  simp only [Result.andThen]
  rw [Oper.upon_value]
  go_wp2
  go_ret
  exact ⟨rfl, rfl⟩
theorem copy_nil (w : World) :
    Calls Tryd.prog 19 #[.pointer none] w fun e w' => e = .returned (.pointer none) ∧ w = w' := by
  go_enter Tryd.func19, Tryd.ntmps19
  go_wp2_with (go_at_call 30; refine (thereK_no _).mono ?_; rintro e w1 ⟨rfl, rfl⟩)
  go_ret
  exact ⟨rfl, rfl⟩
theorem copy_any (w : World) (r b : Nat) (L : List (Nat × ByteArray)) (h : IsK w r b L) :
    Calls Tryd.prog 19 #[.pointer (some ⟨r, 0, none⟩)] w fun e w' => ∃ r2 b2, e = .returned (.pointer (some ⟨r2, 0, none⟩)) ∧ IsK w' r2 b2 L ∧ w.heap.size ≤ r2 ∧ w.heap.size ≤ b2 ∧ Ext w w' := by
  have hc := h.cell
  obtain ⟨M, hp, es, clock, hb, hs, hl, hk⟩ := h.map
  have HG := Lib.hid h.good
  have hm2 : IsM (w.alloc (.map es clock)) w.heap.size L := ⟨M, hp, es, clock, heap_alloc_new w _, hs, hl, hk⟩
  obtain ⟨W0, hW0⟩ : ∃ W0, w.alloc (.map es clock) = W0 := ⟨_, rfl⟩
  have hx0 : Ext w W0 := by rw [← hW0]; exact (Ext.refl w).alloc _
  have HC := Lib.hid (clone_any w b es clock hb)
  rw [hW0] at hm2 HC
  have HM := Lib.hid hm2; have HX := Lib.hid hx0
  clear h hm2 hp hb hs hl hk hW0 hx0
  go_enter Tryd.func19, Tryd.ntmps19
  go_wp2_with (first
    | (go_at_call 30; refine (thereK_yes _ r b hc).mono ?_; rintro e w1 ⟨rfl, rfl⟩)
    | (go_at_call 36; refine (HC.out).mono ?_; rintro e w1 ⟨rfl, rfl⟩))
  go_ret
  exact ⟨_, _, rfl, ⟨Blk.new _ _ _, HM.out.alloc _, HG.out⟩, HX.out.size, Nat.le_refl _, HX.out.alloc _⟩
end Go.Proofs.YteddogalmdgjlaaDoor
end

section
namespace Go.Proofs.YteddogalmdgjlaaDoor
open Go.RowKit

theorem field_rk (s : ByteArray) (u : World) : (Instr.field 64 (.agg #[.string s]) 0).run Tryd.prog u = .ok (.string s) u := by kernel_rfl
/-- A text written: what else is no row of bytes stays. -/
theorem write_k (B b : Nat) (l : List UInt8) (s : ByteArray) (w : World) (h : IsB w B b l) (hlen : l.length + s.size ≤ 140737488355328) (hBw : B ≤ w.heap.size) :
    Calls Tryd.prog 33 #[.pointer (some ⟨b, 0, none⟩), .string s] w fun e w' => (∃ v, e = .returned v) ∧ IsB w' B b (l ++ s.data.toList) ∧ Below B w w' ∧ Lib.OthersKept 5 (some b) w w' :=
  (Any.Builder_WriteString_k laysW extraW B b (Lib.byteCells l) s w h (by rw [Lib.byteCells_length]; exact hlen) hBw).mono fun _ _ q => ⟨⟨_, q.1⟩, .inr (by rw [Lib.byteCells_append]; exact q.2.1), q.2.2⟩
theorem write_km (B b : Nat) (l m : List UInt8) (w : World) (h : IsB w B b l) (hlen : l.length + m.length ≤ 140737488355328) (hBw : B ≤ w.heap.size) :
    Calls Tryd.prog 33 #[.pointer (some ⟨b, 0, none⟩), .string ⟨m.toArray⟩] w fun e w' => (∃ v, e = .returned v) ∧ IsB w' B b (l ++ m) ∧ Below B w w' ∧ Lib.OthersKept 5 (some b) w w' := by
  have h1 := write_k B b l ⟨m.toArray⟩ w h (by rw [txt_size]; exact hlen) hBw
  have e : (⟨m.toArray⟩ : ByteArray).data.toList = m := by simp
  rw [e] at h1
  exact h1
theorem IsE.kept {w w' : World} {B g c k : Nat} {l : List Nat} (h : IsE w B g c l) (hk : Lib.OthersKept 5 (some k) w w') (hg : g ≠ k) : IsE w' B g c l := by
  obtain ⟨⟨pos, h1, h2⟩, h3, h4⟩ := h
  refine ⟨⟨pos, hk g _ h1 (by simpa using hg) (fun c fz e => ?_), h2⟩, h3, h4⟩
  injection e with _ e2
  exact absurd e2 (by decide)
theorem bytes_nil (w : World) :
    Calls Tryd.prog 18 #[.pointer none] w fun e w' => e = .returned (.string ⟨#[]⟩) ∧ w = w' := by
  go_enter Tryd.func18, Tryd.ntmps18
  go_wp2_with (go_at_call 30; refine (thereK_no _).mono ?_; rintro e w1 ⟨rfl, rfl⟩)
  go_ret
  exact ⟨rfl, rfl⟩
set_option maxRecDepth 100000 in
set_option maxHeartbeats 4000000 in
theorem bytes_any (w : World) (r b : Nat) (L : List (Nat × ByteArray)) (h : IsK w r b L) :
    Calls Tryd.prog 18 #[.pointer (some ⟨r, 0, none⟩)] w fun e w' => e = .returned (.string ⟨(ringL L).toArray⟩) ∧ Ext w w' := by
  have hc := h.cell
  have hlen := fun ty => h.map.len ty
  have h64 := h.good.few
  have HK := Lib.hid h
  have hb0 := IsB.new w w.heap.size (Nat.le_refl _)
  obtain ⟨W0, hW0⟩ : ∃ W0, w.alloc (.cells #[.pointer none, .slice none 0 0] 73) = W0 := ⟨_, rfl⟩
  have hx0 : Ext w W0 := by rw [← hW0]; exact (Ext.refl w).alloc _
  rw [hW0] at hb0
  have HB0 := Lib.hid hb0; have HX0 := Lib.hid hx0
  have hz0 : w.heap.size < W0.heap.size := by rw [← hW0]; simp
  have HZ0 := Lib.hid hz0
  clear hz0
  have hc2 := (h.ext hx0).cell
  have hlen2 := fun ty => (h.ext hx0).map.len ty
  have hwr : IntKind.u8.wrap (L.length : Int) = (L.length : Int) := by simp [IntKind.wrap, IntKind.signed, IntKind.bits]; omega
  have hE := fun u (hu : IsK u r b L) => epochs_any u r b L hu
  have HE := Lib.hid hE
  clear h hb0 hx0 hE
  go_enter Tryd.func18, Tryd.ntmps18
  go_wp2_with (first
    | (go_at_call 30; refine (thereK_yes _ r b hc).mono ?_; rintro e w1 ⟨rfl, rfl⟩)
    | (go_at_call 32; refine (byte_b w.heap.size w.heap.size [] _ (UInt8.ofNat L.length) (by simp; omega) _ HB0.out (by simp) HX0.out.size).mono ?_; rintro e w2 ⟨rfl, hb2, x2⟩; have HB2 := Lib.hid hb2; have HX2 : Hid (Ext w w2) := Lib.hid (HX0.out.trans3 x2); have HZ2 : Hid (w.heap.size < w2.heap.size) := Lib.hid (Nat.lt_of_lt_of_le HZ0.out x2.size); clear hb2 x2)
    | (go_at_call 22; refine (HE.out _ (HK.out.ext HX2.out)).mono ?_; rintro e w3 ⟨g, c, rfl, i3, x3⟩; have HB3 := Lib.hid (HB2.out.ext x3); have E3 := Lib.hid i3; have HX3 := Lib.hid (HX2.out.trans x3); clear i3 x3))
  have hsz : ∀ x ∈ L, x.2.size = 32 := fun x hx => (HK.out.good.each x hx).2.2
  have HSz := Lib.hid hsz
  clear hsz hlen hlen2 hc hc2 hW0
  go_loopw [19] (fun jv wr => ∃ j : Nat, j ≤ L.length ∧ jv = .int .i64 (j : Int) ∧ Hid (IsB wr w.heap.size w.heap.size (UInt8.ofNat L.length :: rowsL (L.take j))) ∧ Hid (IsE wr w2.heap.size g c (eps L)) ∧ Hid (Ext w wr)) (fun jv _ => L.length - (intOf jv).toNat)
  case atStart => exact ⟨0, Nat.zero_le _, rfl, Lib.hid (by simpa [rowsL] using HB3.out), E3, HX3⟩
  case round =>
    obtain ⟨j, hj, rfl, hB, hE, hX⟩ := hrel
    by_cases hlt : j < L.length
    · have hlti : (j : Int) < (L.length : Int) := by omega
      obtain ⟨⟨e, s⟩, hx⟩ : ∃ x, L[j]? = some x := ⟨_, List.getElem?_eq_getElem hlt⟩
      have hmem := List.mem_of_getElem? hx
      have hs : s.size = 32 := HSz.out _ hmem
      have he32 : e < 4294967296 := (HK.out.good.each _ hmem).2.1
      have hjl : j < (eps L).length := by simpa [eps] using hlt
      have hje : (eps L)[j] = e := by
        obtain ⟨h1, h2⟩ := List.getElem?_eq_some_iff.1 hx
        simp [eps, h2]
      have hle := hE.out.le
      have cj := hE.out.at_ j e hjl hje
      have HLk := Lib.hid (fun u (hu : IsM u b L) => hu.look false he32 hmem)
      have HSu := Lib.hid (rowsL_succ hx)
      have hln : (UInt8.ofNat L.length :: rowsL (L.take j)).length ≤ 3000 := by
        rw [List.length_cons, rowsL_length fun y hy => HSz.out y (List.mem_of_mem_take hy), List.length_take]
        omega
      have HLn := Lib.hid hln
      have hbl := Lib.hid (be_length 4 e)
      have hfd := field_rk s
      have hel : (eps L).length = L.length := by simp [eps]
      have HEl := Lib.hid hel
      rw [hel] at hle
      clear hx hmem hjl hje hln hel
      generalize rowsL (L.take j) = R at *
      have HPut := Lib.hid (fun u => Put32_any e u)
      generalize be 4 e = E at *
      have HW1 := Lib.hid (fun u hu hs => write_km w.heap.size w.heap.size (UInt8.ofNat L.length :: R) E u hu (by have h1 := HLn.out; have h2 := hbl.out; omega) hs)
      have HW2 := Lib.hid (fun u hu hs => write_k w.heap.size w.heap.size (UInt8.ofNat L.length :: R ++ E) s u hu (by have h1 := HLn.out; have h2 := hbl.out; rw [List.length_append]; omega) hs)
      go_wp2_with (first
        | (go_at_call 34; refine (HPut.out _).mono ?_; rintro e1 w4 ⟨rfl, x4⟩; have HB4 := Lib.hid (hB.out.ext x4); have HE4 := Lib.hid (hE.out.ext x4); have HX4 := Lib.hid (hX.out.trans x4); clear x4)
        | (go_at_call 33; refine (HW1.out _ HB4.out HX4.out.size).mono ?_; rintro e1 w5 ⟨⟨v5, rfl⟩, hb5, x5, o5⟩; have HB5 := Lib.hid hb5; have HE5 := Lib.hid (HE4.out.kept o5 (Nat.ne_of_gt (Nat.lt_of_lt_of_le HZ2.out HE4.out.new))); have HX5 := Lib.hid (HX4.out.trans3 x5); have HK5 := Lib.hid (HK.out.ext HX5.out); have c5 := HK5.out.cell; have hlk := HLk.out _ HK5.out.map; simp only [Bool.false_eq_true, if_false] at hlk; clear hb5 x5 o5 HW1)
        | (go_at_call 33; refine (HW2.out _ HB5.out HX5.out.size).mono ?_; rintro e1 w6 ⟨⟨v6, rfl⟩, hb6, x6, o6⟩; have HB6 := Lib.hid hb6; have HE6 := Lib.hid (HE5.out.kept o6 (Nat.ne_of_gt (Nat.lt_of_lt_of_le HZ2.out HE5.out.new))); have HX6 := Lib.hid (HX5.out.trans3 x6); clear hb6 x6 o6))
      have h6 := HB6.out
      rw [List.cons_append, List.cons_append, ← HSu.out] at h6
      have HB7 := Lib.hid h6
      clear h6
      go_roundw
      case rel => exact ⟨j + 1, hlt, by go_num, HB7, HE6, HX6⟩
      case measure => simp [intOf]; omega
    · obtain rfl : j = L.length := by omega
      have HB9 := Lib.hid (by have := hB.out; rwa [List.take_length] at this)
      have HS := Lib.hid (fun u (hu : Ext w u) (h : IsB u w.heap.size w.heap.size (UInt8.ofNat L.length :: rowsL L)) => string_b w.heap.size w.heap.size _ u h hu.size)
      go_wp2_with (go_at_call 35; refine (HS.out _ hX.out HB9.out).mono ?_; rintro e1 w9 ⟨rfl, x9⟩)
      go_ret
      exact ⟨rfl, hX.out.trans3 x9⟩
end Go.Proofs.YteddogalmdgjlaaDoor
end

section
namespace Go.Proofs.YteddogalmdgjlaaDoor
open Go.RowKit

theorem getK_be (e : Nat) (h : e < 4294967296) : getv ⟨(be 4 e).toArray⟩ 0 4 = e ∧ gets ⟨(be 4 e).toArray⟩ 0 4 = true := by
  have hz : ByteArray.size ⟨(be 4 e).toArray⟩ = 4 := by rw [txt_size, be_length]
  have h0 : (0 : Int) ≤ ((0 : Nat) : Int) ∧ ((0 : Nat) : Int) ≤ (ByteArray.size ⟨(be 4 e).toArray⟩ : Int) - 4 := by rw [hz]; decide
  refine ⟨?_, gets_yes (k := 4) h0⟩
  have := getv_yes (k := 4) h0
  rw [show ((0 : Nat) : Int) = 0 from rfl] at this
  rw [this]
  have hs : sub ⟨(be 4 e).toArray⟩ 0 4 = be 4 e := by
    unfold sub
    simp
    exact List.take_of_length_le (by rw [be_length]; exact Nat.le_refl _)
  rw [hs, num_be]
  omega
/-- What is left of rows: a piece, and the rest. -/
theorem left_cut (a r : List UInt8) : (⟨(a ++ r).toArray⟩ : ByteArray).extract 0 a.length = ⟨a.toArray⟩ ∧ (⟨(a ++ r).toArray⟩ : ByteArray).extract a.length (ByteArray.size ⟨(a ++ r).toArray⟩) = ⟨r.toArray⟩ := by
  constructor
  · apply ByteArray.ext
    apply Array.toList_inj.1
    simp
  · apply ByteArray.ext
    apply Array.toList_inj.1
    rw [txt_size]
    simp
theorem IsM.other {w : World} {b : Nat} {L : List (Nat × ByteArray)} (h : IsM w b L) {c : Nat} (hb : b ≠ c) (o : Nat) (v : Value) : IsM (w.setCell ⟨c, o, none⟩ v) b L := h.same (Below.heap_setCell _ _ _ _ hb)
/-- A piece taken off. -/
theorem takeK_cut (w : World) (c : Nat) (a r : List UInt8) (k : Nat) (ki : Int) (hki : ki = (k : Int)) (ha : a.length = k) (hB : Blk w c 9 [.string ⟨(a ++ r).toArray⟩]) :
    Calls Tryd.prog 26 #[.int .i64 ki, .pointer (some ⟨c, 0, none⟩)] w fun e w' => e = .returned (.string ⟨a.toArray⟩) ∧ Blk w' c 9 [.string ⟨r.toArray⟩] ∧ w' = w.setCell ⟨c, 0, none⟩ (.string ⟨r.toArray⟩) := by
  subst hki
  subst ha
  have h := takeK_any w c ⟨(a ++ r).toArray⟩ a.length (by rw [txt_size, List.length_append]; omega) hB
  rw [(left_cut a r).1, (left_cut a r).2] at h
  exact h.mono fun e w' q => ⟨q.1, by rw [q.2]; exact hB.set_ 0 _, q.2⟩
theorem set_m {w a b : World} {v : Value} {L : List (Nat × ByteArray)} (h : b = a.setCell ⟨w.heap.size, 0, none⟩ v) (hm : IsM a (w.heap.size + 1) L) : IsM b (w.heap.size + 1) L := by
  subst h
  exact hm.other (Nat.succ_ne_self _) _ _
theorem set_x {w a b : World} {v : Value} (h : b = a.setCell ⟨w.heap.size, 0, none⟩ v) (hx : Ext w a) : Ext w b := by
  subst h
  exact hx.setCell (Nat.le_refl _) _
theorem string_of (s : ByteArray) : (⟨s.data.toList.toArray⟩ : ByteArray) = s := by
  apply ByteArray.ext
  simp
set_option maxRecDepth 100000 in
set_option maxHeartbeats 4000000 in
theorem read_yes (w : World) (L : List (Nat × ByteArray)) (hG : GoodK L) :
    Calls Tryd.prog 12 #[.string ⟨(ringL L).toArray⟩] w fun e w' => ∃ r b, e = .returned (.tuple #[.pointer (some ⟨r, 0, none⟩), .int .i64 0]) ∧ IsK w' r b L ∧ w.heap.size ≤ r ∧ w.heap.size ≤ b ∧ Ext w w' := by
  have h1 : 1 ≤ L.length := by have := hG.ne; cases L with | nil => exact absurd rfl this | cons => simp
  have h64 := hG.few
  have hsz : ByteArray.size ⟨(ringL L).toArray⟩ = 1 + L.length * 36 := by
    rw [txt_size, ringL, List.length_cons, rowsL_length fun x hx => (hG.each x hx).2.2]
    omega
  have HCnt := Lib.hid (fun u => count_yes ⟨(ringL L).toArray⟩ L.length (by rw [hsz]; omega) (by
    rw [text_at _ 0 (UInt8.ofNat L.length) (by simp [ringL]) (by rw [hsz]; omega)]
    simp
    omega) h1 h64 hsz u)
  have hcut : ∀ u, (Instr.slice 9 (.string ⟨(ringL L).toArray⟩) (some (.int .i64 1)) none none).run Tryd.prog u = .ok (.string ⟨(rowsL L).toArray⟩) u := fun u => by
    have := cut_from ⟨(ringL L).toArray⟩ 1 (by rw [hsz]; omega) u
    have e := (left_cut [UInt8.ofNat L.length] (rowsL L)).2
    rw [show ([UInt8.ofNat L.length] ++ rowsL L) = ringL L from rfl, show [UInt8.ofNat L.length].length = 1 from rfl] at e
    rw [e] at this
    exact this
  have hmm := @run_makeMap Tryd.prog
  have HGd := Lib.hid hG
  have HSz := Lib.hid hsz
  clear hG hsz
  generalize (⟨(ringL L).toArray⟩ : ByteArray) = S at *
  generalize hR0 : (⟨(rowsL L).toArray⟩ : ByteArray) = R0 at *
  have HR0 := Lib.hid hR0
  clear hR0
  go_enter Tryd.func12, Tryd.ntmps12
  go_wp2_with (go_at_call 25; refine (HCnt.out _).mono ?_; rintro e w1 ⟨rfl, rfl⟩)
  have X1 : Ext w (w.alloc (.cells #[.string R0] 9)) := (Ext.refl w).alloc _
  have B1 := Blk.new w [.string R0] 9
  have M1 := IsM.made (w.alloc (.cells #[.string R0] 9))
  have hz1 : (w.alloc (.cells #[.string R0] 9)).heap.size = w.heap.size + 1 := by simp
  rw [hz1] at M1
  have X2 := X1.alloc (.map #[] 0)
  have B2 := B1.alloc (.map #[] 0)
  have HX2 := Lib.hid X2; have HB2 := Lib.hid B2; have HM2 := Lib.hid M1
  clear X1 B1 M1 hz1 X2 B2 hmm hcut
  go_loopw [9, 24] (fun lv iv wr => ∃ j m : Nat, j ≤ L.length ∧ iv = .int .i64 (j : Int) ∧ lv = .int .u32 (m : Int) ∧ Hid (∀ e ∈ eps (L.drop j), m < e) ∧ Hid (Blk wr w.heap.size 9 [.string ⟨(rowsL (L.drop j)).toArray⟩]) ∧ Hid (IsM wr (w.heap.size + 1) (L.take j)) ∧ Hid (Ext w wr)) (fun _ iv _ => L.length - (intOf iv).toNat)
  case atStart =>
    refine ⟨0, 0, Nat.zero_le _, rfl, rfl, Lib.hid (fun e he => ?_), Lib.hid ?_, Lib.hid ?_, HX2⟩
    · have := (HGd.out.eps_each e (by simpa using he)).1
      omega
    · rw [List.drop_zero, HR0.out]; exact HB2.out
    · rw [List.take_zero]; exact HM2.out
  case round =>
    obtain ⟨j, m, hj, rfl, rfl, HMn, HB, HM, HX⟩ := hrel
    by_cases hlt : j < L.length
    · have hlti : (j : Int) < (L.length : Int) := by omega
      obtain ⟨⟨e, s⟩, hx⟩ : ∃ x, L[j]? = some x := ⟨_, List.getElem?_eq_getElem hlt⟩
      have hmem := List.mem_of_getElem? hx
      have hs : s.size = 32 := (HGd.out.each _ hmem).2.2
      have he32 : e < 4294967296 := (HGd.out.each _ hmem).2.1
      have hd : L.drop j = (e, s) :: L.drop (j + 1) := by
        obtain ⟨h1, h2⟩ := List.getElem?_eq_some_iff.1 hx
        rw [← h2]
        exact List.drop_eq_getElem_cons h1
      have ht : L.take (j + 1) = L.take j ++ [(e, s)] := by
        rw [List.take_add_one, hx]
        rfl
      have hme : m < e := HMn.out e (by rw [hd]; simp [eps])
      have hup := HGd.out.up
      rw [← List.take_append_drop j L, hd] at hup
      unfold eps at hup
      rw [List.map_append, List.pairwise_append] at hup
      have hnot : e ∉ eps (L.take j) := fun q => by
        have := hup.2.2 e q e (by simp)
        exact Nat.lt_irrefl _ this
      have hnext : ∀ x ∈ eps (L.drop (j + 1)), e < x := fun x hx => by
        have := hup.2.1
        rw [List.map_cons] at this
        exact List.rel_of_pairwise_cons this hx
      have HNx := Lib.hid hnext; have HNo := Lib.hid hnot; have HT := Lib.hid ht
      have hB := HB.out
      rw [hd, rowsL, List.append_assoc] at hB
      have HB2 := Lib.hid hB
      have HT1 := Lib.hid (fun u (hu : Blk u w.heap.size 9 [.string ⟨(be 4 e ++ (s.data.toList ++ rowsL (L.drop (j + 1)))).toArray⟩]) => takeK_cut u w.heap.size _ _ 4 4 rfl (be_length 4 e) hu)
      have HT2 := Lib.hid (fun u (hu : Blk u w.heap.size 9 [.string ⟨(s.data.toList ++ rowsL (L.drop (j + 1))).toArray⟩]) => by
        have := takeK_cut u w.heap.size s.data.toList _ 32 32 rfl (by rw [size_list]; exact hs) hu
        rw [string_of] at this
        exact this)
      have HG4 := Lib.hid (fun u => by
        have := Get32_any ⟨(be 4 e).toArray⟩ 0 (by rw [txt_size, be_length]; omega) u
        rw [(getK_be e he32).1, (getK_be e he32).2] at this
        exact this)
      have HRk := Lib.hid (fun u => rootKeyOf_any s hs u)
      have HPt := Lib.hid (fun u (hu : IsM u (w.heap.size + 1) (L.take j)) => hu.put (e := e) (s := s) he32 hnot)
      have hle : ¬ (e : Int) ≤ (m : Int) := by omega
      clear hx hmem hd ht hup hnot hnext hB HB HR0 HSz HCnt
      generalize hRr : rowsL (L.drop (j + 1)) = Rr at *
      have HRr := Lib.hid hRr
      clear hRr
      generalize be 4 e = E at *
      go_wp2_with (first
        | (go_at_call 26; (with_reducible refine (HT1.out _ HB2.out).mono ?_); rintro e1 w4 ⟨rfl, b4, hw4⟩; have B4 := Lib.hid b4; have M4 := Lib.hid (set_m hw4 HM.out); have X4 := Lib.hid (set_x hw4 HX.out); clear b4 hw4)
        | (go_at_call 27; refine (HG4.out _).mono ?_; rintro e1 w5 ⟨rfl, rfl⟩)
        | (go_at_call 26; (with_reducible refine (HT2.out _ B4.out).mono ?_); rintro e1 w6 ⟨rfl, b6, hw6⟩; have B6 := Lib.hid b6; have M6 := Lib.hid (set_m hw6 M4.out); have X6 := Lib.hid (set_x hw6 X4.out); clear b6 hw6)
        | (go_at_call 28; refine (HRk.out _).mono ?_; rintro e1 w7 ⟨rfl, x7⟩; obtain ⟨w8, hrun, m8, t8⟩ := HPt.out _ (M6.out.ext x7); have M8 := Lib.hid m8; have B7 := Lib.hid (B6.out.ext x7); have X7 := Lib.hid (X6.out.trans x7); have T8 := Lib.hid t8; clear m8 t8 x7))
      have g8 := T8.out.grown
      have B8' : Blk w8 w.heap.size 9 [.string ⟨Rr.toArray⟩] := (g8.block _ B7.out.lt (by simp)).trans B7.out
      have X8 : Ext w w8 := X7.out.grown g8 (fun k hk => by cases hk; omega)
      have B8 := B8'
      rw [← HRr.out] at B8
      have M9 := M8.out
      rw [← HT.out] at M9
      clear hrun
      go_roundw
      case rel => exact ⟨j + 1, e, hlt, by go_num, rfl, HNx, Lib.hid B8, Lib.hid M9, Lib.hid X8⟩
      case measure => simp [intOf]; omega
    · obtain rfl : j = L.length := by omega
      have HM9 := Lib.hid (by have := HM.out; rwa [List.take_length] at this)
      go_wp2
      go_ret2
      exact ⟨_, _, rfl, ⟨Blk.new _ _ _, HM9.out.alloc _, HGd.out⟩, HX.out.size, Nat.le_succ _, HX.out.alloc _⟩
end Go.Proofs.YteddogalmdgjlaaDoor
end
