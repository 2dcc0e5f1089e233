/- Contracts: the state's bytes, by the program: through a builder of the library's. Texts with their tail, block by block: plain. -/
import Derived.Test.YteddogalmdgjlaaDoorM21
import Derived.Test.YteddogalmdgjlaaDoorTake
import Derived.Test.YteddogalmdgjlaaDoorM20
import Derived.Test.YteddogalmdgjlaaDoorShelf
import Derived.Test.YteddogalmdgjlaaDoorM13
section
namespace Go.Proofs.YteddogalmdgjlaaDoor
open Go.RowKit

theorem write_any (B b : Nat) (bs : List Value) (s : ByteArray) (w : World) (h : Lib.IsBuilderF 73 5 B b bs w) (hlen : bs.length + s.size ≤ 140737488355328) (hBw : B ≤ w.heap.size) :
    Calls Tryd.prog 33 #[.pointer (some ⟨b, 0, none⟩), .string s] w fun e w' => e = .returned (.tuple #[.int .i64 s.size, .nilIface]) ∧ (Lib.IsBuilderF 73 5 B b (bs ++ Lib.strCells s) w' ∧ Below B w w') :=
  (Any.Builder_WriteString_f { Tryd.lays105 with } Tryd.Builder_Extra_105 B b bs s w h hlen hBw).mono fun _ _ h => ⟨h.1, .inr h.2.1, h.2.2⟩
/-- The bytes of the first n numbers. -/
def cat (l : List Nat) (n : Nat) : List UInt8 := (l.take n).flatMap (be 4)
theorem cat_succ (l : List Nat) (n : Nat) (h : n < l.length) : cat l (n + 1) = cat l n ++ be 4 (l.getD n 0) := by
  unfold cat
  rw [List.take_succ_eq_append_getElem h, List.flatMap_append]
  congr 1
  simp [List.getElem?_eq_getElem h]
theorem cat_length (l : List Nat) (n : Nat) : (cat l n).length ≤ 4 * n := by
  unfold cat
  induction n generalizing l with
  | zero => simp
  | succ n ih =>
    cases l with
    | nil => simp
    | cons x r => simp only [List.take_succ_cons, List.flatMap_cons, List.length_append, be_length]; have := ih r; omega
theorem cat_all (s : St) : cat s.list 8 = txt s := by
  unfold cat txt St.list
  simp [List.flatMap_cons, List.append_assoc]
theorem fresh_builder (w : World) (B : Nat) (hB : B ≤ w.heap.size) : Lib.IsBuilderF 73 5 B w.heap.size [] (w.alloc (.cells #[.pointer none, .slice none 0 0] 73)) :=
  .inl ⟨hB, _, heap_alloc_new w _, World.ownsRowF_of (World.ownsRow_nil _ _ _ _), by simp [Value.ownBlock]⟩

theorem builder_ext {B b : Nat} {bs : List Value} {w w' : World} (h : Lib.IsBuilderF 73 5 B b bs w) (hx : Ext w w') : Lib.IsBuilderF 73 5 B b bs w' := by
  have key : ∀ p, Lib.BuilderAtF 73 5 B b p bs w → Lib.BuilderAtF 73 5 B b p bs w' := by
    rintro p ⟨hB, v, hv, hown, hne⟩
    refine ⟨hB, v, (hx.below.block b (heap_lt hv)).trans hv, ⟨hown.1, ?_⟩, hne⟩
    rcases hown.2 with h0 | ⟨g, cap, cur, fz, e1, e2, e3, e4⟩
    · exact .inl h0
    · exact .inr ⟨g, cap, cur, fz, e1, e2, (hx.below.block g (heap_lt e3)).trans e3, e4⟩
  exact h.imp (key _) (key _)

set_option maxRecDepth 100000 in
set_option maxHeartbeats 1000000 in
theorem text_any (s : St) (w : World) :
    Calls Tryd.prog 91 #[.agg #[.int .u32 (s.a : Int), .int .u32 (s.b : Int), .int .u32 (s.c : Int), .int .u32 (s.d : Int), .int .u32 (s.e : Int), .int .u32 (s.f : Int), .int .u32 (s.g : Int), .int .u32 (s.h : Int)]] w fun e w' => e = .returned (.string ⟨(txt s).toArray⟩) ∧ Ext w w' := by
  have HI := Lib.hid (index8s 136 Tryd.underlying136 s.a s.b s.c s.d s.e s.f s.g s.h)
  have HC := Lib.hid (cat_all s)
  obtain ⟨a, b, c, d, ee, f, g, h⟩ := s
  simp only at HI
  go_enter Tryd.func91, Tryd.ntmps91
  go_wp2_with fail
  go_loopw [7] (fun i wr => ∃ n : Nat, n ≤ 8 ∧ i = .int .i64 n ∧ Lib.IsBuilderF 73 5 w.heap.size (w.heap.size + 1) (Lib.byteCells (cat (St.list ⟨a, b, c, d, ee, f, g, h⟩) n)) wr ∧ Ext w wr) (fun i _ => 8 - (intOf i).toNat)
  case atStart => exact ⟨0, by omega, rfl, by simpa [cat, Lib.byteCells] using fresh_builder (w.alloc _) w.heap.size (by simp), ((Ext.refl w).alloc _).alloc _⟩
  case round =>
    obtain ⟨n, hn, rfl, hbuf, hext⟩ := hrel
    by_cases hlt : n < 8
    · have hl := cat_length (St.list ⟨a, b, c, d, ee, f, g, h⟩) n
      have hs := cat_succ (St.list ⟨a, b, c, d, ee, f, g, h⟩) n hlt
      have hst : ∀ u, Lib.IsBuilderF 73 5 w.heap.size (w.heap.size + 1) (Lib.byteCells (cat (St.list ⟨a, b, c, d, ee, f, g, h⟩) n) ++ Lib.strCells ⟨(be 4 ((St.list ⟨a, b, c, d, ee, f, g, h⟩).getD n 0)).toArray⟩) u →
          Lib.IsBuilderF 73 5 w.heap.size (w.heap.size + 1) (Lib.byteCells (cat (St.list ⟨a, b, c, d, ee, f, g, h⟩) (n + 1))) u := fun u hu => by rw [hs, Lib.byteCells_append]; exact hu
      have H5 := Lib.hid hst
      have hsz := hext.size
      have H1 := Lib.hid hl; have H3 := Lib.hid hext; have H4 := Lib.hid hbuf
      clear hl hs hst hext hbuf
      obtain ⟨x0, x1, x2, x3, x4, x5, x6, x7⟩ := HI.out
      rcases (show n = 0 ∨ n = 1 ∨ n = 2 ∨ n = 3 ∨ n = 4 ∨ n = 5 ∨ n = 6 ∨ n = 7 by omega) with rfl | rfl | rfl | rfl | rfl | rfl | rfl | rfl
      all_goals
        go_wp2_with (first
          | (go_at_call 34; refine (Put32_any _ _).mono ?_; rintro e w1 ⟨rfl, h1⟩)
          | (go_at_call 33; refine (write_any w.heap.size (w.heap.size + 1) _ _ w1 (builder_ext H4.out h1) (by rw [Lib.byteCells_length]; have := H1.out; simp [ByteArray.size, be_length]; omega) (Nat.le_trans hsz h1.size)).mono ?_; rintro e w2 ⟨rfl, h2, h3⟩))
        go_roundw
        case rel => exact ⟨_, by omega, by go_num, H5.out _ h2, (H3.out.trans h1).trans3 h3⟩
        case measure => simp [intOf]
    · obtain rfl : n = 8 := by omega
      have e8 : ((8 : Nat) : Int) = 8 := rfl
      rw [e8]
      clear e8
      rw [HC.out] at hbuf
      go_wp2_with (go_at_call 35; refine (Any.Builder_String_any_f { Tryd.lays105 with } Tryd.Builder_Extra_105 w.heap.size (w.heap.size + 1) _ _ hbuf hext.size).mono ?_; rintro e w2 ⟨rfl, h2, h3⟩)
      go_ret
      exact ⟨rfl, hext.trans3 h3⟩
end Go.Proofs.YteddogalmdgjlaaDoor
end

section
namespace Go.Proofs.YteddogalmdgjlaaDoor
open Go.RowKit

theorem pad_step (n j : Nat) (hj : j < zeros n) : (n + 1 + j) % 64 ≠ 56 := by unfold zeros at hj; omega
theorem pad_end (n : Nat) : (n + 1 + zeros n) % 64 = 56 := by unfold zeros; omega
theorem zeros_le (n : Nat) : zeros n ≤ 63 := by unfold zeros; omega
/-- The padded text, block by block. -/
def pad (m : List UInt8) : List UInt8 := m ++ tailOf m.length
theorem pad_length (m : List UInt8) : (pad m).length = m.length + zeros m.length + 9 := by simp [pad, tailOf_length]; omega
/-- The text while bytes 0 come behind it. -/
def PD (s : ByteArray) (j : Nat) : ByteArray := ⟨(s.data.toList ++ (128 :: List.replicate j 0)).toArray⟩
theorem PD_size (s : ByteArray) (j : Nat) : (PD s j).size = s.size + 1 + j := by unfold PD; rw [txt_size]; simp; omega
theorem PD_zero (s : ByteArray) : s ++ ⟨#[128]⟩ = PD s 0 := by
  apply ByteArray.ext
  rw [ByteArray.data_append]
  apply Array.toList_inj.1
  simp [PD]
theorem PD_succ (s : ByteArray) (j : Nat) : PD s j ++ ⟨#[0]⟩ = PD s (j + 1) := by
  apply ByteArray.ext
  rw [ByteArray.data_append]
  simp [PD, List.replicate_succ']
def PAD (s : ByteArray) : ByteArray := ⟨(pad s.data.toList).toArray⟩
theorem PAD_eq (s : ByteArray) : PD s (zeros s.size) ++ ⟨(be 8 (8 * s.size)).toArray⟩ = PAD s := by
  have e : s.data.toList.length = s.size := size_list s
  unfold PD PAD pad tailOf
  rw [str_append, e]
  simp
theorem PAD_size (s : ByteArray) : (PAD s).size = s.size + zeros s.size + 9 := by unfold PAD; rw [txt_size, pad_length, size_list]
def strLen : Value → Nat | .string s => s.size | _ => 0
def RP (s : ByteArray) (p : Value) : Prop := ∃ j : Nat, j ≤ zeros s.size ∧ p = .string (PD s j)
theorem pad_folds (m : List UInt8) (k : Nat) : folds (k + 1) m init = stp ((m.drop (64 * k)).take 64) (folds k m init) := by
  rw [folds_add, folds_succ, folds_zero]
theorem list_lt {st : St} (h : st.Ok) (x : Nat) (hx : x ∈ st.list) : x < 4294967296 := by
  simp only [St.list, List.mem_cons, List.not_mem_nil, or_false] at hx
  rcases hx with rfl | rfl | rfl | rfl | rfl | rfl | rfl | rfl
  all_goals first | exact h.a | exact h.b | exact h.c | exact h.d | exact h.e | exact h.f | exact h.g | exact h.h
theorem list_slot (st : St) : st.list.length = 8 := rfl
end Go.Proofs.YteddogalmdgjlaaDoor
end
