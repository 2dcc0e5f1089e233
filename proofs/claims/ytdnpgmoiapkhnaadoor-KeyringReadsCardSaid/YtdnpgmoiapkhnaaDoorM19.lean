/- Contracts: the state's bytes, by the program: through a builder of the library's. Texts with their tail, block by block: plain. Contracts: the end of the padded text, and the sum out of what is kept, by the program. Contracts: the sum of all that came till now, by the program. -/
import Derived.Test.YtdnpgmoiapkhnaaDoorM18
import Derived.Test.YtdnpgmoiapkhnaaDoorM04
import Derived.Test.YtdnpgmoiapkhnaaDoorShelf
import Derived.Test.YtdnpgmoiapkhnaaDoorM12
import Derived.Deep.RegionWith
import Derived.Deep.RegionHeld3
import Derived.Deep.DeepCutAuto
section
namespace Go.Proofs.YtdnpgmoiapkhnaaDoor
open Go.RowKit

theorem write_any (B b : Nat) (bs : List Value) (s : ByteArray) (w : World) (h : Lib.IsBuilderF 97 5 B b bs w) (hlen : bs.length + s.size ≤ 140737488355328) (hBw : B ≤ w.heap.size) :
    Calls Tryd.prog 55 #[.pointer (some ⟨b, 0, none⟩), .string s] w fun e w' => e = .returned (.tuple #[.int .i64 s.size, .nilIface]) ∧ (Lib.IsBuilderF 97 5 B b (bs ++ Lib.strCells s) w' ∧ Below B w w') :=
  (Any.Builder_WriteString_f { Tryd.lays105 with } Tryd.Builder_Extra_105 B b bs s w h hlen hBw).mono fun _ _ h => ⟨h.1, .inr h.2.1, h.2.2⟩
/-- The bytes of the first n numbers. -/
def cat (l : List Nat) (n : Nat) : List UInt8 := (l.take n).flatMap (be 4)
theorem cat_succ (l : List Nat) (n : Nat) (h : n < l.length) : cat l (n + 1) = cat l n ++ be 4 (l.getD n 0) := by
  unfold cat
  rw [List.take_succ_eq_append_getElem h, List.flatMap_append]
  congr 1
  simp [List.getElem?_eq_getElem h]
theorem cat_length (l : List Nat) (n : Nat) : (cat l n).length ≤ 4 * n := by
  unfold cat
  induction n generalizing l with
  | zero => simp
  | succ n ih =>
    cases l with
    | nil => simp
    | cons x r => simp only [List.take_succ_cons, List.flatMap_cons, List.length_append, be_length]; have := ih r; omega
theorem cat_all (s : St) : cat s.list 8 = txt s := by
  unfold cat txt St.list
  simp [List.flatMap_cons, List.append_assoc]
theorem fresh_builder (w : World) (B : Nat) (hB : B ≤ w.heap.size) : Lib.IsBuilderF 97 5 B w.heap.size [] (w.alloc (.cells #[.pointer none, .slice none 0 0] 97)) :=
  .inl ⟨hB, _, heap_alloc_new w _, World.ownsRowF_of (World.ownsRow_nil _ _ _ _), by simp [Value.ownBlock]⟩

theorem builder_ext {B b : Nat} {bs : List Value} {w w' : World} (h : Lib.IsBuilderF 97 5 B b bs w) (hx : Ext w w') : Lib.IsBuilderF 97 5 B b bs w' := by
  have key : ∀ p, Lib.BuilderAtF 97 5 B b p bs w → Lib.BuilderAtF 97 5 B b p bs w' := by
    rintro p ⟨hB, v, hv, hown, hne⟩
    refine ⟨hB, v, (hx.below.block b (heap_lt hv)).trans hv, ⟨hown.1, ?_⟩, hne⟩
    rcases hown.2 with h0 | ⟨g, cap, cur, fz, e1, e2, e3, e4⟩
    · exact .inl h0
    · exact .inr ⟨g, cap, cur, fz, e1, e2, (hx.below.block g (heap_lt e3)).trans e3, e4⟩
  exact h.imp (key _) (key _)

set_option maxRecDepth 100000 in
set_option maxHeartbeats 1000000 in
theorem text_any (s : St) (w : World) :
    Calls Tryd.prog 100 #[.agg #[.int .u32 (s.a : Int), .int .u32 (s.b : Int), .int .u32 (s.c : Int), .int .u32 (s.d : Int), .int .u32 (s.e : Int), .int .u32 (s.f : Int), .int .u32 (s.g : Int), .int .u32 (s.h : Int)]] w fun e w' => e = .returned (.string ⟨(txt s).toArray⟩) ∧ Ext w w' := by
  have HI := Lib.hid (index8s 153 Tryd.underlying153 s.a s.b s.c s.d s.e s.f s.g s.h)
  have HC := Lib.hid (cat_all s)
  obtain ⟨a, b, c, d, ee, f, g, h⟩ := s
  simp only at HI
  go_enter Tryd.func100, Tryd.ntmps100
  go_wp2_with fail
  go_loopw [7] (fun i wr => ∃ n : Nat, n ≤ 8 ∧ i = .int .i64 n ∧ Lib.IsBuilderF 97 5 w.heap.size (w.heap.size + 1) (Lib.byteCells (cat (St.list ⟨a, b, c, d, ee, f, g, h⟩) n)) wr ∧ Ext w wr) (fun i _ => 8 - (intOf i).toNat)
  case atStart => exact ⟨0, by omega, rfl, by simpa [cat, Lib.byteCells] using fresh_builder (w.alloc _) w.heap.size (by simp), ((Ext.refl w).alloc _).alloc _⟩
  case round =>
    obtain ⟨n, hn, rfl, hbuf, hext⟩ := hrel
    by_cases hlt : n < 8
    · have hl := cat_length (St.list ⟨a, b, c, d, ee, f, g, h⟩) n
      have hs := cat_succ (St.list ⟨a, b, c, d, ee, f, g, h⟩) n hlt
      have hst : ∀ u, Lib.IsBuilderF 97 5 w.heap.size (w.heap.size + 1) (Lib.byteCells (cat (St.list ⟨a, b, c, d, ee, f, g, h⟩) n) ++ Lib.strCells ⟨(be 4 ((St.list ⟨a, b, c, d, ee, f, g, h⟩).getD n 0)).toArray⟩) u →
          Lib.IsBuilderF 97 5 w.heap.size (w.heap.size + 1) (Lib.byteCells (cat (St.list ⟨a, b, c, d, ee, f, g, h⟩) (n + 1))) u := fun u hu => by rw [hs, Lib.byteCells_append]; exact hu
      have H5 := Lib.hid hst
      have hsz := hext.size
      have H1 := Lib.hid hl; have H3 := Lib.hid hext; have H4 := Lib.hid hbuf
      clear hl hs hst hext hbuf
      obtain ⟨x0, x1, x2, x3, x4, x5, x6, x7⟩ := HI.out
      rcases (show n = 0 ∨ n = 1 ∨ n = 2 ∨ n = 3 ∨ n = 4 ∨ n = 5 ∨ n = 6 ∨ n = 7 by omega) with rfl | rfl | rfl | rfl | rfl | rfl | rfl | rfl
      all_goals
        go_wp2_with (first
          | (go_at_call 40; refine (Put32_any _ _).mono ?_; rintro e w1 ⟨rfl, h1⟩)
          | (go_at_call 55; refine (write_any w.heap.size (w.heap.size + 1) _ _ w1 (builder_ext H4.out h1) (by rw [Lib.byteCells_length]; have := H1.out; simp [ByteArray.size, be_length]; omega) (Nat.le_trans hsz h1.size)).mono ?_; rintro e w2 ⟨rfl, h2, h3⟩))
        go_roundw
        case rel => exact ⟨_, by omega, by go_num, H5.out _ h2, (H3.out.trans h1).trans3 h3⟩
        case measure => simp [intOf]
    · obtain rfl : n = 8 := by omega
      have e8 : ((8 : Nat) : Int) = 8 := rfl
      rw [e8]
      clear e8
      rw [HC.out] at hbuf
      go_wp2_with (go_at_call 56; refine (Any.Builder_String_any_f { Tryd.lays105 with } Tryd.Builder_Extra_105 w.heap.size (w.heap.size + 1) _ _ hbuf hext.size).mono ?_; rintro e w2 ⟨rfl, h2, h3⟩)
      go_ret
      exact ⟨rfl, hext.trans3 h3⟩
end Go.Proofs.YtdnpgmoiapkhnaaDoor
end

section
namespace Go.Proofs.YtdnpgmoiapkhnaaDoor
open Go.RowKit

theorem pad_step (n j : Nat) (hj : j < zeros n) : (n + 1 + j) % 64 ≠ 56 := by unfold zeros at hj; omega
theorem pad_end (n : Nat) : (n + 1 + zeros n) % 64 = 56 := by unfold zeros; omega
theorem zeros_le (n : Nat) : zeros n ≤ 63 := by unfold zeros; omega
/-- The padded text, block by block. -/
def pad (m : List UInt8) : List UInt8 := m ++ tailOf m.length
theorem pad_length (m : List UInt8) : (pad m).length = m.length + zeros m.length + 9 := by simp [pad, tailOf_length]; omega
/-- The text while bytes 0 come behind it. -/
def PD (s : ByteArray) (j : Nat) : ByteArray := ⟨(s.data.toList ++ (128 :: List.replicate j 0)).toArray⟩
theorem PD_size (s : ByteArray) (j : Nat) : (PD s j).size = s.size + 1 + j := by unfold PD; rw [txt_size]; simp; omega
theorem PD_zero (s : ByteArray) : s ++ ⟨#[128]⟩ = PD s 0 := by
  apply ByteArray.ext
  rw [ByteArray.data_append]
  apply Array.toList_inj.1
  simp [PD]
theorem PD_succ (s : ByteArray) (j : Nat) : PD s j ++ ⟨#[0]⟩ = PD s (j + 1) := by
  apply ByteArray.ext
  rw [ByteArray.data_append]
  simp [PD, List.replicate_succ']
def PAD (s : ByteArray) : ByteArray := ⟨(pad s.data.toList).toArray⟩
theorem PAD_eq (s : ByteArray) : PD s (zeros s.size) ++ ⟨(be 8 (8 * s.size)).toArray⟩ = PAD s := by
  have e : s.data.toList.length = s.size := size_list s
  unfold PD PAD pad tailOf
  rw [str_append, e]
  simp
theorem PAD_size (s : ByteArray) : (PAD s).size = s.size + zeros s.size + 9 := by unfold PAD; rw [txt_size, pad_length, size_list]
def strLen : Value → Nat | .string s => s.size | _ => 0
def RP (s : ByteArray) (p : Value) : Prop := ∃ j : Nat, j ≤ zeros s.size ∧ p = .string (PD s j)
theorem pad_folds (m : List UInt8) (k : Nat) : folds (k + 1) m init = stp ((m.drop (64 * k)).take 64) (folds k m init) := by
  rw [folds_add, folds_succ, folds_zero]
theorem list_lt {st : St} (h : st.Ok) (x : Nat) (hx : x ∈ st.list) : x < 4294967296 := by
  simp only [St.list, List.mem_cons, List.not_mem_nil, or_false] at hx
  rcases hx with rfl | rfl | rfl | rfl | rfl | rfl | rfl | rfl
  all_goals first | exact h.a | exact h.b | exact h.c | exact h.d | exact h.e | exact h.f | exact h.g | exact h.h
theorem list_slot (st : St) : st.list.length = 8 := rfl
end Go.Proofs.YtdnpgmoiapkhnaaDoor
end

section
namespace Go.Proofs.YtdnpgmoiapkhnaaDoor
open Go.RowKit

theorem repeatL_zeros (c : Nat) : Lib.repeatL [0] c = List.replicate c 0 := by
  induction c with
  | zero => rfl
  | succ n ih => rw [Lib.repeatL, ih, List.replicate_succ]; rfl
theorem repeat_any (c : Nat) (hc : c ≤ 63) (w : World) :
    Calls Tryd.prog 95 #[.string ⟨#[0]⟩, .int .i64 (c : Int)] w fun e w' => e = .returned (.string ⟨(List.replicate c 0).toArray⟩) ∧ Ext w w' := by
  have h := Tryd.strings_Repeat ⟨#[0]⟩ c w (by omega) (by show 1 * c ≤ _; omega)
  have e : (⟨#[0]⟩ : ByteArray).data.toList = [0] := rfl
  rw [e, repeatL_zeros] at h
  exact h
theorem restLen_any (w : World) (b : Nat) (m : List UInt8) (h : IsHash w b m) :
    Calls Tryd.prog 97 #[.pointer (some ⟨b, 0, none⟩)] w fun e w' => e = .returned (.int .i64 ((m.length % 64 : Nat) : Int)) ∧ w = w' := by
  obtain ⟨buf, h1, h2, h3⟩ := h.blk
  have hc := hash_count h3 h1
  have hs := h.small
  clear h1 h2 h3 h
  generalize m.length = n at *
  go_enter Tryd.func97, Tryd.ntmps97
  go_wp2
  go_ret
  exact ⟨by simp, rfl⟩
theorem there_any (w : World) (b : Nat) (m : List UInt8) (h : IsHash w b m) :
    Calls Tryd.prog 96 #[.pointer (some ⟨b, 0, none⟩)] w fun e w' => e = .returned (.bool true) ∧ w = w' := by
  obtain ⟨buf, h1, h2, h3⟩ := h.blk
  have hc := hash_made h3
  clear h1 h2 h3 h
  go_enter Tryd.func96, Tryd.ntmps96
  go_wp2
  go_ret
  exact ⟨rfl, rfl⟩
theorem there_no (w : World) :
    Calls Tryd.prog 96 #[.pointer none] w fun e w' => e = .returned (.bool false) ∧ w = w' := by
  go_enter Tryd.func96, Tryd.ntmps96
  go_wp2
  go_ret
  exact ⟨rfl, rfl⟩
theorem put8_any (n : Nat) (w : World) : Calls Tryd.prog 62 #[.int .u64 (8 * (n : Int))] w fun e w' => e = .returned (.string ⟨(be 8 (8 * n)).toArray⟩) ∧ Ext w w' := by
  have := Put64_any (8 * n) w
  have e : ((8 * n : Nat) : Int) = 8 * (n : Int) := by omega
  rw [e] at this
  exact this
set_option maxRecDepth 100000 in
set_option maxHeartbeats 1000000 in
theorem last_any (w : World) (b : Nat) (m : List UInt8) (h : IsHash w b m) :
    Calls Tryd.prog 99 #[.pointer (some ⟨b, 0, none⟩)] w fun e w' => e = .returned (.string ⟨(restOf m ++ tailOf m.length).toArray⟩) ∧ Ext w w' := by
  have HR := Lib.hid (restLen_any w b m h)
  obtain ⟨buf, h1, h2, h3⟩ := h.blk
  have hs := h.small
  have hbl := h3.lt
  have hcount := fun u (hx : Ext w u) => hash_count (h3.ext hx) h1
  have htext := fun u (hx : Ext w u) => hash_text (h3.ext hx) (m.length % 64) 64 (by omega)
  rw [h2] at htext
  have hz := zeros_le m.length
  have hrl := restOf_length m
  have he : (⟨(restOf m).toArray⟩ : ByteArray) ++ ⟨#[128]⟩ ++ ⟨(List.replicate (zeros m.length) 0).toArray⟩ ++ ⟨(be 8 (8 * m.length)).toArray⟩ = ⟨(restOf m ++ tailOf m.length).toArray⟩ := by
    have e128 : (⟨#[128]⟩ : ByteArray) = ⟨([128] : List UInt8).toArray⟩ := rfl
    rw [e128, str_append, str_append, str_append]
    simp [tailOf]
  obtain ⟨r, hr⟩ : ∃ r, r = m.length % 64 := ⟨_, rfl⟩
  have hzi : (63 : Int) - ((r : Int) + 8) % 64 = (zeros m.length : Int) := by unfold zeros; omega
  have hr64 : r < 64 := by omega
  rw [← hr] at HR htext hrl
  have HE := Lib.hid he; have HC := Lib.hid hcount; have HT := Lib.hid htext; have HRL := Lib.hid hrl
  clear he hcount htext hrl h1 h2 h3 h hr
  generalize restOf m = R at *
  generalize hZ : zeros m.length = z at *
  generalize m.length = n at *
  clear hZ
  have HB8 := Lib.hid (be_length 8 (8 * n))
  go_enter Tryd.func99, Tryd.ntmps99
  go_wp2_with (go_at_call 97; refine (HR.out).mono ?_; rintro e w1 ⟨rfl, rfl⟩)
  have hr1 : (r : Int) ≤ 64 := by omega
  have hr2 : r ≤ 64 := by omega
  have hw8 : IntKind.u64.wrap (8 * (n : Int)) = 8 * (n : Int) := IntWalk.u64_in _ ⟨by omega, by omega⟩
  have hl1 := HRL.out
  have hl2 := HB8.out
  have c0 := HC.out w.drew (Ext.refl w).drew
  have t0 := HT.out w.drew (Ext.refl w).drew
  have x0 := (Ext.refl w).drew
  have hb1 : ¬ 9223372036854775807 < r + 1 := by omega
  have hb2 : ¬ 9223372036854775807 < r + 1 + z := by omega
  have hb3 : ¬ 9223372036854775807 < r + 1 + z + 8 := by omega
  go_region_held3 (fun u => u.cell? ⟨b, 73, none⟩ = some (.int .u64 (n : Int)) ∧ (convert 35 9 (.slice (some ⟨b, 9, none⟩) r 64)).run Tryd.prog u = .ok (.string ⟨R.toArray⟩) u ∧ Ext w u) (first | exact ⟨c0, t0, x0⟩ | exact ⟨HC.out _ (by assumption), HT.out _ (by assumption), by assumption⟩ | go_keep) (first
    | (go_at_call 95; refine (repeat_any z hz _).mono ?_; rintro e w4 ⟨rfl, h4⟩; have x4 := Ext.trans (a := w) (by assumption) h4)
    | (go_at_call 62; refine (put8_any n _).mono ?_; rintro e w5 ⟨rfl, h5⟩; have x5 := Ext.trans (a := w) (by assumption) h5))
  all_goals
    have hx : Ext w _ := x5
    go_wp2
    go_ret
    exact ⟨by rw [← HE.out]; simp, hx⟩
end Go.Proofs.YtdnpgmoiapkhnaaDoor
end

section
namespace Go.Proofs.YtdnpgmoiapkhnaaDoor
open Go.RowKit

theorem hash_state {w : World} {b : Nat} {st : St} {buf : List UInt8} {n : Nat} (h : Blk w b 156 (hashCells st buf n)) :
    w.cell? ⟨b, 1, none⟩ = some (.int .u32 (st.a : Nat)) ∧ w.cell? ⟨b, 2, none⟩ = some (.int .u32 (st.b : Nat)) ∧ w.cell? ⟨b, 3, none⟩ = some (.int .u32 (st.c : Nat)) ∧ w.cell? ⟨b, 4, none⟩ = some (.int .u32 (st.d : Nat)) ∧
    w.cell? ⟨b, 5, none⟩ = some (.int .u32 (st.e : Nat)) ∧ w.cell? ⟨b, 6, none⟩ = some (.int .u32 (st.f : Nat)) ∧ w.cell? ⟨b, 7, none⟩ = some (.int .u32 (st.g : Nat)) ∧ w.cell? ⟨b, 8, none⟩ = some (.int .u32 (st.h : Nat)) :=
  mid8 (off := 1) h rfl
theorem blk_state {w : World} {b : Nat} {T : TypeId} {st : St} (h : Blk w b T (mid [] st.list [])) :
    w.cell? ⟨b, 0, none⟩ = some (.int .u32 (st.a : Nat)) ∧ w.cell? ⟨b, 1, none⟩ = some (.int .u32 (st.b : Nat)) ∧ w.cell? ⟨b, 2, none⟩ = some (.int .u32 (st.c : Nat)) ∧ w.cell? ⟨b, 3, none⟩ = some (.int .u32 (st.d : Nat)) ∧
    w.cell? ⟨b, 4, none⟩ = some (.int .u32 (st.e : Nat)) ∧ w.cell? ⟨b, 5, none⟩ = some (.int .u32 (st.f : Nat)) ∧ w.cell? ⟨b, 6, none⟩ = some (.int .u32 (st.g : Nat)) ∧ w.cell? ⟨b, 7, none⟩ = some (.int .u32 (st.h : Nat)) :=
  mid8 (off := 0) h rfl
theorem take64 (q : ByteArray) : (q.extract 0 64).data.toList = q.data.toList.take 64 := by simp
set_option maxRecDepth 100000 in
set_option maxHeartbeats 1000000 in
theorem Sum_any (w : World) (b : Nat) (m : List UInt8) (hL : Laid w) (h : IsHash w b m) :
    Calls Tryd.prog 82 #[.pointer (some ⟨b, 0, none⟩)] w fun e w' => e = .returned (.string ⟨(shaL m).toArray⟩) ∧ Ext w w' := by
  have HT := Lib.hid (there_any w b m h)
  have HLa := Lib.hid (fun u (hx : Ext w u) => last_any u b m (h.ext hx))
  have HK := Lib.hid (shaL_kept m)
  obtain ⟨buf, _, _, h3⟩ := h.blk
  have hbl := h3.lt
  obtain ⟨k0, k1, k2, k3, k4, k5, k6, k7⟩ := hash_state h3
  have ok := stOf_ok m
  have hz : (m.length % 64 + zeros m.length + 9) % 64 = 0 := by unfold zeros; omega
  have hlen : (restOf m ++ tailOf m.length).length = m.length % 64 + zeros m.length + 9 := by rw [List.length_append, restOf_length, tailOf_length]; omega
  have hz63 := zeros_le m.length
  have HLd := Lib.hid hL
  clear h3 h hL
  generalize stOf m = st at *
  generalize restOf m ++ tailOf m.length = L at *
  generalize m.length % 64 + zeros m.length + 9 = n at *
  obtain ⟨N, hN⟩ : ∃ N, N = n / 64 := ⟨_, rfl⟩
  rw [← hN] at HK
  have hn : n = 64 * N := by omega
  have HO := Lib.hid ok; have HLen := Lib.hid (hlen.trans hn)
  clear ok hlen hz hN hn hz63
  go_enter Tryd.func82, Tryd.ntmps82
  go_wp2_with (first
    | (go_at_call 96; refine (HT.out).mono ?_; rintro e w1 ⟨rfl, rfl⟩)
    | (go_at_call 99; refine (HLa.out _ ((Ext.refl w).alloc _)).mono ?_; rintro e w1 ⟨rfl, h1⟩))
  have hB0 : Blk w1 w.heap.size 153 (mid [] st.list []) := Blk.ext (show Blk (w.alloc _) w.heap.size 153 (mid [] st.list []) from Blk.new w _ _) h1
  have hx1 : Ext w w1 := Below.trans ((Ext.refl w).alloc _) (Below.mono h1.below (by simp))
  have HB0 := Lib.hid hB0
  clear h1 hB0 k0 k1 k2 k3 k4 k5 k6 k7
  go_loopw [4] (fun p wr => ∃ (k : Nat) (q : ByteArray), k ≤ N ∧ p = .string q ∧ q.data.toList = L.drop (64 * k) ∧ Blk wr w.heap.size 153 (mid [] (folds k L st).list []) ∧ Ext w wr) (fun p _ => strLen p)
  case atStart => exact ⟨0, _, Nat.zero_le _, rfl, by simp, HB0.out, hx1⟩
  case round =>
    clear hx1
    obtain ⟨k, q, hk, rfl, hq, hB, hext⟩ := hrel
    have hqs : q.size = 64 * N - 64 * k := by rw [← size_list, hq, List.length_drop, HLen.out]
    have HQ := Lib.hid hq; have HBk := Lib.hid hB
    have hsucc : folds (k + 1) L st = stp ((L.drop (64 * k)).take 64) (folds k L st) := by rw [folds_add, folds_succ, folds_zero]
    have HSu := Lib.hid hsucc
    have hfo := Lib.hid (folds_ok k L HO.out)
    clear hq hB hsucc
    by_cases hlt : k < N
    · have h64 : 64 ≤ q.size := by omega
      have HQS := Lib.hid hqs; clear hqs
      have hes : (q.extract 0 64).size = 64 := by rw [ByteArray.size_extract]; omega
      have hed : (q.extract 0 64).data.toList = (L.drop (64 * k)).take 64 := by rw [take64, HQ.out]
      have C := take_any (folds k L st) hfo.out (q.extract 0 64) hes w.heap.size 0 153 [] [] wr (HLd.out.ext hext) rfl HBk.out
      rw [hed, ← HSu.out] at C
      have HC := Lib.hid C; clear C hes hed
      go_wp2_with (go_at_call 98; refine (HC.out).mono ?_; rintro e w2 ⟨rfl, h2, hB2⟩)
      go_roundw
      case rel => exact ⟨k + 1, _, hlt, rfl, by rw [Lib.extract_data, HQ.out, List.drop_drop, List.take_of_length_le (by rw [List.length_drop, HLen.out]; have := HQS.out; omega)]; congr 1, hB2, hext.trans3 h2⟩
      case measure => simp only [strLen]; rw [ByteArray.size_extract]; omega
    · obtain rfl : k = N := by omega
      have hq0 : q.size = 0 := by omega
      clear hqs
      obtain ⟨k0, k1, k2, k3, k4, k5, k6, k7⟩ := blk_state HBk.out
      have hF := HK.out
      generalize folds k L st = S at *
      have HF := Lib.hid hF; clear hF
      go_wp2_with (go_at_call 100; refine (text_any S _).mono ?_; rintro e w3 ⟨rfl, h3⟩)
      go_ret
      exact ⟨by rw [HF.out]; rfl, hext.trans h3⟩
end Go.Proofs.YtdnpgmoiapkhnaaDoor
end
