/- Plain: a text's bytes copied into a block. Texts spelt as lists: how long; one behind another. Contracts: a key of 32 bytes out of any text; whether calls are too heavy: the laws of layer 13. -/
import Derived.Test.YteddogalmdgjlaaDoorProg
import Derived.Test.YteddogalmdgjlaaDoorM03
import Derived.Lib.SlBuf
import Derived.Test.YteddogalmdgjlaaDoorBytes
import Derived.Test.YteddogalmdgjlaaDoorM08
import Derived.Test.YteddogalmdgjlaaDoorM12
import Derived.Outline
section
namespace Go.Proofs.YteddogalmdgjlaaDoor
open Go.RowKit

theorem infoB : (Tryd.prog.info? 5).map (·.size) = some 1 := by kernel_rfl
theorem run_copy_text (w : World) (ty : TypeId) (g o dLen dCap : Nat) (s : ByteArray) (cs : List Value) (T : TypeId) (hg : Blk w g T cs) (hfit : o + dLen ≤ cs.length) (k : Nat) (hk : k = min s.size dLen) :
    (Builtin.copy_ #[35, 9] ty #[.slice (some ⟨g, o, none⟩) dLen dCap, .string s]).run Tryd.prog w =
      .ok (goInt k) (w.setRow g (cs.take o ++ (s.data.toList.take k).map cellOf ++ cs.drop (o + k)).toArray) := by
  have hmin : Nat.min s.size dLen = k := hk.symm
  have hk1 : k ≤ s.size := by rw [hk]; exact Nat.min_le_left _ _
  have hk2 : k ≤ dLen := by rw [hk]; exact Nat.min_le_right _ _
  have hlen : ((s.data.toList.take k).map cellOf).length = k := by rw [List.length_map, List.length_take, size_list]; omega
  have hst := run_storeCells_at Tryd.prog g o T ((s.data.toList.take k).map cellOf) 0 cs.toArray w hg (by rw [hlen]; simp; omega) (by
    intro v hv
    simp only [List.mem_map] at hv
    obtain ⟨b, _, rfl⟩ := hv
    rfl)
  rw [hlen] at hst
  simp only [Nat.add_zero] at hst
  have htk : List.take k (List.map (fun b : UInt8 => Value.int IntKind.u8 (b.toNat : Int)) s.data.toList) = (s.data.toList.take k).map cellOf := by rw [← List.map_take]; rfl
  have hu := Tryd.underlying35
  cases hq : Tryd.prog.info? 5 with
  | none => have := infoB; simp [hq] at this
  | some i =>
    simp [Builtin.copy_, run_underlying hu, Builtin.lenOf, Builtin.firstCells, sizeOf, typeInfo, hq, hmin]
    rw [htk, hst]
    simp [Result.andThen]
/-- A text of as many bytes over all of a block. -/
theorem copy_all (w : World) (ty : TypeId) (g n : Nat) (s : ByteArray) (l : List UInt8) (T : TypeId) (hg : Row w g T l) (hl : l.length = n) (hs : s.size = n) :
    (Builtin.copy_ #[35, 9] ty #[.slice (some ⟨g, 0, none⟩) n n, .string s]).run Tryd.prog w = .ok (.int .i64 (n : Int)) (w.setRow g (s.data.toList.map cellOf).toArray) := by
  have h := run_copy_text w ty g 0 n n s _ T hg.blk (by simp [hl]) n (by omega)
  have e : s.data.toList.take n = s.data.toList := List.take_of_length_le (by rw [size_list]; omega)
  have e2 : (l.map cellOf).drop (0 + n) = [] := List.drop_of_length_le (by simp [hl])
  rw [h, e, e2, List.take_zero, List.nil_append, List.append_nil]
  rfl
end Go.Proofs.YteddogalmdgjlaaDoor
end

section
namespace Go.Proofs.YteddogalmdgjlaaDoor
open Go.RowKit

theorem txt_size (l : List UInt8) : ((⟨l.toArray⟩ : ByteArray)).size = l.length := by simp [ByteArray.size]
theorem str_append (a b : List UInt8) : (⟨a.toArray⟩ : ByteArray) ++ ⟨b.toArray⟩ = ⟨(a ++ b).toArray⟩ := by
  apply ByteArray.ext
  rw [ByteArray.data_append]
  simp
theorem txt_cat (s : ByteArray) (b : List UInt8) : s ++ ⟨b.toArray⟩ = ⟨(s.data.toList ++ b).toArray⟩ := by
  apply ByteArray.ext
  rw [ByteArray.data_append]
  simp
theorem txt_extract (l : List UInt8) (n : Nat) : (⟨l.toArray⟩ : ByteArray).extract 0 n = ⟨(l.take n).toArray⟩ := by
  apply ByteArray.ext
  simp
/-- The first n bytes of a text. -/
theorem slice_upto (X : ByteArray) (c : Nat) (h : c ≤ X.size) (u : World) : (Instr.slice 9 (.string X) none (some (.int .i64 (c : Int))) none).run Tryd.prog u = .ok (.string (X.extract 0 c)) u := by
  have hj : (0 : Int) ≤ (c : Int) ∧ (c : Int) ≤ (X.size : Int) := by omega
  simp [Instr.slice, Instr.sliceBounds, Instr.sliceBound, asIntOf, run_underlying Tryd.underlying9, hj]
  intro hgt
  omega
end Go.Proofs.YteddogalmdgjlaaDoor
end

section
namespace Go.Proofs.YteddogalmdgjlaaDoor
open Go.RowKit

/-- The first 32 bytes, with bytes 0 behind. -/
def f32L (s : ByteArray) : List UInt8 := (s.data.toList ++ List.replicate 32 0).take 32
theorem f32L_length (s : ByteArray) : (f32L s).length = 32 := by unfold f32L; rw [List.length_take, List.length_append, List.length_replicate]; omega
def f32B (s : ByteArray) : ByteArray := ⟨(f32L s).toArray⟩
theorem f32B_size (s : ByteArray) : (f32B s).size = 32 := by unfold f32B; rw [txt_size, f32L_length]
theorem make32 (u : World) : (Instr.makeSlice 35 (.int .i64 32) (.int .i64 32)).run Tryd.prog u = .ok (.slice (some ⟨u.heap.size, 0, none⟩) 32 32) (u.alloc (.cells (zc 32) 5)) := by
  have h := make_bytes 32 (by decide) u
  have e : madeCells #[Value.int .u8 0] 32 = zc 32 := by kernel_rfl
  rw [e] at h
  exact h
theorem fullK_any (s : ByteArray) (w : World) : Calls Tryd.prog 9 #[.string s] w fun e w' => e = .returned (.string (f32B s)) ∧ Ext w w' := by
  unfold f32B
  have hmk := make32
  have hr0 := Row.zero w 5 32
  obtain ⟨k, hk⟩ : ∃ k, k = min s.size 32 := ⟨_, rfl⟩
  have hcp := fun ty => run_copy_text (w.alloc (.cells (zc 32) 5)) ty w.heap.size 0 32 32 s _ 5 hr0.blk (by simp) k hk
  have e : ((List.replicate 32 (0 : UInt8)).map cellOf).take 0 ++ (s.data.toList.take k).map cellOf ++ ((List.replicate 32 (0 : UInt8)).map cellOf).drop (0 + k) = (f32L s).map cellOf := by
    rw [List.take_zero, List.nil_append, ← List.map_drop, ← List.map_append]
    congr 1
    unfold f32L
    rw [List.drop_replicate, List.take_append, size_list, List.take_replicate]
    congr 1
    · rcases Nat.le_total s.size 32 with h | h
      · rw [List.take_of_length_le (by rw [size_list]; omega), List.take_of_length_le (by rw [size_list]; omega)]
      · rw [show k = 32 by omega]
    · congr 1; omega
  rw [e] at hcp
  have hr1 : Row ((w.alloc (.cells (zc 32) 5)).setRow w.heap.size ((f32L s).map cellOf).toArray) w.heap.size 5 (f32L s) := setRow_heap _ _ _ _ _ _ hr0
  have ht := hr1.text (P := Tryd.prog) 35 5 9 Tryd.underlying35 Tryd.underlying5 Tryd.underlying9 32 32 (f32L_length s)
  have hx : Ext w ((w.alloc (.cells (zc 32) 5)).setRow w.heap.size ((f32L s).map cellOf).toArray) := ((Ext.refl w).alloc _).setRow (Nat.le_refl _) _
  have HX := Lib.hid hx
  clear hr0 hr1 e hk hx
  go_enter Tryd.func9, Tryd.ntmps9
  go_wp2
  go_ret
  exact ⟨rfl, HX.out⟩
/-- An answer: where it is no, there are few calls. -/
def HeavyE (n : Nat) (e : Ending) : Prop := ∃ b, e = .returned (.bool b) ∧ (b = false → n ≤ 80)
set_option maxRecDepth 100000 in
set_option maxHeartbeats 4000000 in
/-- Too many calls, or a long key among the first hundred. -/
theorem heavyK_any (w : World) (p : Option Addr) (c : Nat) (L : List Act13) (h : Act13sP w p L) (hok : ∀ x ∈ L, x.Ok) (hl : L.length ≤ 140737488355328) :
    Calls Tryd.prog 6 #[.slice p L.length c] w fun e w' => HeavyE L.length e ∧ w = w' := by
  have HH := Lib.hid h; have HOk := Lib.hid hok
  clear h hok
  go_enter Tryd.func6, Tryd.ntmps6
  go_wp2
  go_loopw [3] (fun iv wr => ∃ j : Nat, j ≤ L.length ∧ j ≤ 100 ∧ iv = .int .i64 (j : Int) ∧ w = wr) (fun iv _ => 100 - (intOf iv).toNat)
  case atStart => exact ⟨0, Nat.zero_le _, by omega, rfl, rfl⟩
  case round =>
    obtain ⟨j, hj, h100, rfl, rfl⟩ := hrel
    by_cases hlt : j < L.length ∧ j < 100
    · obtain ⟨h1, h2⟩ := hlt
      have h1i : (j : Int) < (L.length : Int) := by omega
      have h2i : (j : Int) < 100 := by omega
      obtain ⟨x, hx⟩ : ∃ x, L[j]? = some x := ⟨_, List.getElem?_eq_getElem h1⟩
      obtain ⟨a, rfl, ha, hc⟩ := HH.out j x hx
      have k2 := act13_at (k := 1) (hc 2 _ rfl)
      have hok := HOk.out x (List.mem_of_getElem? hx)
      have hs := hok.Key
      clear hx hc hok
      generalize x.Key = s at *
      by_cases h200 : 200 < s.size
      · have h200i : (200 : Int) < (s.size : Int) := by omega
        go_wp2
        go_ret
        exact ⟨⟨_, rfl, fun q => by cases q⟩, rfl⟩
      · have h200i : ¬ (200 : Int) < (s.size : Int) := by omega
        go_wp2
        go_roundw
        case rel => first | exact ⟨j + 1, by omega, by omega, by go_num, rfl⟩ | exact ⟨j + 1, by omega, by omega, by go_num, trivial⟩ | exact ⟨j + 1, by omega, by omega, by go_num⟩
        case measure => simp [intOf]; omega
    · by_cases h1 : j < L.length
      · have h2 : ¬ j < 100 := fun q => hlt ⟨h1, q⟩
        have h1i : (j : Int) < (L.length : Int) := by omega
        have h2i : ¬ (j : Int) < 100 := by omega
        have h80 : (80 : Int) < (L.length : Int) := by omega
        go_wp2
        go_ret
        exact ⟨⟨_, rfl, fun q => by simp at q <;> omega⟩, rfl⟩
      · have h1i : ¬ (j : Int) < (L.length : Int) := by omega
        go_wp2
        go_ret
        exact ⟨⟨_, rfl, fun q => by simp at q <;> omega⟩, rfl⟩
end Go.Proofs.YteddogalmdgjlaaDoor
end
