/- Contracts: New, by the document's answer. -/
import Derived.Test.YtgbhadgkkefokaaRefWr
import Derived.Test.YtgbhadgkkefokaaCrash
namespace Go.Proofs.Ytgbhadgkkefokaa
open Go.RowKit
theorem made_txs (m : Nat) : madeCells #[.string ⟨#[]⟩] m = (txs noFs m).toArray := by
  apply Array.toList_inj.1
  rw [toList_madeCells_one]
  apply List.ext_getElem
  · simp [txs]
  · intro i h1 h2
    simp [txs, noFs]
theorem make_txs (m : Nat) (hm : m ≤ 16) : ∀ u : World, (Instr.makeSlice 57 (.int .i64 (m : Int)) (.int .i64 (m : Int))).run Try.prog u =
      .ok (.slice (some ⟨u.heap.size, 0, none⟩) m m) (u.alloc (.cells (txs noFs m).toArray 9)) := fun u => by
  obtain ⟨i0, hi, hz0, hz1, hz2⟩ := info_parts infoT
  have h := run_make (P := Try.prog) u 57 9 i0 (.string ⟨#[]⟩) Try.underlying57 hi hz0 .i64 .i64 (m : Int) (m : Int) (by omega) (Int.le_refl _) (by rw [hz2]; omega) (by omega)
  rw [← made_txs]
  simpa [hz1, Value.cells] using h
def xcells (q : Nat) (m room : Nat) : List Value := [.slice (some ⟨q, 0, none⟩) m m, .slice none 0 0, .int .i64 (room : Int), .int .i64 (-1)]
theorem built_x (q m room : Nat) : Try.prog.built 60 [(0, .slice (some ⟨q, 0, none⟩) m m), (2, .int .i64 (room : Int)), (3, .int .i64 (-1))] = some (xcells q m room).toArray := by kernel_rfl
def footX (n : Nat) : Foot := setK (setK (fun _ => 0) n 3) (n + 1) 2
theorem new_is (w : World) (m room : Nat) (h1 : 1 ≤ m) (h2 : m ≤ 16) (h3 : room ≤ 4194304) : IsX ((w.alloc (.cells (txs noFs m).toArray 9)).alloc (.cells (xcells w.heap.size m room).toArray 60)) (w.heap.size + 1) (footX w.heap.size) (DS.new m room) := by
  have hsz : (w.alloc (.cells (txs noFs m).toArray 9)).heap.size = w.heap.size + 1 := by simp
  have hb := Blk.new (w.alloc (.cells (txs noFs m).toArray 9)) (xcells w.heap.size m room) 60
  rw [hsz] at hb
  have hs : Sl ((w.alloc (.cells (txs noFs m).toArray 9)).alloc (.cells (xcells w.heap.size m room).toArray 60)) (footX w.heap.size) 3 1 9 (some ⟨w.heap.size, 0, none⟩) m m (txs noFs m) := by
    refine ⟨by rw [txs_length]; omega, Nat.le_refl _, .inr ⟨_, rfl⟩, fun _ => ⟨w.heap.size, (txs noFs m).toArray, rfl, ?_, (Blk.new w (txs noFs m) 9).alloc _, by rw [List.size_toArray, txs_length]; omega, fun j u hj => by simpa using hj⟩⟩
    unfold footX
    rw [setK_other _ _ (by omega), setK_same]
  refine ⟨⟨_, _, none, 0, hb, hs, Sl.nil _ _ _ _ _⟩, setK_same _ _ _, fun g hg => ?_, DS.Ok.new h1 h2 h3⟩
  have hs2 : ((w.alloc (.cells (txs noFs m).toArray 9)).alloc (.cells (xcells w.heap.size m room).toArray 60)).heap.size = w.heap.size + 2 := by simp
  rw [hs2]
  unfold footX at hg
  by_cases e1 : g = w.heap.size + 1
  · omega
  · rw [setK_other _ _ e1] at hg
    by_cases e2 : g = w.heap.size
    · omega
    · rw [setK_other _ _ e2] at hg; exact absurd rfl hg
set_option maxRecDepth 100000 in
set_option maxHeartbeats 1000000 in
theorem NewX_yes (w : World) (m room : Nat) (h1 : 1 ≤ m) (h2 : m ≤ 16) (h3 : room ≤ 4194304) :
    Calls Try.prog 7 #[.int .i64 (m : Int), .int .i64 (room : Int)] w fun e w' => e = .returned (.pointer (some ⟨w.heap.size + 1, 0, none⟩)) ∧ IsX w' (w.heap.size + 1) (footX w.heap.size) (DS.new m room) ∧ Ext w w' := by
  have HD := Lib.hid (new_is w m room h1 h2 h3)
  have g1 : ¬ (m : Int) < 1 := by omega
  have g2 : ¬ (16 : Int) < (m : Int) := by omega
  have g3 : ¬ (room : Int) < 0 := by omega
  have g4 : ¬ (4194304 : Int) < (room : Int) := by omega
  have HC := Lib.hid (built_x w.heap.size m room)
  have hmk := make_txs m h2
  have hsz : ∀ l : List Value, (w.alloc (.cells l.toArray 9)).heap.size = w.heap.size + 1 := fun l => by simp
  generalize xcells w.heap.size m room = C at *
  generalize DS.new m room = D at *
  clear h1 h2 h3
  go_enter Try.func7, Try.ntmps7
  go_wp2_with (refine wpList_builtD rfl 60 [(0, .tmp 20), (2, .tmp 21), (3, .const (.int .i64 (-1)))] rfl [(0, .slice (some ⟨w.heap.size, 0, none⟩) m m), (2, .int .i64 (room : Int)), (3, .int .i64 (-1))] rfl C.toArray HC.out ?_)
  go_ret
  exact ⟨by simp, HD.out, ((Ext.refl w).alloc _).alloc _⟩
theorem NewX_no (w : World) (m room : Int) (h : m < 1 ∨ 16 < m ∨ room < 0 ∨ 4194304 < room) :
    Calls Try.prog 7 #[.int .i64 m, .int .i64 room] w fun e w' => e = .returned (.pointer none) ∧ w = w' := by
  by_cases h1 : m < 1
  · go_enter Try.func7, Try.ntmps7
    go_wp2
    go_ret
    exact ⟨rfl, rfl⟩
  · by_cases h2 : 16 < m
    · go_enter Try.func7, Try.ntmps7
      go_wp2
      go_ret
      exact ⟨rfl, rfl⟩
    · by_cases h3 : room < 0
      · go_enter Try.func7, Try.ntmps7
        go_wp2
        go_ret
        exact ⟨rfl, rfl⟩
      · have h4 : 4194304 < room := by omega
        go_enter Try.func7, Try.ntmps7
        go_wp2
        go_ret
        exact ⟨rfl, rfl⟩
end Go.Proofs.Ytgbhadgkkefokaa
