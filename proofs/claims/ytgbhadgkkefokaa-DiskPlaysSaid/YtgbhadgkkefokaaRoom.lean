/- Contracts: how many bytes more there is room for; a file's bytes. -/
import Derived.Test.YtgbhadgkkefokaaCalls
import Derived.Outline
namespace Go.Proofs.Ytgbhadgkkefokaa
open Go.RowKit

theorem size16 : (Try.prog.info? 53).map (·.size) = some 16 := by kernel_rfl
theorem sizedF (N : Fs) (p : Nat → Option Addr) (c : Nat → Nat) : (Try.prog.info? 53).map (·.size) = some (sls N p c).length := by rw [sls_length]; exact size16
theorem sizedA (N : Fs) (p : Nat → Option Addr) (c : Nat → Nat) : (Try.prog.info? 53).map (·.size) = some (sls N p c).toArray.size := by rw [List.size_toArray]; exact sizedF N p c
theorem index_sls (N : Fs) (p : Nat → Option Addr) (c : Nat → Nat) (i : Nat) (hi : i < 16) (w : World) :
    (Instr.index 53 (.agg (sls N p c).toArray) (.int .i64 (i : Int))).run Try.prog w = .ok (.slice (p i) (N i).size (c i)) w := by
  have hu := Try.underlying53
  have hu2 := Try.underlying51
  have ha := sls_at N p c i hi
  have hl := sls_length N p c
  generalize sls N p c = T at *
  have hs : (Try.prog.info? 51).map (·.size) = some 1 := by kernel_rfl
  cases hq : Try.prog.info? 51 with
  | none => simp [hq] at hs
  | some d =>
    have hd : d.size = 1 := by simpa [hq] using hs
    simp [Instr.index, part, isAgg, run_underlying hu, run_underlying hu2, sizeOf, typeInfo, hq, hd, hl, hi, asIntOf, go_sem]
    rw [List.getElem?_eq_getElem (by omega)] at ha
    exact Option.some.inj ha
set_option maxHeartbeats 1000000 in
theorem Room_any (w : World) (b : Nat) (κ : Foot) (d : DS) (h : IsD w b κ d) : Calls Try.prog 24 #[.pointer (some ⟨b, 0, none⟩)] w fun e w' => e = .returned (.int .i64 d.left) ∧ w = w' := by
  obtain ⟨c0, c1, c2, f2, _⟩ := h.cells
  obtain ⟨pn, qs, cn, ks, lp, lc, r, l⟩ := h.lay
  have HT := Lib.hid (there_yes w b d.m h.ok.m1 c0)
  have HR := Lib.hid r.nowR
  have HS := Lib.hid (sizedF d.now pn cn)
  have HI := Lib.hid (fun i hi u => index_sls d.now pn cn i hi u)
  have HN := Lib.hid (fun i => h.ok.now_size i)
  have HZ := Lib.hid (szs_le d.now h.ok.now_size)
  have hroom := h.ok.room
  rw [h.ok.left16]
  clear h r l
  generalize d.now = N at *
  generalize sls N pn cn = T at *
  generalize d.room = rm at *
  go_enter Try.func24, Try.ntmps24
  go_wp2_with (first
    | (go_at_call 34; refine (HT.out).mono ?_; rintro e w1 ⟨rfl, rfl⟩)
    | (refine wpList_load_mid rfl 53 (.tmp 15) rfl b 3 rfl T _ HR.out Try.underlying53 rfl HS.out ?_))
  go_loopw [3, 5, 17] (fun lv _ iv wr => ∃ j : Nat, j ≤ 16 ∧ iv = .int .i64 (j : Int) ∧ lv = .int .i64 ((rm : Int) - (szs N j : Int)) ∧ w = wr) (fun _ _ iv _ => 16 - (intOf iv).toNat)
  case atStart => exact ⟨0, Nat.zero_le _, rfl, by simp [szs], rfl⟩
  case round =>
    obtain ⟨j, hj, rfl, rfl, rfl⟩ := hrel
    by_cases hlt : j < 16
    · have hi := fun u => HI.out j hlt u
      have hz := HZ.out j
      have hn := HN.out j
      obtain ⟨z1, hz1⟩ : ∃ z1 : Int, z1 = (rm : Int) - (szs N (j + 1) : Int) := ⟨_, rfl⟩
      have hw : IntKind.i64.wrap ((rm : Int) - (szs N j : Int) - ((N j).size : Int)) = z1 := by
        rw [IntWalk.i64_in _ ⟨by omega, by omega⟩, hz1]
        simp only [szs]; omega
      have HZ1 := Lib.hid hz1
      clear hz1
      generalize (N j).size = nj at *
      go_wp2
      go_roundw
      case rel => exact ⟨j + 1, by omega, by go_num, by rw [← HZ1.out], by first | rfl | trivial⟩
      case measure => simp [intOf]; omega
    · obtain rfl : j = 16 := by omega
      have e16 : ((16 : Nat) : Int) = 16 := rfl
      rw [e16]
      clear e16
      go_wp2
      go_ret
      exact ⟨rfl, rfl⟩
/-- The text of a slice of bytes. -/
theorem Sl.text {w : World} {κ : Foot} {k : Nat} {p : Option Addr} {c : Nat} {s : ByteArray} (h : Sl w κ k 1 5 p s.size c (byteCells s)) :
    (convert 51 9 (.slice p s.size c)).run Try.prog w = .ok (.string s) w := by
  rcases h.2.2.1 with hp | ⟨g, hp⟩
  · subst hp
    have hc : c = 0 := by
      rcases Nat.eq_zero_or_pos c with e | e
      · exact e
      · obtain ⟨g, _, e', _⟩ := h.2.2.2 e; cases e'
    have hn : s.size = 0 := by have := h.2.1; omega
    have := empty_of_size hn
    subst this
    exact run_convert_bytes_nil w 51 _ Try.underlying51 Try.underlying5 _ _ 9 Try.underlying9
  · subst hp
    have hcell : ∀ i, i < s.data.toList.length → w.cell? ⟨g, 0 + i, none⟩ = some (.int .u8 ((s.data.toList.map fun b => (b.toNat : Int)).getD i 0)) := by
      intro i hi
      obtain ⟨g', e, _, _, hc, _⟩ := h.cell (j := i) (u := .int .u8 ((s.data.toList.map fun b => (b.toNat : Int)).getD i 0)) (by
        simp [byteCells, List.getD, List.getElem?_eq_getElem hi])
      cases e
      rw [Nat.zero_add]; exact hc
    have hsz : s.data.toList.length = s.size := size_list s
    rw [run_convert_bytes_arg (P := Try.prog) w 51 _ Try.underlying51 Try.underlying5 g 0 s.size c (s.data.toList.map fun b => (b.toNat : Int)) (by simp [hsz]) (by rw [← hsz]; exact hcell) 9 Try.underlying9]
    have e : strOfNums (s.data.toList.map fun b => (b.toNat : Int)) = s := by
      unfold strOfNums
      apply ByteArray.ext
      simp only [List.map_map]
      apply Array.toList_inj.1
      conv => rhs; rw [← List.map_id s.data.toList]
      apply List.map_congr_left
      intro b _
      simp
    rw [e]
set_option maxHeartbeats 1000000 in
theorem Read_any (w : World) (b : Nat) (κ : Foot) (d : DS) (h : IsD w b κ d) (f : Int) : Calls Try.prog 23 #[.pointer (some ⟨b, 0, none⟩), .int .i64 f] w fun e w' => e = .returned (.tuple #[.string (d.read f).1, .int .i64 (d.read f).2]) ∧ w = w' := by
  obtain ⟨c0, c1, c2, f2, _⟩ := h.cells
  obtain ⟨pn, qs, cn, ks, lp, lc, r, l⟩ := h.lay
  have HG := Lib.hid (goes_any w b κ d h)
  have HH := Lib.hid (has_any w b d.m c0 f)
  unfold DS.read
  by_cases hf : d.fuse = 0
  · rw [if_pos hf] at HG ⊢
    go_enter Try.func23, Try.ntmps23
    go_wp2_with (go_at_call 42; refine (HG.out).mono ?_; rintro e w1 ⟨rfl, rfl⟩)
    go_ret2
    exact ⟨rfl, rfl⟩
  · rw [if_neg hf] at HG ⊢
    by_cases hm : d.isF f
    · rw [if_neg (fun q => q hm)]
      rw [decide_eq_true (show 0 ≤ f ∧ f < (d.m : Int) from hm)] at HH
      obtain ⟨i, rfl⟩ : ∃ i : Nat, f = (i : Int) := ⟨f.toNat, by have := hm.1; omega⟩
      have hi : i < 16 := by have := hm.2; have := h.ok.m16; omega
      have hi2 : (i : Int) < 16 := by omega
      have hi0 : (0 : Int) ≤ (i : Int) := by omega
      have ci := r.now i hi
      have HX := Lib.hid (r.slot i hi).1.text
      rw [Int.toNat_natCast]
      clear h r l hm
      generalize d.now i = s at *
      generalize pn i = p at *
      generalize cn i = c at *
      go_enter Try.func23, Try.ntmps23
      go_wp2_with (first
        | (go_at_call 42; refine (HG.out).mono ?_; rintro e w1 ⟨rfl, rfl⟩)
        | (go_at_call 38; refine (HH.out).mono ?_; rintro e w1 ⟨rfl, rfl⟩; have hx := HX.out))
      go_ret2
      exact ⟨rfl, rfl⟩
    · rw [if_pos hm]
      rw [decide_eq_false (show ¬ (0 ≤ f ∧ f < (d.m : Int)) from hm)] at HH
      clear h r l hm
      go_enter Try.func23, Try.ntmps23
      go_wp2_with (first
        | (go_at_call 42; refine (HG.out).mono ?_; rintro e w1 ⟨rfl, rfl⟩)
        | (go_at_call 38; refine (HH.out).mono ?_; rintro e w1 ⟨rfl, rfl⟩))
      go_ret2
      exact ⟨rfl, rfl⟩
end Go.Proofs.Ytgbhadgkkefokaa
