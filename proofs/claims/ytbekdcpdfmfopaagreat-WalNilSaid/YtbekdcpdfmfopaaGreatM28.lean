/- Contracts: whether a disk is there, whether it has a file, whether it goes; how many files, what room, what is loose. Contracts: how many bytes more there is room for; a file's bytes. -/
import Derived.Test.YtbekdcpdfmfopaaGreatM27
import Derived.Outline
section
namespace Go.Proofs.YtbekdcpdfmfopaaGreat
open Go.RowKit

theorem run_max2 (ts : Array TypeId) (t : TypeId) (a b n : Int) (hn : n = max a b) (u : World) : (Builtin.max_ ts t #[.int .i64 a, .int .i64 b]).run Tryz.prog u = .ok (.int .i64 n) u := by
  simp [Builtin.max_, Builtin.max2]
  omega
theorem run_min2 (ts : Array TypeId) (t : TypeId) (a b n : Int) (hn : n = min a b) (u : World) : (Builtin.min_ ts t #[.int .i64 a, .int .i64 b]).run Tryz.prog u = .ok (.int .i64 n) u := by
  simp [Builtin.min_, Builtin.min2]
  omega
theorem there_nil (w : World) : Calls Tryz.prog 40 #[.pointer none] w fun e w' => e = .returned (.bool false) ∧ w = w' := by
  go_enter Tryz.func40, Tryz.ntmps40
  go_wp2
  go_ret
  exact ⟨rfl, rfl⟩
theorem there_yes (w : World) (b : Nat) (m : Nat) (hm : 1 ≤ m) (c0 : w.cell? ⟨b, 0, none⟩ = some (.int .i64 (m : Int))) : Calls Tryz.prog 40 #[.pointer (some ⟨b, 0, none⟩)] w fun e w' => e = .returned (.bool true) ∧ w = w' := by
  have hm' : (0 : Int) < (m : Int) := by omega
  have hm2 : 0 < m := by omega
  go_enter Tryz.func40, Tryz.ntmps40
  go_wp2
  go_ret
  exact ⟨rfl, rfl⟩
theorem has_any (w : World) (b : Nat) (m : Nat) (c0 : w.cell? ⟨b, 0, none⟩ = some (.int .i64 (m : Int))) (f : Int) : Calls Tryz.prog 78 #[.pointer (some ⟨b, 0, none⟩), .int .i64 f] w fun e w' => e = .returned (.bool (decide (0 ≤ f ∧ f < (m : Int)))) ∧ w = w' := by
  by_cases h0 : 0 ≤ f
  · by_cases h1 : f < (m : Int)
    · rw [decide_eq_true ⟨h0, h1⟩]
      go_enter Tryz.func78, Tryz.ntmps78
      go_wp2
      go_ret
      exact ⟨rfl, rfl⟩
    · rw [decide_eq_false (fun h => h1 h.2)]
      go_enter Tryz.func78, Tryz.ntmps78
      go_wp2
      go_ret
      exact ⟨rfl, rfl⟩
  · rw [decide_eq_false (fun h => h0 h.1)]
    go_enter Tryz.func78, Tryz.ntmps78
    go_wp2
    go_ret
    exact ⟨rfl, rfl⟩
theorem goes_nil (w : World) : Calls Tryz.prog 73 #[.pointer none] w fun e w' => e = .returned (.int .i64 1) ∧ w = w' := by
  go_enter Tryz.func73, Tryz.ntmps73
  go_wp2_with (go_at_call 40; refine (there_nil _).mono ?_; rintro e w1 ⟨rfl, rfl⟩)
  go_ret
  exact ⟨rfl, rfl⟩
section
variable (w : World) (b : Nat) (κ : Foot) (d : DS) (h : IsD w b κ d)
theorem IsD.cells {w : World} {b : Nat} {κ : Foot} {d : DS} (h : IsD w b κ d) : w.cell? ⟨b, 0, none⟩ = some (.int .i64 (d.m : Int)) ∧ w.cell? ⟨b, 1, none⟩ = some (.int .i64 (d.room : Int)) ∧ w.cell? ⟨b, 2, none⟩ = some (.int .i64 d.fuse) ∧ w.frozen? ⟨b, 2, none⟩ = false ∧ ∃ lp lc, w.cell? ⟨b, 35, none⟩ = some (.slice lp d.L.length lc) := by
  obtain ⟨pn, qs, cn, ks, lp, lc, h1, h2⟩ := h.lay
  obtain ⟨c0, c1, c2, c3⟩ := h1.cells
  exact ⟨c0, c1, c2, h1.blk.frozen 2, lp, lc, c3⟩
include h
theorem goes_any : Calls Tryz.prog 73 #[.pointer (some ⟨b, 0, none⟩)] w fun e w' => e = .returned (.int .i64 (if d.fuse = 0 then 90 else 0)) ∧ w = w' := by
  obtain ⟨c0, c1, c2, f2, lp, lc, c3⟩ := h.cells
  have HT := Lib.hid (there_yes w b d.m h.ok.m1 c0)
  clear h
  by_cases hf : d.fuse = 0
  · rw [if_pos hf]
    rw [hf] at c2
    go_enter Tryz.func73, Tryz.ntmps73
    go_wp2_with (go_at_call 40; refine (HT.out).mono ?_; rintro e w1 ⟨rfl, rfl⟩)
    go_ret
    exact ⟨rfl, rfl⟩
  · rw [if_neg hf]
    have hf2 : (d.fuse == 0) = false := by simpa using hf
    generalize d.fuse = q at *
    go_enter Tryz.func73, Tryz.ntmps73
    go_wp2_with (go_at_call 40; refine (HT.out).mono ?_; rintro e w1 ⟨rfl, rfl⟩)
    go_ret
    exact ⟨rfl, rfl⟩
theorem burn_any : Calls Tryz.prog 50 #[.pointer (some ⟨b, 0, none⟩)] w fun e w' => e = .returned (.int .i64 (if d.fuse = 0 then 90 else 0)) ∧ Post w b κ w' (if d.fuse = 0 then d else d.burnt) := by
  obtain ⟨c0, c1, c2, f2, lp, lc, c3⟩ := h.cells
  have HG := Lib.hid (goes_any w b κ d h)
  have HD := Lib.hid h
  have HS := Lib.hid (fun x a c => h.setFuse x a c)
  have hlo := h.ok.fuse0
  have hhi := h.ok.fuse1
  clear h
  by_cases hf : d.fuse = 0
  · rw [if_pos hf] at HG ⊢
    rw [if_pos hf]
    go_enter Tryz.func50, Tryz.ntmps50
    go_wp2_with (go_at_call 73; refine (HG.out).mono ?_; rintro e w1 ⟨rfl, rfl⟩)
    go_ret
    exact ⟨rfl, κ, HD.out, Fr.refl _ _ _⟩
  · rw [if_neg hf] at HG ⊢
    rw [if_neg hf]
    by_cases hn : d.fuse = -1
    · have e : d.burnt = d := by unfold DS.burnt; rw [if_neg (by omega)]
      rw [e]
      rw [hn] at c2
      go_enter Tryz.func50, Tryz.ntmps50
      go_wp2_with (go_at_call 73; refine (HG.out).mono ?_; rintro e w1 ⟨rfl, rfl⟩)
      go_ret
      exact ⟨rfl, κ, HD.out, Fr.refl _ _ _⟩
    · have e : d.burnt = { d with fuse := d.fuse - 1 } := by unfold DS.burnt; rw [if_pos (by omega)]
      rw [e]
      have HS1 := Lib.hid (HS.out (d.fuse - 1) (by omega) (by omega))
      have hq : (d.fuse != -1) = true := by simpa using hn
      have hw : IntKind.i64.wrap (d.fuse - 1) = d.fuse - 1 := IntWalk.i64_in _ ⟨by omega, by omega⟩
      clear hf hn hlo hhi
      generalize { d with fuse := d.fuse - 1 } = d1 at *
      generalize d.fuse = q at *
      go_enter Tryz.func50, Tryz.ntmps50
      go_wp2_with (go_at_call 73; refine (HG.out).mono ?_; rintro e w1 ⟨rfl, rfl⟩)
      go_ret
      exact ⟨rfl, HS1.out⟩
theorem Files_any : Calls Tryz.prog 65 #[.pointer (some ⟨b, 0, none⟩)] w fun e w' => e = .returned (.int .i64 (d.m : Int)) ∧ w = w' := by
  obtain ⟨c0, c1, c2, f2, lp, lc, c3⟩ := h.cells
  have HT := Lib.hid (there_yes w b d.m h.ok.m1 c0)
  clear h
  go_enter Tryz.func65, Tryz.ntmps65
  go_wp2_with (go_at_call 40; refine (HT.out).mono ?_; rintro e w1 ⟨rfl, rfl⟩)
  go_ret
  exact ⟨rfl, rfl⟩
end
theorem Files_nil (w : World) : Calls Tryz.prog 65 #[.pointer none] w fun e w' => e = .returned (.int .i64 0) ∧ w = w' := by
  go_enter Tryz.func65, Tryz.ntmps65
  go_wp2_with (go_at_call 40; refine (there_nil _).mono ?_; rintro e w1 ⟨rfl, rfl⟩)
  go_ret
  exact ⟨rfl, rfl⟩
theorem Room_nil (w : World) : Calls Tryz.prog 18 #[.pointer none] w fun e w' => e = .returned (.int .i64 0) ∧ w = w' := by
  go_enter Tryz.func18, Tryz.ntmps18
  go_wp2_with (go_at_call 40; refine (there_nil _).mono ?_; rintro e w1 ⟨rfl, rfl⟩)
  go_ret
  exact ⟨rfl, rfl⟩
theorem Crash_nil (w : World) (n k : Value) : Calls Tryz.prog 23 #[.pointer none, n, k] w fun e w' => e = .returned (.int .i64 1) ∧ w = w' := by
  go_enter Tryz.func23, Tryz.ntmps23
  go_wp2_with (go_at_call 40; refine (there_nil _).mono ?_; rintro e w1 ⟨rfl, rfl⟩)
  go_ret
  exact ⟨rfl, rfl⟩
theorem burn_nil (w : World) : Calls Tryz.prog 50 #[.pointer none] w fun e w' => e = .returned (.int .i64 1) ∧ w = w' := by
  go_enter Tryz.func50, Tryz.ntmps50
  go_wp2_with (go_at_call 73; refine (goes_nil _).mono ?_; rintro e w1 ⟨rfl, rfl⟩)
  go_ret
  exact ⟨rfl, rfl⟩
theorem Write_nil (w : World) (f s : Value) : Calls Tryz.prog 57 #[.pointer none, f, s] w fun e w' => e = .returned (.int .i64 1) ∧ w = w' := by
  go_enter Tryz.func57, Tryz.ntmps57
  go_wp2_with (go_at_call 50; refine (burn_nil _).mono ?_; rintro e w1 ⟨rfl, rfl⟩)
  go_ret
  exact ⟨rfl, rfl⟩
theorem Cut_nil (w : World) (f n : Value) : Calls Tryz.prog 82 #[.pointer none, f, n] w fun e w' => e = .returned (.int .i64 1) ∧ w = w' := by
  go_enter Tryz.func82, Tryz.ntmps82
  go_wp2_with (go_at_call 50; refine (burn_nil _).mono ?_; rintro e w1 ⟨rfl, rfl⟩)
  go_ret
  exact ⟨rfl, rfl⟩
theorem Sync_nil (w : World) : Calls Tryz.prog 30 #[.pointer none] w fun e w' => e = .returned (.int .i64 1) ∧ w = w' := by
  go_enter Tryz.func30, Tryz.ntmps30
  go_wp2_with (go_at_call 50; refine (burn_nil _).mono ?_; rintro e w1 ⟨rfl, rfl⟩)
  go_ret
  exact ⟨rfl, rfl⟩
theorem Read_nil (w : World) (f : Value) : Calls Tryz.prog 55 #[.pointer none, f] w fun e w' => e = .returned (.tuple #[.string ⟨#[]⟩, .int .i64 1]) ∧ w = w' := by
  go_enter Tryz.func55, Tryz.ntmps55
  go_wp2_with (go_at_call 73; refine (goes_nil _).mono ?_; rintro e w1 ⟨rfl, rfl⟩)
  go_ret2
  exact ⟨rfl, rfl⟩
end Go.Proofs.YtbekdcpdfmfopaaGreat
end

section
namespace Go.Proofs.YtbekdcpdfmfopaaGreat
open Go.RowKit

theorem size16 : (Tryz.prog.info? 82).map (·.size) = some 16 := by kernel_rfl
theorem sizedF (N : Fs) (p : Nat → Option Addr) (c : Nat → Nat) : (Tryz.prog.info? 82).map (·.size) = some (sls N p c).length := by rw [sls_length]; exact size16
theorem sizedA (N : Fs) (p : Nat → Option Addr) (c : Nat → Nat) : (Tryz.prog.info? 82).map (·.size) = some (sls N p c).toArray.size := by rw [List.size_toArray]; exact sizedF N p c
theorem index_sls (N : Fs) (p : Nat → Option Addr) (c : Nat → Nat) (i : Nat) (hi : i < 16) (w : World) :
    (Instr.index 82 (.agg (sls N p c).toArray) (.int .i64 (i : Int))).run Tryz.prog w = .ok (.slice (p i) (N i).size (c i)) w := by
  have hu := Tryz.underlying82
  have hu2 := Tryz.underlying41
  have ha := sls_at N p c i hi
  have hl := sls_length N p c
  generalize sls N p c = T at *
  have hs : (Tryz.prog.info? 41).map (·.size) = some 1 := by kernel_rfl
  cases hq : Tryz.prog.info? 41 with
  | none => simp [hq] at hs
  | some d =>
    have hd : d.size = 1 := by simpa [hq] using hs
    simp [Instr.index, part, isAgg, run_underlying hu, run_underlying hu2, sizeOf, typeInfo, hq, hd, hl, hi, asIntOf, go_sem]
    rw [List.getElem?_eq_getElem (by omega)] at ha
    exact Option.some.inj ha
set_option maxRecDepth 100000 in
set_option maxHeartbeats 1000000 in
theorem Room_any (w : World) (b : Nat) (κ : Foot) (d : DS) (h : IsD w b κ d) : Calls Tryz.prog 18 #[.pointer (some ⟨b, 0, none⟩)] w fun e w' => e = .returned (.int .i64 d.left) ∧ w = w' := by
  obtain ⟨c0, c1, c2, f2, _⟩ := h.cells
  obtain ⟨pn, qs, cn, ks, lp, lc, r, l⟩ := h.lay
  have HT := Lib.hid (there_yes w b d.m h.ok.m1 c0)
  have HR := Lib.hid r.nowR
  have HS := Lib.hid (sizedF d.now pn cn)
  have HI := Lib.hid (fun i hi u => index_sls d.now pn cn i hi u)
  have HN := Lib.hid (fun i => h.ok.now_size i)
  have HZ := Lib.hid (szs_le d.now h.ok.now_size)
  have hroom := h.ok.room
  rw [h.ok.left16]
  clear h r l
  generalize d.now = N at *
  generalize sls N pn cn = T at *
  generalize d.room = rm at *
  go_enter Tryz.func18, Tryz.ntmps18
  go_wp2_with (first
    | (go_at_call 40; refine (HT.out).mono ?_; rintro e w1 ⟨rfl, rfl⟩)
    | (refine wpList_load_mid rfl 82 (.tmp 15) rfl b 3 rfl T _ HR.out Tryz.underlying82 rfl HS.out ?_))
  go_loopw [3, 5, 17] (fun lv _ iv wr => ∃ j : Nat, j ≤ 16 ∧ iv = .int .i64 (j : Int) ∧ lv = .int .i64 ((rm : Int) - (szs N j : Int)) ∧ w = wr) (fun _ _ iv _ => 16 - (intOf iv).toNat)
  case atStart => exact ⟨0, Nat.zero_le _, rfl, by simp [szs], rfl⟩
  case round =>
    obtain ⟨j, hj, rfl, rfl, rfl⟩ := hrel
    by_cases hlt : j < 16
    · have hi := fun u => HI.out j hlt u
      have hz := HZ.out j
      have hn := HN.out j
      obtain ⟨z1, hz1⟩ : ∃ z1 : Int, z1 = (rm : Int) - (szs N (j + 1) : Int) := ⟨_, rfl⟩
      have hw : IntKind.i64.wrap ((rm : Int) - (szs N j : Int) - ((N j).size : Int)) = z1 := by
        rw [IntWalk.i64_in _ ⟨by omega, by omega⟩, hz1]
        simp only [szs]; omega
      have HZ1 := Lib.hid hz1
      clear hz1
      generalize (N j).size = nj at *
      go_wp2
      go_roundw
      case rel => exact ⟨j + 1, by omega, by go_num, by rw [← HZ1.out], by first | rfl | trivial⟩
      case measure => simp [intOf]; omega
    · obtain rfl : j = 16 := by omega
      have e16 : ((16 : Nat) : Int) = 16 := rfl
      rw [e16]
      clear e16
      go_wp2
      go_ret
      exact ⟨rfl, rfl⟩
/-- The text of a slice of bytes. -/
theorem Sl.text {w : World} {κ : Foot} {k : Nat} {p : Option Addr} {c : Nat} {s : ByteArray} (h : Sl w κ k 1 5 p s.size c (byteCells s)) :
    (convert 41 9 (.slice p s.size c)).run Tryz.prog w = .ok (.string s) w := by
  rcases h.2.2.1 with hp | ⟨g, hp⟩
  · subst hp
    have hc : c = 0 := by
      rcases Nat.eq_zero_or_pos c with e | e
      · exact e
      · obtain ⟨g, _, e', _⟩ := h.2.2.2 e; cases e'
    have hn : s.size = 0 := by have := h.2.1; omega
    have := empty_of_size hn
    subst this
    exact run_convert_bytes_nil w 41 _ Tryz.underlying41 Tryz.underlying5 _ _ 9 Tryz.underlying9
  · subst hp
    have hcell : ∀ i, i < s.data.toList.length → w.cell? ⟨g, 0 + i, none⟩ = some (.int .u8 ((s.data.toList.map fun b => (b.toNat : Int)).getD i 0)) := by
      intro i hi
      obtain ⟨g', e, _, _, hc, _⟩ := h.cell (j := i) (u := .int .u8 ((s.data.toList.map fun b => (b.toNat : Int)).getD i 0)) (by
        simp [byteCells, List.getD, List.getElem?_eq_getElem hi])
      cases e
      rw [Nat.zero_add]; exact hc
    have hsz : s.data.toList.length = s.size := size_list s
    rw [run_convert_bytes_arg (P := Tryz.prog) w 41 _ Tryz.underlying41 Tryz.underlying5 g 0 s.size c (s.data.toList.map fun b => (b.toNat : Int)) (by simp [hsz]) (by rw [← hsz]; exact hcell) 9 Tryz.underlying9]
    have e : strOfNums (s.data.toList.map fun b => (b.toNat : Int)) = s := by
      unfold strOfNums
      apply ByteArray.ext
      simp only [List.map_map]
      apply Array.toList_inj.1
      conv => rhs; rw [← List.map_id s.data.toList]
      apply List.map_congr_left
      intro b _
      simp
    rw [e]
set_option maxHeartbeats 1000000 in
theorem Read_any (w : World) (b : Nat) (κ : Foot) (d : DS) (h : IsD w b κ d) (f : Int) : Calls Tryz.prog 55 #[.pointer (some ⟨b, 0, none⟩), .int .i64 f] w fun e w' => e = .returned (.tuple #[.string (d.read f).1, .int .i64 (d.read f).2]) ∧ w = w' := by
  obtain ⟨c0, c1, c2, f2, _⟩ := h.cells
  obtain ⟨pn, qs, cn, ks, lp, lc, r, l⟩ := h.lay
  have HG := Lib.hid (goes_any w b κ d h)
  have HH := Lib.hid (has_any w b d.m c0 f)
  unfold DS.read
  by_cases hf : d.fuse = 0
  · rw [if_pos hf] at HG ⊢
    go_enter Tryz.func55, Tryz.ntmps55
    go_wp2_with (go_at_call 73; refine (HG.out).mono ?_; rintro e w1 ⟨rfl, rfl⟩)
    go_ret2
    exact ⟨rfl, rfl⟩
  · rw [if_neg hf] at HG ⊢
    by_cases hm : d.isF f
    · rw [if_neg (fun q => q hm)]
      rw [decide_eq_true (show 0 ≤ f ∧ f < (d.m : Int) from hm)] at HH
      obtain ⟨i, rfl⟩ : ∃ i : Nat, f = (i : Int) := ⟨f.toNat, by have := hm.1; omega⟩
      have hi : i < 16 := by have := hm.2; have := h.ok.m16; omega
      have hi2 : (i : Int) < 16 := by omega
      have hi0 : (0 : Int) ≤ (i : Int) := by omega
      have ci := r.now i hi
      have HX := Lib.hid (r.slot i hi).1.text
      rw [Int.toNat_natCast]
      clear h r l hm
      generalize d.now i = s at *
      generalize pn i = p at *
      generalize cn i = c at *
      go_enter Tryz.func55, Tryz.ntmps55
      go_wp2_with (first
        | (go_at_call 73; refine (HG.out).mono ?_; rintro e w1 ⟨rfl, rfl⟩)
        | (go_at_call 78; refine (HH.out).mono ?_; rintro e w1 ⟨rfl, rfl⟩; have hx := HX.out))
      go_ret2
      exact ⟨rfl, rfl⟩
    · rw [if_pos hm]
      rw [decide_eq_false (show ¬ (0 ≤ f ∧ f < (d.m : Int)) from hm)] at HH
      clear h r l hm
      go_enter Tryz.func55, Tryz.ntmps55
      go_wp2_with (first
        | (go_at_call 73; refine (HG.out).mono ?_; rintro e w1 ⟨rfl, rfl⟩)
        | (go_at_call 78; refine (HH.out).mono ?_; rintro e w1 ⟨rfl, rfl⟩))
      go_ret2
      exact ⟨rfl, rfl⟩
end Go.Proofs.YtbekdcpdfmfopaaGreat
end
