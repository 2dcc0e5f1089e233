/- Contract: a log's calls in a row. Closures of a log in a slice that grows: a part of the log's footprint while it grows. -/
import Derived.Test.YtbekdcpdfmfopaaGreatM33
import Derived.Test.YtbekdcpdfmfopaaGreatWalAdd
import Derived.Test.YtbekdcpdfmfopaaGreatDo
section
namespace Go.Proofs.YtbekdcpdfmfopaaGreat
open Go.RowKit

/-- What a call of the row asks for, so that it goes. -/
def WC.Ok (s : WS) : WC → Prop
  | .wr _ t => t.size ≤ 1048576
  | .cut _ _ => True
  | .sync => True
  | .emp i f => ∃ q, s.P[i]? = some q ∧ q.1 = f ∧ s.P.length ≤ 1000000
  | .add _ h n t => h = ⟨#[]⟩ ∧ t.size ≤ 65536 ∧ n ≤ 281474976710656 ∧ s.Ok ∧ 1 ≤ s.P.length
def okF : List WC → WS → DS → Prop
  | [], _, _ => True
  | c :: r, s, d => c.Ok s ∧ d.L.length ≤ 1000000 ∧ ((c.run s d).2.2 = 0 → okF r ((c.run s d).1.told 0) (c.run s d).2.1)
/-- Closures of a log, in a slice that is neither the log's nor the disk's. -/
def RowC (w : World) (b bd : Nat) (κ μ : Foot) (p : Option Addr) (C : List WC) : Prop := ∃ vs : List Value, vs.length = C.length ∧
  (∀ (i : Nat) (v : Value), vs[i]? = some v → ∃ a, p = some a ∧ Free κ μ w a.block ∧ w.cell? (a.add i) = some v) ∧ ∀ (i : Nat) (v : Value) (c : WC), vs[i]? = some v → C[i]? = some c → IsC w b bd κ μ v c
theorem RowC.fr {w w' : World} {b bd : Nat} {κ μ κ' μ' : Foot} {p : Option Addr} {C : List WC} (h : RowC w b bd κ μ p C) (f : Fr2 κ μ w w' κ' μ') : RowC w' b bd κ' μ' p C := by
  obtain ⟨vs, h1, h2, h3⟩ := h
  refine ⟨vs, h1, fun i v hv => ?_, fun i v c hv hc => (h3 i v c hv hc).fr f⟩
  obtain ⟨a, e, hf, hc⟩ := h2 i v hv
  refine ⟨a, e, hf.fr f, ?_⟩
  rw [World.cell?_of_block (w := w) (a := a.add i) (by rw [add_block]; exact f.other _ hf.1 (by rw [hf.2.1]; decide) (by rw [hf.2.2]; decide))]
  exact hc
theorem RowC.at {w : World} {b bd : Nat} {κ μ : Foot} {p : Option Addr} {C : List WC} (h : RowC w b bd κ μ p C) {j : Nat} {c : WC} (hc : C[j]? = some c) : ∃ a v, p = some a ∧ w.cell? (a.add j) = some v ∧ IsC w b bd κ μ v c := by
  obtain ⟨vs, h1, h2, h3⟩ := h
  have hj : j < vs.length := by rw [h1]; exact (List.getElem?_eq_some_iff.1 hc).1
  obtain ⟨a, e, _, hcell⟩ := h2 j _ (List.getElem?_eq_getElem hj)
  exact ⟨a, _, e, hcell, h3 j _ c (List.getElem?_eq_getElem hj) hc⟩
theorem doF_at (C : List WC) (j : Nat) (c : WC) (h : C[j]? = some c) : C.drop j = c :: C.drop (j + 1) := by
  obtain ⟨hj, rfl⟩ := List.getElem?_eq_some_iff.1 h
  exact List.drop_eq_getElem_cons hj
set_option maxRecDepth 100000 in
set_option maxHeartbeats 4000000 in
theorem do_any' (w : World) (b bd : Nat) (κ μ : Foot) (s : WS) (d : DS) (h : LS w b bd κ μ s d) (p : Option Addr) (cap : Nat) (C : List WC) (hr : RowC w b bd κ μ p C) (hl : C.length ≤ 1000000) (hok : okF C s d) (s9 : WS) (d9 : DS) (e9 : Int) (hdo : doF C s d = (s9, d9, e9)) :
    Calls Tryz.prog 29 #[.pointer (some ⟨b, 0, none⟩), .slice p C.length cap] w fun e w' => e = .returned (.int .i64 e9) ∧ LPost w b bd κ μ w' s9 d9 := by
  have H0 : Hid (∃ κ' μ', LS w b bd κ' μ' s d ∧ Fr2 κ μ w w κ' μ' ∧ okF (C.drop 0) s d ∧ doF (C.drop 0) s d = (s9, d9, e9)) := Lib.hid ⟨κ, μ, h, Fr2.refl _ _ _, hok, hdo⟩
  have HR := Lib.hid hr
  clear h hr hok hdo
  go_enter Tryz.func29, Tryz.ntmps29
  go_wp2
  go_loopw [9] (fun iv wr => ∃ j : Nat, j ≤ C.length ∧ iv = .int .i64 (j : Int) ∧ ∃ κ' μ' s' d', LS wr b bd κ' μ' s' d' ∧ Fr2 κ μ w wr κ' μ' ∧ okF (C.drop j) s' d' ∧ doF (C.drop j) s' d' = (s9, d9, e9)) (fun iv _ => C.length - (intOf iv).toNat)
  case atStart =>
    obtain ⟨κ', μ', h1⟩ := H0.out
    exact ⟨0, Nat.zero_le _, rfl, κ', μ', s, d, h1⟩
  case round =>
    obtain ⟨j, hj, rfl, κ', μ', s', d', hls, hfr, hok, hdo⟩ := hrel
    by_cases hlt : j < C.length
    · obtain ⟨c, hc⟩ : ∃ c, C[j]? = some c := ⟨_, List.getElem?_eq_getElem hlt⟩
      obtain ⟨a, v, rfl, hcell, hisc⟩ := (HR.out.fr hfr).at hc
      rw [doF_at C j c hc] at hok hdo
      obtain ⟨hok1, hL, hok2⟩ := hok
      obtain ⟨s1, d1, e1, hrun⟩ : ∃ s1 d1 e1, c.run s' d' = (s1, d1, e1) := ⟨_, _, _, rfl⟩
      rw [hrun] at hok2
      unfold doF at hdo
      rw [hrun] at hdo
      dsimp only at hok2 hdo
      have HOk2 := Lib.hid hok2; have HDo := Lib.hid hdo; have HFr := Lib.hid hfr
      have HLp := Lib.hid (fun w2 (hp : LPost wr b bd κ' μ' w2 s1 d1) => (hp : ∃ κ2 μ2, LS w2 b bd κ2 μ2 s1 d1 ∧ Fr2 κ' μ' wr w2 κ2 μ2))
      cases c with
      | wr f t =>
        obtain ⟨x, y, z, rfl, _, _, _, hx, hy, hz⟩ := hisc
        have HCall := Lib.hid (wr_call wr b bd κ' μ' s' d' hls f t hok1 hL x y z hx hy hz)
        unfold WC.run at hrun
        injection hrun with r1 r2
        injection r2 with r2 r3
        rw [r1, r2, r3] at HCall
        clear hok1 hL hok2 hdo hfr hls hx hy hz r1 r2 r3 hc
        by_cases he : e1 = 0
        · subst he
          have HOk3 := Lib.hid (HOk2.out rfl)
          have HDo3 : Hid (doF (C.drop (j + 1)) (s1.told 0) d1 = (s9, d9, e9)) := Lib.hid (by have := HDo.out; rw [if_pos rfl] at this; exact this)
          clear HOk2 HDo
          go_wp2_with (go_at_call 56; refine (HCall.out).mono ?_; rintro e w2 ⟨rfl, hp⟩; obtain ⟨κ2, μ2, hls2, hfr2⟩ := HLp.out _ hp; have c9 := hls2.wal.cells.2.2.2.2.2.2.2.2; have f9 := hls2.wal.frozen 9; have HSet := Lib.hid (hls2.setw 9 (.int .i64 0) (s' := s1.told 0) rfl (fun pv => rfl)); have HFr2 := Lib.hid hfr2; clear hp hls2 hfr2)
          go_roundw
          case rel =>
            obtain ⟨κ3, μ3, hls3, hfr3⟩ := HSet.out
            exact ⟨j + 1, by omega, by go_num, κ3, μ3, s1.told 0, d1, hls3, HFr.out.trans (HFr2.out.trans hfr3), HOk3.out, HDo3.out⟩
          case measure => simp [intOf]; omega
        · have hne : (e1 == 0) = false := by rw [beq_eq_false_iff_ne]; exact he
          have h9 := HDo.out
          rw [if_neg he] at h9
          injection h9 with h91 h92
          injection h92 with h92 h93
          subst h91 h92 h93
          clear HDo
          go_wp2_with (go_at_call 56; refine (HCall.out).mono ?_; rintro e w2 ⟨rfl, hp⟩; obtain ⟨κ2, μ2, hls2, hfr2⟩ := HLp.out _ hp; have c9 := hls2.wal.cells.2.2.2.2.2.2.2.2; have f9 := hls2.wal.frozen 9; have HSet := Lib.hid (hls2.setw 9 (.int .i64 e1) (s' := s1.told e1) rfl (fun pv => rfl)); have HFr2 := Lib.hid hfr2; clear hp hls2 hfr2)
          go_ret
          exact ⟨rfl, LPost.after HFr.out (LPost.after HFr2.out HSet.out)⟩
      | cut f n =>
        obtain ⟨x, y, z, rfl, _, _, _, hx, hy, hz⟩ := hisc
        have HCall := Lib.hid (cut_call wr b bd κ' μ' s' d' hls f n hL x y z hx hy hz)
        unfold WC.run at hrun
        injection hrun with r1 r2
        injection r2 with r2 r3
        rw [r1, r2, r3] at HCall
        clear hok1 hL hok2 hdo hfr hls hx hy hz r1 r2 r3 hc
        by_cases he : e1 = 0
        · subst he
          have HOk3 := Lib.hid (HOk2.out rfl)
          have HDo3 : Hid (doF (C.drop (j + 1)) (s1.told 0) d1 = (s9, d9, e9)) := Lib.hid (by have := HDo.out; rw [if_pos rfl] at this; exact this)
          clear HOk2 HDo
          go_wp2_with (go_at_call 81; refine (HCall.out).mono ?_; rintro e w2 ⟨rfl, hp⟩; obtain ⟨κ2, μ2, hls2, hfr2⟩ := HLp.out _ hp; have c9 := hls2.wal.cells.2.2.2.2.2.2.2.2; have f9 := hls2.wal.frozen 9; have HSet := Lib.hid (hls2.setw 9 (.int .i64 0) (s' := s1.told 0) rfl (fun pv => rfl)); have HFr2 := Lib.hid hfr2; clear hp hls2 hfr2)
          go_roundw
          case rel =>
            obtain ⟨κ3, μ3, hls3, hfr3⟩ := HSet.out
            exact ⟨j + 1, by omega, by go_num, κ3, μ3, s1.told 0, d1, hls3, HFr.out.trans (HFr2.out.trans hfr3), HOk3.out, HDo3.out⟩
          case measure => simp [intOf]; omega
        · have hne : (e1 == 0) = false := by rw [beq_eq_false_iff_ne]; exact he
          have h9 := HDo.out
          rw [if_neg he] at h9
          injection h9 with h91 h92
          injection h92 with h92 h93
          subst h91 h92 h93
          clear HDo
          go_wp2_with (go_at_call 81; refine (HCall.out).mono ?_; rintro e w2 ⟨rfl, hp⟩; obtain ⟨κ2, μ2, hls2, hfr2⟩ := HLp.out _ hp; have c9 := hls2.wal.cells.2.2.2.2.2.2.2.2; have f9 := hls2.wal.frozen 9; have HSet := Lib.hid (hls2.setw 9 (.int .i64 e1) (s' := s1.told e1) rfl (fun pv => rfl)); have HFr2 := Lib.hid hfr2; clear hp hls2 hfr2)
          go_ret
          exact ⟨rfl, LPost.after HFr.out (LPost.after HFr2.out HSet.out)⟩
      | sync =>
        have hv : v = .func (.func 30) #[.pointer (some ⟨bd, 0, none⟩)] #[] := hisc
        subst hv
        have HCall := Lib.hid (sync_call wr b bd κ' μ' s' d' hls)
        unfold WC.run at hrun
        injection hrun with r1 r2
        injection r2 with r2 r3
        rw [r1, r2, r3] at HCall
        clear hok1 hL hok2 hdo hfr hls hisc r1 r2 r3 hc
        by_cases he : e1 = 0
        · subst he
          have HOk3 := Lib.hid (HOk2.out rfl)
          have HDo3 : Hid (doF (C.drop (j + 1)) (s1.told 0) d1 = (s9, d9, e9)) := Lib.hid (by have := HDo.out; rw [if_pos rfl] at this; exact this)
          clear HOk2 HDo
          go_wp2_with (go_at_call 30; refine (HCall.out).mono ?_; rintro e w2 ⟨rfl, hp⟩; obtain ⟨κ2, μ2, hls2, hfr2⟩ := HLp.out _ hp; have c9 := hls2.wal.cells.2.2.2.2.2.2.2.2; have f9 := hls2.wal.frozen 9; have HSet := Lib.hid (hls2.setw 9 (.int .i64 0) (s' := s1.told 0) rfl (fun pv => rfl)); have HFr2 := Lib.hid hfr2; clear hp hls2 hfr2)
          go_roundw
          case rel =>
            obtain ⟨κ3, μ3, hls3, hfr3⟩ := HSet.out
            exact ⟨j + 1, by omega, by go_num, κ3, μ3, s1.told 0, d1, hls3, HFr.out.trans (HFr2.out.trans hfr3), HOk3.out, HDo3.out⟩
          case measure => simp [intOf]; omega
        · have hne : (e1 == 0) = false := by rw [beq_eq_false_iff_ne]; exact he
          have h9 := HDo.out
          rw [if_neg he] at h9
          injection h9 with h91 h92
          injection h92 with h92 h93
          subst h91 h92 h93
          clear HDo
          go_wp2_with (go_at_call 30; refine (HCall.out).mono ?_; rintro e w2 ⟨rfl, hp⟩; obtain ⟨κ2, μ2, hls2, hfr2⟩ := HLp.out _ hp; have c9 := hls2.wal.cells.2.2.2.2.2.2.2.2; have f9 := hls2.wal.frozen 9; have HSet := Lib.hid (hls2.setw 9 (.int .i64 e1) (s' := s1.told e1) rfl (fun pv => rfl)); have HFr2 := Lib.hid hfr2; clear hp hls2 hfr2)
          go_ret
          exact ⟨rfl, LPost.after HFr.out (LPost.after HFr2.out HSet.out)⟩
      | emp i f =>
        obtain ⟨q, hq, hqf, hP⟩ := hok1
        obtain ⟨x, y, z, rfl, hcall⟩ := emp_call wr b bd κ' μ' s' d' hls i f q hq hqf hP hL v hisc
        rw [hrun] at hcall
        have HCall := Lib.hid hcall
        clear hL hok2 hdo hfr hls hisc hrun hcall hc hq hqf hP
        by_cases he : e1 = 0
        · subst he
          have HOk3 := Lib.hid (HOk2.out rfl)
          have HDo3 : Hid (doF (C.drop (j + 1)) (s1.told 0) d1 = (s9, d9, e9)) := Lib.hid (by have := HDo.out; rw [if_pos rfl] at this; exact this)
          clear HOk2 HDo
          go_wp2_with (go_at_call 59; refine (HCall.out).mono ?_; rintro e w2 ⟨rfl, hp⟩; obtain ⟨κ2, μ2, hls2, hfr2⟩ := HLp.out _ hp; have c9 := hls2.wal.cells.2.2.2.2.2.2.2.2; have f9 := hls2.wal.frozen 9; have HSet := Lib.hid (hls2.setw 9 (.int .i64 0) (s' := s1.told 0) rfl (fun pv => rfl)); have HFr2 := Lib.hid hfr2; clear hp hls2 hfr2)
          go_roundw
          case rel =>
            obtain ⟨κ3, μ3, hls3, hfr3⟩ := HSet.out
            exact ⟨j + 1, by omega, by go_num, κ3, μ3, s1.told 0, d1, hls3, HFr.out.trans (HFr2.out.trans hfr3), HOk3.out, HDo3.out⟩
          case measure => simp [intOf]; omega
        · have hne : (e1 == 0) = false := by rw [beq_eq_false_iff_ne]; exact he
          have h9 := HDo.out
          rw [if_neg he] at h9
          injection h9 with h91 h92
          injection h92 with h92 h93
          subst h91 h92 h93
          clear HDo
          go_wp2_with (go_at_call 59; refine (HCall.out).mono ?_; rintro e w2 ⟨rfl, hp⟩; obtain ⟨κ2, μ2, hls2, hfr2⟩ := HLp.out _ hp; have c9 := hls2.wal.cells.2.2.2.2.2.2.2.2; have f9 := hls2.wal.frozen 9; have HSet := Lib.hid (hls2.setw 9 (.int .i64 e1) (s' := s1.told e1) rfl (fun pv => rfl)); have HFr2 := Lib.hid hfr2; clear hp hls2 hfr2)
          go_ret
          exact ⟨rfl, LPost.after HFr.out (LPost.after HFr2.out HSet.out)⟩
      | add f h n t =>
        obtain ⟨rfl, ht, hn, hk, hP⟩ := hok1
        obtain ⟨x, y, z, rfl, fx, fy, fz, hx, hy, hz⟩ := hisc
        have HCall := Lib.hid (add_call wr b bd κ' μ' s' d' hls f n t ht hn hL hk hP x y z fx fy fz hx hy hz)
        rw [hrun] at HCall
        clear hL hok2 hdo hfr hls fx fy fz hx hy hz hrun hc ht hn hk hP
        by_cases he : e1 = 0
        · subst he
          have HOk3 := Lib.hid (HOk2.out rfl)
          have HDo3 : Hid (doF (C.drop (j + 1)) (s1.told 0) d1 = (s9, d9, e9)) := Lib.hid (by have := HDo.out; rw [if_pos rfl] at this; exact this)
          clear HOk2 HDo
          go_wp2_with (go_at_call 85; refine (HCall.out).mono ?_; rintro e w2 ⟨rfl, hp⟩; obtain ⟨κ2, μ2, hls2, hfr2⟩ := HLp.out _ hp; have c9 := hls2.wal.cells.2.2.2.2.2.2.2.2; have f9 := hls2.wal.frozen 9; have HSet := Lib.hid (hls2.setw 9 (.int .i64 0) (s' := s1.told 0) rfl (fun pv => rfl)); have HFr2 := Lib.hid hfr2; clear hp hls2 hfr2)
          go_roundw
          case rel =>
            obtain ⟨κ3, μ3, hls3, hfr3⟩ := HSet.out
            exact ⟨j + 1, by omega, by go_num, κ3, μ3, s1.told 0, d1, hls3, HFr.out.trans (HFr2.out.trans hfr3), HOk3.out, HDo3.out⟩
          case measure => simp [intOf]; omega
        · have hne : (e1 == 0) = false := by rw [beq_eq_false_iff_ne]; exact he
          have h9 := HDo.out
          rw [if_neg he] at h9
          injection h9 with h91 h92
          injection h92 with h92 h93
          subst h91 h92 h93
          clear HDo
          go_wp2_with (go_at_call 85; refine (HCall.out).mono ?_; rintro e w2 ⟨rfl, hp⟩; obtain ⟨κ2, μ2, hls2, hfr2⟩ := HLp.out _ hp; have c9 := hls2.wal.cells.2.2.2.2.2.2.2.2; have f9 := hls2.wal.frozen 9; have HSet := Lib.hid (hls2.setw 9 (.int .i64 e1) (s' := s1.told e1) rfl (fun pv => rfl)); have HFr2 := Lib.hid hfr2; clear hp hls2 hfr2)
          go_ret
          exact ⟨rfl, LPost.after HFr.out (LPost.after HFr2.out HSet.out)⟩
    · obtain rfl : j = C.length := by omega
      have HFin := Lib.hid (show ∃ κ' μ', LS wr b bd κ' μ' s9 d9 ∧ Fr2 κ μ w wr κ' μ' from by
        rw [List.drop_length] at hdo
        unfold doF at hdo
        injection hdo with e1 e2
        injection e2 with e2 e3
        rw [← e1, ← e2]
        exact ⟨κ', μ', hls, hfr⟩)
      have he9 : e9 = 0 := by
        rw [List.drop_length] at hdo
        unfold doF at hdo
        injection hdo with e1 e2
        injection e2 with e2 e3
        exact e3.symm
      subst he9
      clear hls hfr hok hdo
      go_wp2
      go_ret
      exact ⟨rfl, HFin.out⟩
end Go.Proofs.YtbekdcpdfmfopaaGreat
end

section
namespace Go.Proofs.YtbekdcpdfmfopaaGreat
open Go.RowKit

theorem infoCall : (Tryz.prog.info? 69).map (fun i => (i.zero, i.size, i.bytes)) = some (some Value.nilFunc, 1, 8) := by kernel_rfl
section
variable {κ κ' μ : Foot} {w w' : World} {b bd g : Nat} {s : WS} {d : DS} {v : Value} {c : WC}
/-- The footprint without the row's block. -/
def drop4 (κ : Foot) : Foot := fun g => if κ g = 4 then 0 else κ g
/-- The log and its disk, a row beside them. -/
structure LR (w : World) (b bd : Nat) (κ μ : Foot) (s : WS) (d : DS) : Prop where
  wal : IsW w b bd κ s
  disk : IsD w bd μ d
  apart : ∀ g, κ g ≠ 0 → μ g = 0
def RowS (w : World) (b bd : Nat) (κ μ : Foot) (p : Option Addr) (cap : Nat) (C : List WC) : Prop := ∃ vs : List Value, Sl w κ 4 1 69 p C.length cap vs ∧ (∀ u ∈ vs, u.oneCell' = true) ∧ ∀ (i : Nat) (v : Value) (c : WC), vs[i]? = some v → C[i]? = some c → IsC w b bd κ μ v c
theorem LS.lr (h : LS w b bd κ μ s d) : LR w b bd κ μ s d := ⟨h.wal, h.disk, h.apart⟩
theorem Free.f4 (h : Free κ μ w g) (f : Fr κ (fun j => j = 4) w w' κ') : Free κ' μ w' g := ⟨Nat.lt_of_lt_of_le h.1 f.size, (f.foot g h.1).trans h.2.1, h.2.2⟩
theorem Free.f4blk {T : TypeId} {cs : List Value} (h : Free κ μ w g) (f : Fr κ (fun j => j = 4) w w' κ') (hb : Blk w g T cs) : Blk w' g T cs := (f.other g h.1 (by rw [h.2.1]; decide)).trans hb
theorem IsC.f4 (h : IsC w b bd κ μ v c) (f : Fr κ (fun j => j = 4) w w' κ') : IsC w' b bd κ' μ v c := by
  cases c with
  | wr f' s =>
    obtain ⟨x, y, z, h1, h2, h3, h4, h5, h6, h7⟩ := h
    exact ⟨x, y, z, h1, h2.f4 f, h3.f4 f, h4.f4 f, h2.f4blk f h5, h3.f4blk f h6, h4.f4blk f h7⟩
  | cut f' n =>
    obtain ⟨x, y, z, h1, h2, h3, h4, h5, h6, h7⟩ := h
    exact ⟨x, y, z, h1, h2.f4 f, h3.f4 f, h4.f4 f, h2.f4blk f h5, h3.f4blk f h6, h4.f4blk f h7⟩
  | sync => exact h
  | emp i f' =>
    obtain ⟨x, y, z, v2, x2, y2, z2, h1, h2, h3, h4, h5, h6, h7, g1, g2, g3, g4, g5, g6, g7⟩ := h
    exact ⟨x, y, z, v2, x2, y2, z2, h1, h2.f4 f, h3.f4 f, h4.f4 f, h2.f4blk f h5, h3.f4blk f h6, h4.f4blk f h7, g1, g2.f4 f, g3.f4 f, g4.f4 f, g2.f4blk f g5, g3.f4blk f g6, g4.f4blk f g7⟩
  | add f' h' n t =>
    obtain ⟨x, y, z, h1, h2, h3, h4, h5, h6, h7⟩ := h
    exact ⟨x, y, z, h1, h2.f4 f, h3.f4 f, h4.f4 f, h2.f4blk f h5, h3.f4blk f h6, h4.f4blk f h7⟩
theorem IsC.ext (h : IsC w b bd κ μ v c) (hx : Ext w w') : IsC w' b bd κ μ v c := h.fr (hx.fr2 κ μ)
theorem LR.ext (h : LR w b bd κ μ s d) (hx : Ext w w') : LR w' b bd κ μ s d := ⟨h.wal.ext hx, h.disk.ext hx, h.apart⟩
theorem LR.f4 (h : LR w b bd κ μ s d) (f : Fr κ (fun j => j = 4) w w' κ') : LR w' b bd κ' μ s d := by
  obtain ⟨p, c, k1, k2⟩ := h.wal.lay
  refine ⟨⟨⟨p, c, (f.other b h.wal.lt (by rw [h.wal.kind]; decide)).trans k1, k2.fr f (by decide)⟩, (f.foot b h.wal.lt).trans h.wal.kind, f.ins h.wal.ins⟩, h.disk.keep (fun g hg hm => f.other g hg (fun e => by
    by_cases hk : κ g = 0
    · rw [hk] at e; cases e
    · exact hm (h.apart g hk))) f.size, fun g hg => ?_⟩
  rcases Nat.lt_or_ge g w.heap.size with hl | hl
  · exact h.apart g (by rw [← f.foot g hl]; exact hg)
  · exact Classical.byContradiction fun e => by have := h.disk.ins g e; omega
theorem RowS.ext {p : Option Addr} {cap : Nat} {C : List WC} (h : RowS w b bd κ μ p cap C) (hx : Ext w w') : RowS w' b bd κ μ p cap C := by
  obtain ⟨vs, h1, h2, h3⟩ := h
  exact ⟨vs, h1.ext hx, h2, fun i v c hv hc => (h3 i v c hv hc).ext hx⟩
theorem RowS.nil (w : World) (b bd : Nat) (κ μ : Foot) : RowS w b bd κ μ none 0 [] := ⟨[], Sl.nil _ _ _ _ _, fun u hu => (by cases hu), fun i v c hv => by simp at hv⟩
/-- What a row leaves that was built: the log and its disk as they were, the row aside. -/
theorem LR.done {w0 : World} {κ0 : Foot} (h0 : LS w0 b bd κ0 μ s d) (f : Fr κ0 (fun j => j = 4) w0 w κ) (h : LR w b bd κ μ s d) : LS w b bd (drop4 κ) μ s d ∧ Fr2 κ0 μ w0 w (drop4 κ) μ := by
  have h4 : ∀ g, drop4 κ g ≠ 4 := fun g => by unfold drop4; split <;> simp_all
  have hle : ∀ g, drop4 κ g ≠ 0 → κ g = drop4 κ g := fun g hg => by unfold drop4 at hg ⊢; split at hg <;> simp_all
  have hk : ∀ g k, k ≠ 4 → κ g = k → drop4 κ g = k := fun g k hk e => by unfold drop4; rw [if_neg (by omega)]; exact e
  obtain ⟨p, c, k1, k2⟩ := h.wal.lay
  refine ⟨⟨⟨⟨p, c, k1, k2.same (fun _ _ _ => rfl) (fun g _ e => hk g 3 (by decide) e)⟩, hk b 2 (by decide) h.wal.kind, fun g hg => h.wal.ins g (by rw [hle g hg]; exact hg)⟩, h.disk, fun g hg => h.apart g (by rw [hle g hg]; exact hg), h4⟩, ⟨f.os, f.tape, f.output, f.size, fun g hg _ _ => f.other g hg (h0.low g), fun g hg => ?_, fun _ _ => rfl⟩⟩
  have e := f.foot g hg
  rw [hk g (κ0 g) (h0.low g) e]
theorem RowS.done {p : Option Addr} {cap : Nat} {C : List WC} (hr : RowS w b bd κ μ p cap C) (h : LR w b bd κ μ s d) : RowC w b bd (drop4 κ) μ p C := by
  obtain ⟨vs, h1, h2, h3⟩ := hr
  have hf : ∀ g, κ g = 0 → drop4 κ g = 0 := fun g e => by unfold drop4; rw [if_neg (by omega)]; exact e
  have hfr : ∀ {g}, Free κ μ w g → Free (drop4 κ) μ w g := fun {g} q => ⟨q.1, hf g q.2.1, q.2.2⟩
  refine ⟨vs, by simpa using h1.1, fun i v hv => ?_, fun i v c hv hc => ?_⟩
  · obtain ⟨g, e, hg, hk, hc, _⟩ := h1.cell hv
    exact ⟨⟨g, 0, none⟩, e, ⟨hg, by show drop4 κ g = 0; unfold drop4; rw [if_pos hk], h.apart g (by rw [hk]; decide)⟩, by rw [add_zero_off]; exact hc⟩
  · have q := h3 i v c hv hc
    cases c with
    | wr f' s =>
      obtain ⟨x, y, z, h1, h2, h3, h4, h5⟩ := q
      exact ⟨x, y, z, h1, hfr h2, hfr h3, hfr h4, h5⟩
    | cut f' n =>
      obtain ⟨x, y, z, h1, h2, h3, h4, h5⟩ := q
      exact ⟨x, y, z, h1, hfr h2, hfr h3, hfr h4, h5⟩
    | sync => exact q
    | emp i f' =>
      obtain ⟨x, y, z, v2, x2, y2, z2, h1, h2, h3, h4, h5, h6, h7, g1, g2, g3, g4, g5⟩ := q
      exact ⟨x, y, z, v2, x2, y2, z2, h1, hfr h2, hfr h3, hfr h4, h5, h6, h7, g1, hfr g2, hfr g3, hfr g4, g5⟩
    | add f' h' n t =>
      obtain ⟨x, y, z, h1, h2, h3, h4, h5⟩ := q
      exact ⟨x, y, z, h1, hfr h2, hfr h3, hfr h4, h5⟩
/-- A block of closures, as a row. -/
theorem RowS.made (hl : LR w b bd κ μ s d) {vs : List Value} {C : List WC} (hlen : vs.length = C.length) (h1 : ∀ u ∈ vs, u.oneCell' = true) (h3 : ∀ (i : Nat) (v : Value) (c : WC), vs[i]? = some v → C[i]? = some c → IsC w b bd κ μ v c) :
    RowS (w.alloc (.cells vs.toArray 69)) b bd (setK κ w.heap.size 4) μ (some ⟨w.heap.size, 0, none⟩) C.length C ∧ Fr κ (fun j => j = 4) w (w.alloc (.cells vs.toArray 69)) (setK κ w.heap.size 4) := by
  have f := new_fr κ (fun j => j = 4) w (.cells vs.toArray 69) 4
  have _ := hl
  exact ⟨⟨vs, Sl.ofBlk (Blk.new w vs _) (by rw [hlen]; omega) (setK_same _ _ _), h1, fun i v c hv hc => (h3 i v c hv hc).f4 f⟩, f⟩
end
/-- append(row, closures...), in a plain region. -/
theorem append_calls {w : World} {ops : Array Oper} {rest : List Oper} {o : Oper} {a : Act} {Q : Exit → Act → World → Prop} (hgd : o.guard = none) (sl x : Operand)
    (ho : o.op = .call { callee := .builtin .append, args := #[sl, x], argTypes := #[71, 71] })
    {b bd : Nat} {κ μ : Foot} {s : WS} {d : DS} (hl : LR w b bd κ μ s d) {p : Option Addr} {n cap : Nat} {C : List WC} (hn : C.length = n) (hs : a.eval sl = .slice p n cap) (hr : RowS w b bd κ μ p cap C)
    (g m : Nat) (us : List Value) (D : List WC) (hm : us.length = m) (hD : D.length = m) (hx : a.eval x = .slice (some ⟨g, 0, none⟩) m m) (hb : Blk w g 69 us) (hu : ∀ u ∈ us, u.oneCell' = true) (hc : ∀ (i : Nat) (v : Value) (c : WC), us[i]? = some v → D[i]? = some c → IsC w b bd κ μ v c) (hlen : n + m ≤ 1000000)
    (hQ : ∀ p' c' w' κ', RowS w' b bd κ' μ p' c' (C ++ D) → LR w' b bd κ' μ s d → Fr κ (fun j => j = 4) w w' κ' → wpList Tryz.prog ops Q rest (a.put o.dst (.slice p' (n + m) c')) w') : wpList Tryz.prog ops Q (o :: rest) a w := by
  subst hn hm
  obtain ⟨vs, h1, h2, h3⟩ := hr
  have hvl : vs.length = C.length := by simpa using h1.1
  refine wpList_append_sl hgd sl x _ _ ho Tryz.underlying71 infoCall rfl (by decide) hs h1 h2 _ hx us.length us (Src.ofSlice w Tryz.underlying71 ⟨g, 0, none⟩ us.length us.length us (by omega) (fun i u hi => by rw [Addr.add_mid, Nat.zero_add]; exact hb.cell i u hi) hu) (by omega) ?_
  intro p' c' w' κ' k1 k2 _ _ _
  refine hQ p' c' w' κ' ⟨vs ++ us, by rw [List.length_append, hD]; exact k1, fun u hu2 => by
    rcases List.mem_append.1 hu2 with q | q
    · exact h2 u q
    · exact hu u q, fun i v c hv hc2 => ?_⟩ (hl.f4 k2) k2
  rcases Nat.lt_or_ge i vs.length with hi | hi
  · rw [List.getElem?_append_left hi] at hv
    rw [List.getElem?_append_left (by omega)] at hc2
    exact (h3 i v c hv hc2).f4 k2
  · rw [List.getElem?_append_right hi] at hv
    rw [List.getElem?_append_right (by omega), ← hvl] at hc2
    exact (hc _ v c hv hc2).f4 k2
end Go.Proofs.YtbekdcpdfmfopaaGreat
end
