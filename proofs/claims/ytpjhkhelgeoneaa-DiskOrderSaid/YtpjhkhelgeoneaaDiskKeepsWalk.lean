/- The walk of layer 9's statement DiskKeeps. -/
import Derived.Test.YtpjhkhelgeoneaaKeepsP
import Derived.Test.YtpjhkhelgeoneaaDoes
import Derived.Test.YtpjhkhelgeoneaaAlive
import Derived.StillTailTactics
import Derived.Deep.RegionHeld3
import Derived.BigQuiet
import Derived.Deep.QuietTactic
namespace Go.Proofs.Ytpjhkhelgeoneaa
open Go.RowKit
theorem DS.step_len (d : DS) (x : Stp) : (d.step x).1.m = d.m ∧ (d.step x).1.L.length ≤ d.L.length + 1 := by
  have hw : ∀ f s, (d.write f s).1.m = d.m ∧ (d.write f s).1.L.length ≤ d.L.length + 1 := fun f s => by
    unfold DS.write
    split
    · exact ⟨rfl, by show d.L.length ≤ _; omega⟩
    split
    · exact ⟨rfl, by show d.L.length ≤ _; omega⟩
    split
    · exact ⟨rfl, by show d.L.length ≤ _; omega⟩
    · exact ⟨rfl, by show (d.L ++ [_]).length ≤ _; simp⟩
  have hc : ∀ f n, (d.cutF f n).1.m = d.m ∧ (d.cutF f n).1.L.length ≤ d.L.length + 1 := fun f n => by
    unfold DS.cutF
    split
    · exact ⟨rfl, by show d.L.length ≤ _; omega⟩
    split
    · exact ⟨rfl, by show d.L.length ≤ _; omega⟩
    split
    · exact ⟨rfl, by show d.L.length ≤ _; omega⟩
    · exact ⟨rfl, by show (d.L ++ [_]).length ≤ _; simp⟩
  have hs : d.sync.1.m = d.m ∧ d.sync.1.L.length ≤ d.L.length + 1 := by
    unfold DS.sync
    split
    · exact ⟨rfl, by show d.L.length ≤ _; omega⟩
    · exact ⟨rfl, by show ([] : List Chg).length ≤ _; simp⟩
  have hp : ∀ f n b, (d.spoil f n b).1.m = d.m ∧ (d.spoil f n b).1.L.length ≤ d.L.length + 1 := fun f n b => by
    unfold DS.spoil
    split
    · exact ⟨rfl, by show d.L.length ≤ _; omega⟩
    split
    · exact ⟨rfl, by show d.L.length ≤ _; omega⟩
    split
    · exact ⟨rfl, by show d.L.length ≤ _; omega⟩
    · exact ⟨rfl, by show d.L.length ≤ _; omega⟩
  unfold DS.step DS.stepK
  split
  · exact hw _ _
  · exact hc _ _
  · exact hs
  · exact ⟨rfl, by show d.L.length ≤ _; omega⟩
  · exact ⟨rfl, by show ([] : List Chg).length ≤ _; simp⟩
  · exact hp _ _ _
  · exact ⟨rfl, by show d.L.length ≤ _; omega⟩
  · exact ⟨rfl, by show d.L.length ≤ _; omega⟩
/-- Fuse(-1), then Sync. -/
theorem sync_free (d : DS) : (d.fused (-1)).sync = ((d.fused (-1)).burnt.settled, 0) := by
  have hf : (d.fused (-1)).fuse = -1 := rfl
  unfold DS.sync
  rw [if_neg (by rw [hf]; decide)]
theorem sync_is (d : DS) : (d.fused (-1)).burnt.settled.fuse = -1 ∧ (d.fused (-1)).burnt.settled.L = [] ∧ (d.fused (-1)).burnt.settled.m = d.m := ⟨rfl, rfl, rfl⟩
/-- Where the walk stands: the disk, what is none of its. -/
structure Kp (W w : World) (b : Nat) (κ : Foot) (d : DS) : Prop where
  is : IsD w b κ d
  ext : Ext W w
  young : ∀ g, g < W.heap.size → κ g = 0
theorem Kp.next {W w w' : World} {b : Nat} {κ κ' : Foot} {d d' : DS} (h : Kp W w b κ d) (k : IsD w' b κ' d') (f : Fr κ (2 ≤ ·) w w' κ') : Kp W w' b κ' d' :=
  ⟨k, (f.young h.ext h.young).1, (f.young h.ext h.young).2⟩
theorem Kp.grow {W w w' : World} {b : Nat} {κ : Foot} {d : DS} (h : Kp W w b κ d) (x : Ext w w') : Kp W w' b κ d := ⟨h.is.ext x, h.ext.trans x, h.young⟩
/-- Two blocks of the same three texts. -/
def Six (u : World) (g h : Nat) (a b c : ByteArray) : Prop := u.cell? ⟨g, 0, none⟩ = some (.string a) ∧ u.cell? ⟨g, 1, none⟩ = some (.string b) ∧ u.cell? ⟨g, 2, none⟩ = some (.string c) ∧ u.cell? ⟨h, 0, none⟩ = some (.string a) ∧ u.cell? ⟨h, 1, none⟩ = some (.string b) ∧ u.cell? ⟨h, 2, none⟩ = some (.string c)
theorem six_of {w : World} {g h : Nat} {N : Fs} {a b c d : Nat} (x : TX3 w g N a b) (y : TX3 w h N c d) : Six w g h (N 0) (N 1) (N 2) :=
  ⟨x.2.2.2 0 (by decide), x.2.2.2 1 (by decide), x.2.2.2 2 (by decide), y.2.2.2 0 (by decide), y.2.2.2 1 (by decide), y.2.2.2 2 (by decide)⟩
theorem cell_ext {w w' : World} (hx : Ext w w') {p : Addr} {u : Value} (h : w.cell? p = some u) : w'.cell? p = some u := (hx.below.cell (World.block_lt_of_cell? w p h)).trans h
theorem Six.ext {w w' : World} {g h : Nat} {a b c : ByteArray} (s : Six w g h a b c) (hx : Ext w w') : Six w' g h a b c :=
  ⟨cell_ext hx s.1, cell_ext hx s.2.1, cell_ext hx s.2.2.1, cell_ext hx s.2.2.2.1, cell_ext hx s.2.2.2.2.1, cell_ext hx s.2.2.2.2.2⟩
theorem Six.drew {w : World} {g h : Nat} {a b c : ByteArray} (s : Six w g h a b c) : Six w.drew g h a b c := s
set_option maxRecDepth 100000 in
set_option maxHeartbeats 8000000 in
theorem DiskKeeps_walk (s0 : Option Addr) (c0 : Nat) (L : List Stp) (s1 : Option Addr) (c1 : Nat) (M : List Stp) (calls bytes : Int) (W : World) (f0 : StepsP W s0 L) (y0 : ∀ x, x ∈ L → x.Ok) (z0 : L.length ≤ 140737488355328) (f1 : StepsP W s1 M) (y1 : ∀ x, x ∈ M → x.Ok) (z1 : M.length ≤ 140737488355328)
    (_zc : -9223372036854775808 ≤ calls ∧ calls ≤ 9223372036854775807) (_zb : -9223372036854775808 ≤ bytes ∧ bytes ≤ 9223372036854775807) :
    Calls Try.prog 4 #[.slice s0 L.length c0, .slice s1 M.length c1, .int .i64 calls, .int .i64 bytes] W fun e W' => e = .returned (.bool true) ∧ Ext W W' := by
  by_cases hh : HeavyS L
  · have HH := Lib.hid (heavyS_yes W s0 c0 L f0 y0 z0 hh)
    clear f0 y0 hh f1 y1 _zc _zb
    go_enter Try.func4, Try.ntmps4
    go_wp2_with (first
      | (go_at_call 8; refine (HH.out).mono ?_; rintro e w1 ⟨rfl, rfl⟩)
      | (go_at_call 9; refine (disk_alive _).mono ?_; rintro e w1 ⟨rfl, x1⟩))
    go_ret
    exact ⟨rfl, x1⟩
  · have HH := Lib.hid (heavyS_no W s0 c0 L f0 y0 z0 hh)
    by_cases hh2 : HeavyS M
    · have HH2 := Lib.hid (heavyS_yes W s1 c1 M f1 y1 z1 hh2)
      clear f0 y0 hh f1 y1 hh2 _zc _zb
      go_enter Try.func4, Try.ntmps4
      go_wp2_with (first
        | (go_at_call 8; (with_reducible refine (HH.out).mono ?_); rintro e w1 ⟨rfl, rfl⟩)
        | (go_at_call 8; (with_reducible refine (HH2.out).mono ?_); rintro e w1 ⟨rfl, rfl⟩)
        | (go_at_call 9; refine (disk_alive _).mono ?_; rintro e w1 ⟨rfl, x1⟩))
      go_ret
      exact ⟨rfl, x1⟩
    · have HH2 := Lib.hid (heavyS_no W s1 c1 M f1 y1 z1 hh2)
      have hnh := not_heavyS hh
      have hl100 := hnh.1
      have hnh2 := not_heavyS hh2
      have hm100 := hnh2.1
      have HS := Lib.hid hnh.2
      have HO := Lib.hid y0
      have HS2 := Lib.hid hnh2.2
      have HF := Lib.hid f0
      have HF2 := Lib.hid f1
      have HNew := Lib.hid (New_yes W 3 16384 (by decide) (by decide) (by decide))
      clear f0 y0 hh f1 y1 hh2 hnh hnh2 z0 z1 _zc _zb
      go_enter Try.func4, Try.ntmps4
      go_wp2_with (first
        | (go_at_call 8; (with_reducible refine (HH.out).mono ?_); rintro e w1 ⟨rfl, rfl⟩)
        | (go_at_call 8; (with_reducible refine (HH2.out).mono ?_); rintro e w1 ⟨rfl, rfl⟩)
        | (go_at_call 10; refine (HNew.out).mono ?_; rintro e w1 ⟨rfl, h1, x1⟩; have K1 : Hid (Kp W w1 W.heap.size _ (DS.new 3 16384)) := Lib.hid ⟨h1, x1, setK_young W.heap.size 2⟩; clear h1 x1))
      go_loopw [11] (fun iv wr => ∃ j : Nat, j ≤ L.length ∧ iv = .int .i64 (j : Int) ∧ ∃ d κ, Hid (Kp W wr W.heap.size κ d ∧ d.m = 3 ∧ d.L.length ≤ j)) (fun iv _ => L.length - (intOf iv).toNat)
      case atStart => exact ⟨0, Nat.zero_le _, rfl, _, _, Lib.hid ⟨K1.out, rfl, Nat.le_refl _⟩⟩
      case round =>
        obtain ⟨j, hj, rfl, d, κ, hk⟩ := hrel
        by_cases hlt : j < L.length
        · obtain ⟨x, hxj⟩ : ∃ x, L[j]? = some x := ⟨_, List.getElem?_eq_getElem hlt⟩
          have hmem := List.mem_of_getElem? hxj
          obtain ⟨a, rfl, _, hcl⟩ := HF.out.ext hk.out.1.ext j x hxj
          have k0 := hcl 0 _ rfl
          have k1 := six_at (k := 0) (hcl 1 _ rfl)
          have k2 := six_at (k := 1) (hcl 2 _ rfl)
          have k3 := six_at (k := 2) (hcl 3 _ rfl)
          have k4 := six_at (k := 3) (hcl 4 _ rfl)
          have k5 := six_at (k := 4) (hcl 5 _ rfl)
          rw [Nat.add_zero] at k0
          have HD := Lib.hid (Does_any wr W.heap.size κ d hk.out.1.is x (HO.out x hmem) (by have := HS.out x hmem; omega) (by have := hk.out.2.2; omega))
          clear hcl hxj hmem
          go_wp2_with (go_at_call 19; refine (HD.out).mono ?_; rintro e w2 ⟨rfl, κ3, h3, f3⟩; have K3 := Lib.hid (hk.out.1.next h3 f3); clear h3 f3)
          go_roundw
          case rel => exact ⟨j + 1, hlt, by go_num, _, κ3, Lib.hid ⟨K3.out, ((d.step_len x).1).trans hk.out.2.1, by have := (d.step_len x).2; have := hk.out.2.2; omega⟩⟩
          case measure => simp [intOf]; omega
        · obtain rfl : j = L.length := by omega
          obtain ⟨K, hdm, _⟩ := hk.out
          have HFu := Lib.hid (Fuse_any wr W.heap.size κ d K.is (-1) (by decide))
          have HSy : Hid (∀ u κ', IsD u W.heap.size κ' (d.fused (-1)) → Calls Try.prog 26 #[.pointer (some ⟨W.heap.size, 0, none⟩)] u fun e w' => e = .returned (.int .i64 0) ∧ Post u W.heap.size κ' w' (d.fused (-1)).burnt.settled) := Lib.hid (fun u κ' hu => by
            have := Sync_any u _ κ' _ hu
            rw [sync_free] at this
            exact this)
          obtain ⟨hD2f, hD2L, hD2m⟩ := sync_is d
          rw [hdm] at hD2m
          have HK := Lib.hid K
          generalize (d.fused (-1)).burnt.settled = D2 at *
          have HD2 := Lib.hid (And.intro hD2f (And.intro hD2L hD2m))
          clear hD2f hD2L hD2m K hdm hk
          go_wp2_with (first
            | (go_at_call 25; refine (HFu.out).mono ?_; rintro e w2 ⟨rfl, κ2, h2, f2⟩; have K2 := Lib.hid (HK.out.next h2 f2); clear h2 f2)
            | (go_at_call 26; refine (HSy.out _ _ K2.out.is).mono ?_; rintro e w3 ⟨rfl, κ3, h3, f3⟩; have K3 := Lib.hid (K2.out.next h3 f3); clear h3 f3)
            | (go_at_call 27; refine (files3_any _ _ _ _ K3.out.is HD2.out.2.2 (by rw [HD2.out.1]; decide)).mono ?_; rintro e w4 ⟨g1, e1, rfl, t1, x4, z1⟩; have T1 := Lib.hid (And.intro t1 z1); have K4 := Lib.hid (K3.out.grow x4); clear t1 x4 z1))
          go_loopw [13] (fun iv wr => ∃ j : Nat, j ≤ M.length ∧ iv = .int .i64 (j : Int) ∧ ∃ d κ, Hid (Kp W wr W.heap.size κ d ∧ d.m = 3 ∧ d.fuse = -1 ∧ d.S = D2.S ∧ AllWr d.L ∧ d.L.length ≤ j ∧ TX3 wr g1 D2.now w3.heap.size w4.heap.size ∧ κ g1 = 0)) (fun iv _ => M.length - (intOf iv).toNat)
          case atStart => exact ⟨0, Nat.zero_le _, rfl, D2, κ3, Lib.hid ⟨K4.out, HD2.out.2.2, HD2.out.1, rfl, (by rw [HD2.out.2.1]; exact fun c hc => (by cases hc)), Nat.le_of_eq (congrArg List.length HD2.out.2.1), T1.out.1, T1.out.2⟩⟩
          case round =>
            obtain ⟨j, hj, rfl, d4, κ4, hk4⟩ := hrel
            clear HSy HFu
            by_cases hlt4 : j < M.length
            · obtain ⟨x, hxj⟩ : ∃ x, M[j]? = some x := ⟨_, List.getElem?_eq_getElem hlt4⟩
              have hmem := List.mem_of_getElem? hxj
              obtain ⟨a, rfl, _, hcl⟩ := HF2.out.ext hk4.out.1.ext j x hxj
              have k1 := six_at (k := 0) (hcl 1 _ rfl)
              have k4 := six_at (k := 3) (hcl 4 _ rfl)
              have hdr : Ext wr wr.drew := (Ext.refl wr).drew
              have HWr := Lib.hid (Write_any wr.drew W.heap.size κ4 d4 (hk4.out.1.is.ext hdr) x.f x.s (by have := HS2.out x hmem; omega) (by have := hk4.out.2.2.2.2.2.1; omega))
              have HDr : Hid (Kp W wr.drew W.heap.size κ4 d4 ∧ TX3 wr.drew g1 D2.now w3.heap.size w4.heap.size) := Lib.hid ⟨hk4.out.1.grow hdr, hk4.out.2.2.2.2.2.2.1.ext hdr⟩
              clear hcl hxj hmem hdr
              go_wp2_with fail
              go_still_tail 11, (by kernel_rfl)
              change wpList _ _ _ _ _ wr.drew
              generalize wr.drew = w5 at HWr HDr ⊢
              go_wp2_with (go_at_call 21; refine (HWr.out).mono ?_; rintro e w6 ⟨rfl, κ6, h6, f6⟩; have K6 := Lib.hid (HDr.out.1.next h6 f6); have T6 := Lib.hid (HDr.out.2.fr f6 hk4.out.2.2.2.2.2.2.2); clear h6 f6)
              go_roundw
              case rel =>
                obtain ⟨e1, e2, e3, e4, e5, _⟩ := write_keeps d4 hk4.out.2.2.1 x.f x.s hk4.out.2.2.2.2.1
                exact ⟨j + 1, hlt4, by go_num, _, κ6, Lib.hid ⟨K6.out, e1.trans hk4.out.2.1, e2, e3.trans hk4.out.2.2.2.1, e4, by have := hk4.out.2.2.2.2.2.1; omega, T6.out.1, T6.out.2⟩⟩
              case measure => simp [intOf]; omega
            · obtain rfl : j = M.length := by omega
              have hd4 : d4.L.length ≤ 1000000 := by have := hk4.out.2.2.2.2.2.1; omega
              have HLe := Lib.hid hd4
              have HNz4 : Hid (d4.fuse ≠ 0) := Lib.hid (by rw [hk4.out.2.2.1]; decide)
              have HNz6 : Hid ((d4.crash calls bytes).fuse ≠ 0) := Lib.hid (by show (-1 : Int) ≠ 0; decide)
              have HM6 : Hid ((d4.crash calls bytes).m = 3) := Lib.hid hk4.out.2.1
              have HPre := Lib.hid (left_pre d4 hk4.out.2.2.2.2.1 calls bytes)
              clear hd4
              go_wp2_with (first
                | (go_at_call 27; (with_reducible refine (files3_any _ _ _ _ hk4.out.1.is hk4.out.2.1 HNz4.out).mono ?_); rintro e w5 ⟨g2, e2, rfl, t2, x5, z2⟩; have T2 := Lib.hid (And.intro t2 z2); have K5 := Lib.hid (And.intro (hk4.out.1.grow x5) (hk4.out.2.2.2.2.2.2.1.ext x5)); clear t2 x5 z2)
                | (go_at_call 22; (with_reducible refine (Crash_any _ _ _ _ K5.out.1.is calls bytes HLe.out).mono ?_); rintro e w6 ⟨rfl, κ6, h6, f6⟩; have K6 := Lib.hid (K5.out.1.next h6 f6); have T16 := Lib.hid (K5.out.2.fr f6 hk4.out.2.2.2.2.2.2.2); have T26 := Lib.hid (T2.out.1.fr f6 T2.out.2); clear h6 f6)
                | (go_at_call 27; (with_reducible refine (files3_any _ _ _ _ K6.out.is HM6.out HNz6.out).mono ?_); rintro e w7 ⟨g3, e3, rfl, t3, x7, z3⟩; have T3 := Lib.hid (And.intro t3 z3); have K7 := Lib.hid (K6.out.grow x7); have T17 := Lib.hid (And.intro (T16.out.1.ext x7) T16.out.2); have T27 := Lib.hid (T26.out.1.ext x7); clear t3 x7 z3))
              have hcr : (d4.crash calls bytes).now = d4.left_ calls bytes := rfl
              have hsu : D2.now = D2.S := by unfold DS.now; rw [HD2.out.2.1]; rfl
              rw [hcr] at T3
              rw [hsu, ← hk4.out.2.2.2.1] at T17
              have HSame := Lib.hid hcr
              clear hcr hsu
              go_loopw [16] (fun iv wr => ∃ j : Nat, j ≤ 3 ∧ iv = .int .i64 (j : Int) ∧ Hid (Ext w7 wr)) (fun iv _ => 3 - (intOf iv).toNat)
              case atStart => exact ⟨0, Nat.zero_le _, rfl, Lib.hid (Ext.refl _)⟩
              case round =>
                obtain ⟨i, hi, rfl, hx⟩ := hrel
                by_cases hlt3 : i < 3
                · have b1 := (T17.out.1.ext hx.out).2.2.2 i hlt3
                  have b2 := (T27.out.ext hx.out).2.2.2 i hlt3
                  have b3 := (T3.out.1.ext hx.out).2.2.2 i hlt3
                  have HB1 := Lib.hid (fun u => begins_yes _ _ (HPre.out i).1 u)
                  have HB2 := Lib.hid (fun u => begins_yes _ _ (HPre.out i).2 u)
                  have hi3 : (i : Int) < 3 := by omega
                  have hi0 : (0 : Int) ≤ (i : Int) := by omega
                  generalize d4.S i = t1 at *
                  generalize d4.left_ calls bytes i = t3 at *
                  generalize d4.now i = t2 at *
                  have hsd : wr.drew.cell? ⟨g1, i, none⟩ = some (.string t1) ∧ wr.drew.cell? ⟨g2, i, none⟩ = some (.string t2) ∧ wr.drew.cell? ⟨g3, i, none⟩ = some (.string t3) := ⟨b1, b2, b3⟩
                  clear b1 b2 b3
                  go_wp2_with fail
                  go_region_held3 (fun u => u.cell? ⟨g1, i, none⟩ = some (.string t1) ∧ u.cell? ⟨g2, i, none⟩ = some (.string t2) ∧ u.cell? ⟨g3, i, none⟩ = some (.string t3)) (first | exact hsd | assumption | go_keep) (first
                    | (go_at_call 28; (with_reducible refine (HB1.out _).mono ?_); rintro e w8 ⟨rfl, rfl⟩)
                    | (go_at_call 28; (with_reducible refine (HB2.out _).mono ?_); rintro e w8 ⟨rfl, rfl⟩))
                  go_wp2
                  go_roundw
                  case rel => exact ⟨i + 1, hlt3, by go_num, Lib.hid hx.out.drew⟩
                  case measure => simp [intOf]; omega
                · obtain rfl : i = 3 := by omega
                  have HK7 := Lib.hid (K7.out.grow hx.out)
                  have HT3 := Lib.hid (And.intro (T3.out.1.ext hx.out) T3.out.2)
                  have HNz8 : Hid (((d4.crash calls bytes).crash bytes calls).fuse ≠ 0) := Lib.hid (by show (-1 : Int) ≠ 0; decide)
                  have HM8 : Hid (((d4.crash calls bytes).crash bytes calls).m = 3) := Lib.hid hk4.out.2.1
                  have HL8 : Hid ((d4.crash calls bytes).L.length ≤ 1000000) := Lib.hid (by show 0 ≤ 1000000; decide)
                  have HLoose : Hid (∀ u κ', IsD u W.heap.size κ' ((d4.crash calls bytes).crash bytes calls) → Calls Try.prog 29 #[.pointer (some ⟨W.heap.size, 0, none⟩)] u fun e w' => e = .returned (.int .i64 0) ∧ u = w') := Lib.hid (fun u κ' hu => Loose_any u _ κ' _ hu)
                  have HNow : Hid (((d4.crash calls bytes).crash bytes calls).now = d4.left_ calls bytes) := Lib.hid (left_none (d4.crash calls bytes) rfl bytes calls)
                  clear hx
                  go_wp2_with (first
                    | (go_at_call 22; (with_reducible refine (Crash_any _ _ _ _ HK7.out.is bytes calls HL8.out).mono ?_); rintro e w8 ⟨rfl, κ8, h8, f8⟩; have K8 := Lib.hid (HK7.out.next h8 f8); have T38 := Lib.hid (HT3.out.1.fr f8 HT3.out.2).1; clear h8 f8)
                    | (go_at_call 27; (with_reducible refine (files3_any _ _ _ _ K8.out.is HM8.out HNz8.out).mono ?_); rintro e w9 ⟨g4, e4, rfl, t4, x9, _⟩; rw [HNow.out] at t4; have T4 := Lib.hid t4; have K9 := Lib.hid (K8.out.grow x9); have T39 := Lib.hid (T38.out.ext x9); clear t4 x9))
                  have hS := six_of T39.out T4.out
                  have HLo9 := Lib.hid (HLoose.out _ _ (K9.out.is.ext (Ext.refl w9).drew))
                  have HX9 := Lib.hid K9.out.ext
                  have h30 := hS.drew
                  obtain ⟨a0, a1, a2, b0, b1, b2⟩ := h30
                  have HSix := Lib.hid hS.drew
                  clear hS
                  generalize d4.left_ calls bytes 0 = t0 at *
                  generalize d4.left_ calls bytes 1 = t1 at *
                  generalize d4.left_ calls bytes 2 = t2 at *
                  go_wp2_with fail
                  go_region_held3 (fun u => u.cell? ⟨g3, 0, none⟩ = some (.string t0) ∧ u.cell? ⟨g3, 1, none⟩ = some (.string t1) ∧ u.cell? ⟨g3, 2, none⟩ = some (.string t2) ∧ u.cell? ⟨g4, 0, none⟩ = some (.string t0) ∧ u.cell? ⟨g4, 1, none⟩ = some (.string t1) ∧ u.cell? ⟨g4, 2, none⟩ = some (.string t2)) (first | exact ⟨a0, a1, a2, b0, b1, b2⟩ | exact hs10 | assumption | go_keep) (first
                    | (go_at_call 29; (with_reducible refine (HLo9.out).mono ?_); rintro e w10 ⟨rfl, rfl⟩)
                    | (go_at_call 9; refine (disk_alive _).mono ?_; rintro e w10 ⟨rfl, x10⟩; have hs10 := HSix.out.ext x10; have X10 := Lib.hid x10; clear x10))
                  go_wp2
                  go_ret
                  exact ⟨rfl, (HX9.out.drew).trans X10.out⟩
end Go.Proofs.Ytpjhkhelgeoneaa
