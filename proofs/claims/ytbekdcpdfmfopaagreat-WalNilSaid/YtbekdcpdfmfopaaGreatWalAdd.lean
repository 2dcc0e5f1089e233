/- Contract: a record added to the last file, as a closure of the log, called. -/
import Derived.Test.YtbekdcpdfmfopaaGreatM34
namespace Go.Proofs.YtbekdcpdfmfopaaGreat
open Go.RowKit

/-- What each operation leaves in its slot. -/
def AdF (b j : Nat) (t : ByteArray) (a : Addr) (c m n z1 q2 : Nat) (k : Nat) (v : Value) : Prop :=
  match k with
  | 0 => v = .pointer (some ⟨b, 0, none⟩)
  | 1 => v = .pointer (some ⟨b, 0, none⟩)
  | 2 => v = .pointer (some ⟨b, 7, none⟩)
  | 3 => v = .slice (some a) m c
  | 4 => v = .pointer (some ⟨b, 0, none⟩)
  | 5 => v = .pointer (some ⟨b, 0, none⟩)
  | 6 => v = .pointer (some ⟨b, 7, none⟩)
  | 7 => v = .slice (some a) m c
  | 8 => v = .int .i64 (m : Int)
  | 9 => v = .int .i64 (j : Int)
  | 10 => v = .pointer (some (a.add (j * 2)))
  | 11 => v = .pointer (some ⟨(a.add (j * 2)).block, (a.add (j * 2)).off + 1, none⟩)
  | 12 => v = .int .i64 (q2 : Int)
  | 13 => v = .agg #[.string ⟨#[]⟩, .int .u64 (n : Int), .string t]
  | 15 => v = .int .i64 (z1 : Int)
  | 16 => v = .pointer (some (a.add (j * 2)))
  | 17 => v = .pointer (some ⟨(a.add (j * 2)).block, (a.add (j * 2)).off + 1, none⟩)
  | _ => True
/-- What is known of the world: ahead of the call, behind it, behind the store. -/
def AdI (W0 : World) (szv : Value) (p : Addr) (nv : Value) (Fin : World → Prop) (_b0 b14 b18 : Bool) (v : Value) (u : World) : Prop :=
  match b14, b18 with
  | false, false => u = W0
  | true, false => v = szv ∧ Ext W0 u
  | _, true => ∃ u0, Ext W0 u0 ∧ Fin (u0.setCell p nv) ∧ u = u0.setCell p nv ∧ v = szv
theorem AdI.ahead {W0 : World} {szv nv : Value} {p : Addr} {Fin : World → Prop} {b0 b14 : Bool} {v : Value} {u : World} (h : AdI W0 szv p nv Fin b0 b14 false v u) : Ext W0 u := by
  cases b14
  · obtain rfl : u = W0 := h
    exact Ext.refl _
  · exact h.2
section
variable (w : World) (b bd : Nat) (κ μ : Foot) (s : WS) (d : DS) (h : LS w b bd κ μ s d)
include h
set_option maxRecDepth 100000 in
set_option maxHeartbeats 4000000 in
theorem add_call (f n : Nat) (t : ByteArray) (ht : t.size ≤ 65536) (hn : n ≤ 281474976710656) (hL : d.L.length ≤ 1000000) (k : s.Ok) (hP : 1 ≤ s.P.length) (x y z : Nat) (fx : Free κ μ w x) (fy : Free κ μ w y) (_fz : Free κ μ w z) (hx : Blk w x 113 [.string ⟨#[]⟩, .int .u64 (n : Int), .string t]) (hy : Blk w y 27 [.pointer (some ⟨b, 0, none⟩)]) (hz : Blk w z 3 [.int .i64 (f : Int)]) :
    Calls Tryz.prog 85 #[.pointer (some ⟨x, 0, none⟩), .pointer (some ⟨y, 0, none⟩), .pointer (some ⟨z, 0, none⟩)] w fun e w' => e = .returned (.int .i64 (WC.run s d (.add f ⟨#[]⟩ n t)).2.2) ∧ LPost w b bd κ μ w' (WC.run s d (.add f ⟨#[]⟩ n t)).1 (WC.run s d (.add f ⟨#[]⟩ n t)).2.1 := by
  have HEn := Lib.hid (fun u => Encode_any ⟨n, t⟩ (by show n < _; omega) (Nat.le_trans ht (by decide)) u)
  rw [show encF ⟨n, t⟩ = (frameT ⟨n, t⟩, 0) from by unfold encF; rw [if_neg (by show ¬ 65536 < t.size; omega)]] at HEn
  have hfs : (frameT ⟨n, t⟩).size = 16 + t.size := frameT_size _
  have he0 : (⟨#[]⟩ : ByteArray) ++ frameT ⟨n, t⟩ = frameT ⟨n, t⟩ := by apply ByteArray.ext; simp
  have HW := Lib.hid (fun u (hu : Ext w u) => Write_any u bd μ d (h.disk.ext hu) (f : Int) (frameT ⟨n, t⟩) (by omega) hL)
  have HPo := Lib.hid (fun u (hu : Ext w u) w' (p : Post u bd μ w' (d.write f (frameT ⟨n, t⟩)).1) => LPost.after (hu.fr2 κ μ) ((h.ext hu).post p))
  have HC0 := Lib.hid (fun u (hu : Ext w u) => (⟨(hy.ext hu).cell 0 _ rfl, (hz.ext hu).cell 0 _ rfl, (hx.ext hu).cell 0 _ rfl, (h.wal.ext hu).cells.1⟩ : u.cell? ⟨y, 0, none⟩ = some (.pointer (some ⟨b, 0, none⟩)) ∧ u.cell? ⟨z, 0, none⟩ = some (.int .i64 (f : Int)) ∧ u.cell? ⟨x, 0, none⟩ = some (.string ⟨#[]⟩) ∧ u.cell? ⟨b, 0, none⟩ = some (.pointer (some ⟨bd, 0, none⟩))))
  have k1 := hx.cell 1 _ rfl
  have k2 := hx.cell 2 _ rfl
  have HB := Lib.hid (fun w' κ' μ' (g : Fr2 κ μ w w' κ' μ') => (⟨fx.blk g hx, fy.blk g hy⟩ : Blk w' x 113 [.string ⟨#[]⟩, .int .u64 (n : Int), .string t] ∧ Blk w' y 27 [.pointer (some ⟨b, 0, none⟩)]))
  obtain ⟨j, hj⟩ : ∃ j, j = s.P.length - 1 := ⟨_, rfl⟩
  have hjl : j < s.P.length := by omega
  obtain ⟨q, hq⟩ : ∃ q, s.P[j]? = some q := ⟨_, List.getElem?_eq_getElem hjl⟩
  have hq2 := (k.b q (List.mem_of_getElem? hq)).2
  have hPl := k.P
  have HQ := Lib.hid hq
  obtain ⟨sz, hsz⟩ : ∃ sz, sz = (⟨#[]⟩ : ByteArray).size + (16 + t.size) := ⟨_, rfl⟩
  have HSz := Lib.hid (fun u => psize_any ⟨#[]⟩ n t (by decide) (Nat.le_trans ht (by decide)) u)
  rw [← hsz] at HSz
  have hsz2 : sz = 16 + t.size := by rw [hsz, show (⟨#[]⟩ : ByteArray).size = 0 from rfl, Nat.zero_add]
  obtain ⟨z1, hz1⟩ : ∃ z1, z1 = q.2 + sz := ⟨_, rfl⟩
  have hw1 : IntKind.i64.wrap ((q.2 : Int) + (sz : Int)) = (z1 : Int) := by rw [IntWalk.i64_in _ ⟨by omega, by omega⟩]; omega
  have hwj : IntKind.i64.wrap ((s.P.length : Int) - 1) = (j : Int) := by rw [IntWalk.i64_in _ ⟨by omega, by omega⟩]; omega
  have HA : Hid (s.added f ⟨#[]⟩ t = { s with P := s.P.set j (q.1, z1), n := (s.n + 1) % 18446744073709551616 }) := Lib.hid (by
    unfold WS.added addP lastP
    have e0 : (⟨#[]⟩ : ByteArray).size = 0 := rfl
    simp only [e0, if_true, Nat.zero_add]
    rw [← hj, List.getD_eq_getElem?_getD, hq, hz1, hsz2]
    rfl)
  unfold WC.run
  dsimp only
  rw [he0, HA.out]
  obtain ⟨e1, he1⟩ : ∃ e, e = (d.write f (frameT ⟨n, t⟩)).2 := ⟨_, rfl⟩
  obtain ⟨d1, hd1⟩ : ∃ e, e = (d.write f (frameT ⟨n, t⟩)).1 := ⟨_, rfl⟩
  rw [← he1, ← hd1] at HW ⊢
  rw [← hd1] at HPo
  obtain ⟨T, hT⟩ : ∃ T, T = frameT ⟨n, t⟩ := ⟨_, rfl⟩
  rw [← hT] at HEn HW he0 hfs
  have ht1 : ¬ 9223372036854775807 < T.size := by omega
  have HX0 := Lib.hid (Ext.refl w)
  clear he1 hd1 hT hfs hsz hsz2 hz1 hj hq HA h fx fy hx hy hz ht
  by_cases he : e1 = 0
  · subst he
    rw [if_pos rfl]
    go_enter Tryz.func85, Tryz.ntmps85
    go_upto_region 2 with (go_at_call 75; refine (HEn.out _).mono ?_; rintro e w1 ⟨rfl, x1⟩; have X1 := Lib.hid x1; clear x1)
    obtain ⟨cy, cz, cx, cb⟩ := HC0.out w1 X1.out
    go_still_tail 9, (by kernel_rfl)
    change wpList _ _ _ _ _ w1.drew
    have HWr := Lib.hid (HW.out w1.drew X1.out.drew)
    have HPr := Lib.hid (HPo.out w1.drew X1.out.drew)
    clear cy cz cx cb HW HPo HC0 HEn
    generalize w1.drew = wd at *
    go_upto_region 7 with (go_at_call 57; refine (HWr.out).mono ?_; rintro e w2 ⟨rfl, hp⟩; obtain ⟨κ0, μ0, hls, hfr⟩ := HPr.out _ hp; obtain ⟨hbx, hby⟩ := HB.out _ _ _ hfr; have cx := hbx.cell 0 _ rfl; have HLS := Lib.hid hls; have HFR := Lib.hid hfr; have HBx := Lib.hid hbx; have HBy := Lib.hid hby; clear hp hls hfr hbx hby)
    obtain ⟨a, c, c7, hcells, hfz, hset⟩ := (HLS.out.ext (Ext.refl w2).drew).part HQ.out
    have c7' : w2.drew.cell? ⟨b, 7, none⟩ = some (.slice (some a) s.P.length c) := c7
    have HPart : Hid (∀ u, Ext w2.drew u → u.cell? ⟨b, 7, none⟩ = some (.slice (some a) s.P.length c) ∧ (u.cell? (a.add (j * 2)) = some (.int .i64 (q.1 : Int)) ∧ u.cell? ⟨(a.add (j * 2)).block, (a.add (j * 2)).off + 1, none⟩ = some (.int .i64 (q.2 : Int))) ∧ u.frozen? ⟨(a.add (j * 2)).block, (a.add (j * 2)).off + 1, none⟩ = false ∧ LPost w2.drew b bd κ0 μ0 (u.setCell ⟨(a.add (j * 2)).block, (a.add (j * 2)).off + 1, none⟩ (.int .i64 (z1 : Int))) { s with P := s.P.set j (q.1, z1) } d1) := Lib.hid (fun u hu => by
      obtain ⟨a2, c2, h7, hc2, hf2, hs2⟩ := ((HLS.out.ext (Ext.refl w2).drew).ext hu).part HQ.out
      have e7 := (hu.below.cell (p := ⟨b, 7, none⟩) ((HLS.out.ext (Ext.refl w2).drew).wal.lt)).trans c7'
      rw [h7] at e7
      injection e7 with e7
      injection e7 with e7 _ e8
      cases e7
      subst e8
      exact ⟨h7, hc2 j q HQ.out, hf2, LPost.after (hu.fr2 κ0 μ0) (hs2 z1)⟩)
    have HC : Hid (∀ u, Ext w2.drew u → u.cell? ⟨y, 0, none⟩ = some (.pointer (some ⟨b, 0, none⟩)) ∧ u.cell? ⟨b, 7, none⟩ = some (.slice (some a) s.P.length c) ∧ u.cell? (a.add (j * 2)) = some (.int .i64 (q.1 : Int)) ∧ u.cell? ⟨(a.add (j * 2)).block, (a.add (j * 2)).off + 1, none⟩ = some (.int .i64 (q.2 : Int)) ∧ u.cell? ⟨x, 0, none⟩ = some (.string ⟨#[]⟩) ∧ u.cell? ⟨x, 1, none⟩ = some (.int .u64 (n : Int)) ∧ u.cell? ⟨x, 2, none⟩ = some (.string t)) := Lib.hid (fun u hu =>
      ⟨((HBy.out.ext (Ext.refl w2).drew).ext hu).cell 0 _ rfl, (HPart.out u hu).1, (HPart.out u hu).2.1.1, (HPart.out u hu).2.1.2, ((HBx.out.ext (Ext.refl w2).drew).ext hu).cell 0 _ rfl, ((HBx.out.ext (Ext.refl w2).drew).ext hu).cell 1 _ rfl, ((HBx.out.ext (Ext.refl w2).drew).ext hu).cell 2 _ rfl⟩)
    have HC2 := Lib.hid (fun u hu => (HPart.out u hu).2.2)
    have HD := Lib.hid (show Fr2 κ0 μ0 w2 w2.drew κ0 μ0 from (Ext.refl w2).drew.fr2 κ0 μ0)
    clear hcells hfz hset c7 c7' cx HPart HWr HPr
    generalize hW0 : w2.drew = W0 at *
    have hbase : ∀ q : Nat × Value, q ∈ [(0, .pointer (some ⟨x, 0, none⟩)), (1, .pointer (some ⟨y, 0, none⟩)), (2, .pointer (some ⟨z, 0, none⟩))] → q.1 < 40 := by
      intro q hq
      simp only [List.mem_cons, List.not_mem_nil, or_false] at hq
      rcases hq with rfl | rfl | rfl <;> simp
    refine wp_region_any (by kernel_rfl) ?_
    refine wpAny_inv (Wv 16 _ 19 65 40 0 14 [(0, .pointer (some ⟨x, 0, none⟩)), (1, .pointer (some ⟨y, 0, none⟩)), (2, .pointer (some ⟨z, 0, none⟩))] (AdF b j t a c s.P.length n z1 q.2) (AdI W0 (.int .i64 (sz : Int)) ⟨(a.add (j * 2)).block, (a.add (j * 2)).off + 1, none⟩ (.int .i64 (z1 : Int)) (fun u => LPost W0 b bd κ0 μ0 u { s with P := s.P.set j (q.1, z1) } d1))) ?hsize ?step ?last _ _ _ _ (by decide) (Wv.start rfl ?size ?base (by decide) (by decide) (fun v => hW0))
    case hsize => exact fun L a w h => h.size
    case size => rfl
    case base =>
      intro q hq
      simp only [List.mem_cons, List.not_mem_nil, or_false] at hq
      rcases hq with rfl | rfl | rfl
      · rfl
      · rfl
      · rfl
    case step =>
      intro L' a' w' i h hi
      have hlt : i < 19 := (ready_spec hi).1
      obtain ⟨Y, D⟩ := a'
      obtain rfl : D = [] := h.defers
      have b0 : Y[0]?.getD undef = .pointer (some ⟨x, 0, none⟩) := h.ahead (0, _) (by simp)
      have b1 : Y[1]?.getD undef = .pointer (some ⟨y, 0, none⟩) := h.ahead (1, _) (by simp)
      have b2 : Y[2]?.getD undef = .pointer (some ⟨z, 0, none⟩) := h.ahead (2, _) (by simp)
      have hinv := Lib.hid h.inv
      rcases (show i = 0 ∨ i = 1 ∨ i = 2 ∨ i = 3 ∨ i = 4 ∨ i = 5 ∨ i = 6 ∨ i = 7 ∨ i = 8 ∨ i = 9 ∨ i = 10 ∨ i = 11 ∨ i = 12 ∨ i = 13 ∨ i = 14 ∨ i = 15 ∨ i = 16 ∨ i = 17 ∨ i = 18 by omega) with rfl | rfl | rfl | rfl | rfl | rfl | rfl | rfl | rfl | rfl | rfl | rfl | rfl | rfl | rfl | rfl | rfl | rfl | rfl
      · have hnb := h.not (i := 0) (by decide) (ready_spec hi).2.1
        have hci := hinv.out
        rw [hnb] at hci
        have cb := (HC.out _ (hci.ahead)).1
        refine wpOp_step rfl (fun K hK => ?_)
        go_simp
        exact hK _ _ (h.make (by decide) hbase 40 (by decide) (by decide) (by decide) rfl (ready_spec hi).2.1 _ rfl hci)
      · have d0 := ready_after hi _ rfl 0 _ rfl rfl
        have f0 : Y[40]?.getD undef = .pointer (some ⟨b, 0, none⟩) := h.at 0 40 (by decide) (by decide) rfl d0
        refine wpOp_step rfl (fun K hK => ?_)
        go_simp
        exact hK _ _ (h.put (by decide) hbase 1 41 (by decide) (by decide) (by decide) rfl _ rfl)
      · have d1 := ready_after hi _ rfl 0 _ rfl rfl
        have f1 : Y[41]?.getD undef = .pointer (some ⟨b, 0, none⟩) := h.at 1 41 (by decide) (by decide) rfl d1
        refine wpOp_step rfl (fun K hK => ?_)
        go_simp
        exact hK _ _ (h.put (by decide) hbase 2 42 (by decide) (by decide) (by decide) rfl _ rfl)
      · have d2 := ready_after hi _ rfl 0 _ rfl rfl
        have f2 : Y[42]?.getD undef = .pointer (some ⟨b, 7, none⟩) := h.at 2 42 (by decide) (by decide) rfl d2
        have hnb := h.not (i := 3) (by decide) (ready_spec hi).2.1
        have hci := hinv.out
        rw [hnb] at hci
        have cb := (HC.out _ (hci.ahead)).2.1
        refine wpOp_step rfl (fun K hK => ?_)
        go_simp
        exact hK _ _ (h.put (by decide) hbase 3 43 (by decide) (by decide) (by decide) rfl _ rfl)
      · have hnb := h.not (i := 4) (by decide) (ready_spec hi).2.1
        have hci := hinv.out
        rw [hnb] at hci
        have cb := (HC.out _ (hci.ahead)).1
        refine wpOp_step rfl (fun K hK => ?_)
        go_simp
        exact hK _ _ (h.put (by decide) hbase 4 44 (by decide) (by decide) (by decide) rfl _ rfl)
      · have d4 := ready_after hi _ rfl 0 _ rfl rfl
        have f4 : Y[44]?.getD undef = .pointer (some ⟨b, 0, none⟩) := h.at 4 44 (by decide) (by decide) rfl d4
        refine wpOp_step rfl (fun K hK => ?_)
        go_simp
        exact hK _ _ (h.put (by decide) hbase 5 45 (by decide) (by decide) (by decide) rfl _ rfl)
      · have d5 := ready_after hi _ rfl 0 _ rfl rfl
        have f5 : Y[45]?.getD undef = .pointer (some ⟨b, 0, none⟩) := h.at 5 45 (by decide) (by decide) rfl d5
        refine wpOp_step rfl (fun K hK => ?_)
        go_simp
        exact hK _ _ (h.put (by decide) hbase 6 46 (by decide) (by decide) (by decide) rfl _ rfl)
      · have d6 := ready_after hi _ rfl 0 _ rfl rfl
        have f6 : Y[46]?.getD undef = .pointer (some ⟨b, 7, none⟩) := h.at 6 46 (by decide) (by decide) rfl d6
        have hnb := h.not (i := 7) (by decide) (ready_spec hi).2.1
        have hci := hinv.out
        rw [hnb] at hci
        have cb := (HC.out _ (hci.ahead)).2.1
        refine wpOp_step rfl (fun K hK => ?_)
        go_simp
        exact hK _ _ (h.put (by decide) hbase 7 47 (by decide) (by decide) (by decide) rfl _ rfl)
      · have d7 := ready_after hi _ rfl 0 _ rfl rfl
        have f7 : Y[47]?.getD undef = .slice (some a) s.P.length c := h.at 7 47 (by decide) (by decide) rfl d7
        refine wpOp_step rfl (fun K hK => ?_)
        go_simp
        exact hK _ _ (h.put (by decide) hbase 8 48 (by decide) (by decide) (by decide) rfl _ rfl)
      · have d8 := ready_after hi _ rfl 0 _ rfl rfl
        have f8 : Y[48]?.getD undef = .int .i64 (s.P.length : Int) := h.at 8 48 (by decide) (by decide) rfl d8
        refine wpOp_step rfl (fun K hK => ?_)
        go_simp
        exact hK _ _ (h.put (by decide) hbase 9 49 (by decide) (by decide) (by decide) rfl _ rfl)
      · have d3 := ready_after hi _ rfl 0 _ rfl rfl
        have f3 : Y[43]?.getD undef = .slice (some a) s.P.length c := h.at 3 43 (by decide) (by decide) rfl d3
        have d9 := ready_after hi _ rfl 1 _ rfl rfl
        have f9 : Y[49]?.getD undef = .int .i64 (j : Int) := h.at 9 49 (by decide) (by decide) rfl d9
        refine wpOp_step rfl (fun K hK => ?_)
        go_simp
        exact hK _ _ (h.put (by decide) hbase 10 50 (by decide) (by decide) (by decide) rfl _ rfl)
      · have d10 := ready_after hi _ rfl 0 _ rfl rfl
        have f10 : Y[50]?.getD undef = .pointer (some (a.add (j * 2))) := h.at 10 50 (by decide) (by decide) rfl d10
        refine wpOp_step rfl (fun K hK => ?_)
        go_simp
        exact hK _ _ (h.put (by decide) hbase 11 51 (by decide) (by decide) (by decide) rfl _ rfl)
      · have d11 := ready_after hi _ rfl 0 _ rfl rfl
        have f11 : Y[51]?.getD undef = .pointer (some ⟨(a.add (j * 2)).block, (a.add (j * 2)).off + 1, none⟩) := h.at 11 51 (by decide) (by decide) rfl d11
        have hnb := h.not (i := 12) (by decide) (ready_spec hi).2.1
        have hci := hinv.out
        rw [hnb] at hci
        have cb := (HC.out _ (hci.ahead)).2.2.2.1
        refine wpOp_step rfl (fun K hK => ?_)
        go_simp
        exact hK _ _ (h.put (by decide) hbase 12 52 (by decide) (by decide) (by decide) rfl _ rfl)
      · have hnb := h.not (i := 13) (by decide) (ready_spec hi).2.1
        have hci := hinv.out
        rw [hnb] at hci
        obtain ⟨_, _, _, _, cx0, cx1, cx2⟩ := HC.out _ (hci.ahead)
        refine wpOp_step rfl (fun K hK => ?_)
        go_simp
        exact hK _ _ (h.put (by decide) hbase 13 53 (by decide) (by decide) (by decide) rfl _ rfl)
      · have d13 := ready_after hi _ rfl 0 _ rfl rfl
        have f13 : Y[53]?.getD undef = .agg #[.string ⟨#[]⟩, .int .u64 (n : Int), .string t] := h.at 13 53 (by decide) (by decide) rfl d13
        have hnb := h.not (i := 14) (by decide) (ready_spec hi).2.1
        have hx14 : L'.getD 14 true = false := (ready_spec hi).2.1
        have hci := hinv.out
        rw [hnb] at hci
        have hci' := hci.ahead
        refine wpOp_step rfl (fun K hK => ?_)
        go_simp
        go_at_call 62
        refine (HSz.out _).mono ?_
        rintro e w5 ⟨rfl, hx5⟩
        exact hK _ _ (h.law (by decide) hbase 54 (by decide) (by decide) (by decide) rfl hx14 _ ⟨rfl, hci'.trans hx5⟩)
      · have d12 := ready_after hi _ rfl 0 _ rfl rfl
        have f12 : Y[52]?.getD undef = .int .i64 (q.2 : Int) := h.at 12 52 (by decide) (by decide) rfl d12
        have d14 := ready_after hi _ rfl 1 _ rfl rfl
        have hnb := h.not (i := 15) (by decide) (ready_spec hi).2.1
        have hci := hinv.out
        rw [hnb, show L'.getD 14 true = true from bit_of d14] at hci
        have f14 : Y[54]?.getD undef = .int .i64 (sz : Int) := by rw [← Array.getD_eq_getD_getElem?]; exact hci.1
        refine wpOp_step rfl (fun K hK => ?_)
        go_simp
        exact hK _ _ (h.put (by decide) hbase 15 55 (by decide) (by decide) (by decide) rfl _ rfl)
      · have d3 := ready_after hi _ rfl 0 _ rfl rfl
        have f3 : Y[43]?.getD undef = .slice (some a) s.P.length c := h.at 3 43 (by decide) (by decide) rfl d3
        have d9 := ready_after hi _ rfl 1 _ rfl rfl
        have f9 : Y[49]?.getD undef = .int .i64 (j : Int) := h.at 9 49 (by decide) (by decide) rfl d9
        refine wpOp_step rfl (fun K hK => ?_)
        go_simp
        exact hK _ _ (h.put (by decide) hbase 16 56 (by decide) (by decide) (by decide) rfl _ rfl)
      · have d16 := ready_after hi _ rfl 0 _ rfl rfl
        have f16 : Y[56]?.getD undef = .pointer (some (a.add (j * 2))) := h.at 16 56 (by decide) (by decide) rfl d16
        refine wpOp_step rfl (fun K hK => ?_)
        go_simp
        exact hK _ _ (h.put (by decide) hbase 17 57 (by decide) (by decide) (by decide) rfl _ rfl)
      · have d17 := ready_after hi _ rfl 0 _ rfl rfl
        have f17 : Y[57]?.getD undef = .pointer (some ⟨(a.add (j * 2)).block, (a.add (j * 2)).off + 1, none⟩) := h.at 17 57 (by decide) (by decide) rfl d17
        have d15 := ready_after hi _ rfl 1 _ rfl rfl
        have f15 : Y[55]?.getD undef = .int .i64 (z1 : Int) := h.at 15 55 (by decide) (by decide) rfl d15
        have hall := ready_all hi _ rfl 16 (by kernel_rfl)
        have q14 := hall 14 (by decide)
        have q0 := hall 0 (by decide)
        have hx18 : L'.getD (19 - 1) true = false := (ready_spec hi).2.1
        have hci := hinv.out
        rw [hx18, q14] at hci
        have hci' := hci.2
        have hv14 := hci.1
        have cb := (HC.out _ hci').2.2.2.1
        have hfz := (HC2.out _ hci').1
        have hst := (HC2.out _ hci').2
        refine wpOp_step rfl (fun K hK => ?_)
        go_simp
        exact hK _ _ (h.store (by decide) (by decide) (by decide) hall ⟨_, hci', hst, rfl, hv14⟩ undef)
    case last =>
      intro L' a' w6 h hr'
      have q18 : L'.getD (19 - 1) true = true := all_done h.size (by kernel_rfl) hr' 18 (by decide)
      have q14 : L'.getD 14 true = true := all_done h.size (by kernel_rfl) hr' 14 (by decide)
      have hv := h.inv
      rw [q18, q14] at hv
      obtain ⟨u0, hx0, hfin, hu, hv14⟩ := hv
      rw [← hu] at hfin
      obtain ⟨Z, D⟩ := a'
      obtain rfl : D = [] := h.defers
      have hfr := h.frame (by rfl) (by decide) (by decide) [.pointer (some ⟨b, 0, none⟩), .pointer (some ⟨b, 0, none⟩), .pointer (some ⟨b, 7, none⟩), .slice (some a) s.P.length c, .pointer (some ⟨b, 0, none⟩), .pointer (some ⟨b, 0, none⟩), .pointer (some ⟨b, 7, none⟩), .slice (some a) s.P.length c, .int .i64 (s.P.length : Int), .int .i64 (j : Int), .pointer (some (a.add (j * 2))), .pointer (some ⟨(a.add (j * 2)).block, (a.add (j * 2)).off + 1, none⟩), .int .i64 (q.2 : Int), .agg #[.string ⟨#[]⟩, .int .u64 (n : Int), .string t], .int .i64 (sz : Int), .int .i64 (z1 : Int), .pointer (some (a.add (j * 2))), .pointer (some ⟨(a.add (j * 2)).block, (a.add (j * 2)).off + 1, none⟩)] (by rfl) (by
        intro t v ht
        have ht10 : t < 18 := (List.getElem?_eq_some_iff.1 ht).1
        rcases (show t = 0 ∨ t = 1 ∨ t = 2 ∨ t = 3 ∨ t = 4 ∨ t = 5 ∨ t = 6 ∨ t = 7 ∨ t = 8 ∨ t = 9 ∨ t = 10 ∨ t = 11 ∨ t = 12 ∨ t = 13 ∨ t = 14 ∨ t = 15 ∨ t = 16 ∨ t = 17 by omega) with rfl | rfl | rfl | rfl | rfl | rfl | rfl | rfl | rfl | rfl | rfl | rfl | rfl | rfl | rfl | rfl | rfl | rfl
        · cases ht; exact h.facts 0 (by decide) (by decide) (all_done h.size (by kernel_rfl) hr' 0 (by decide))
        · cases ht; exact h.facts 1 (by decide) (by decide) (all_done h.size (by kernel_rfl) hr' 1 (by decide))
        · cases ht; exact h.facts 2 (by decide) (by decide) (all_done h.size (by kernel_rfl) hr' 2 (by decide))
        · cases ht; exact h.facts 3 (by decide) (by decide) (all_done h.size (by kernel_rfl) hr' 3 (by decide))
        · cases ht; exact h.facts 4 (by decide) (by decide) (all_done h.size (by kernel_rfl) hr' 4 (by decide))
        · cases ht; exact h.facts 5 (by decide) (by decide) (all_done h.size (by kernel_rfl) hr' 5 (by decide))
        · cases ht; exact h.facts 6 (by decide) (by decide) (all_done h.size (by kernel_rfl) hr' 6 (by decide))
        · cases ht; exact h.facts 7 (by decide) (by decide) (all_done h.size (by kernel_rfl) hr' 7 (by decide))
        · cases ht; exact h.facts 8 (by decide) (by decide) (all_done h.size (by kernel_rfl) hr' 8 (by decide))
        · cases ht; exact h.facts 9 (by decide) (by decide) (all_done h.size (by kernel_rfl) hr' 9 (by decide))
        · cases ht; exact h.facts 10 (by decide) (by decide) (all_done h.size (by kernel_rfl) hr' 10 (by decide))
        · cases ht; exact h.facts 11 (by decide) (by decide) (all_done h.size (by kernel_rfl) hr' 11 (by decide))
        · cases ht; exact h.facts 12 (by decide) (by decide) (all_done h.size (by kernel_rfl) hr' 12 (by decide))
        · cases ht; exact h.facts 13 (by decide) (by decide) (all_done h.size (by kernel_rfl) hr' 13 (by decide))
        · cases ht; exact hv14
        · cases ht; exact h.facts 15 (by decide) (by decide) (all_done h.size (by kernel_rfl) hr' 15 (by decide))
        · cases ht; exact h.facts 16 (by decide) (by decide) (all_done h.size (by kernel_rfl) hr' 16 (by decide))
        · cases ht; exact h.facts 17 (by decide) (by decide) (all_done h.size (by kernel_rfl) hr' 17 (by decide)))
      have HFin := Lib.hid hfin
      clear h hr' hfin hu hx0
      rw [hfr]
      clear hfr q18 q14 hv14 hbase
      obtain ⟨κ3, μ3, hls3, hfr3⟩ := HFin.out
      have hfr4 := HFR.out.trans (HD.out.trans hfr3)
      have cy := (HB.out _ _ _ hfr4).2.cell 0 _ rfl
      have c6 := hls3.wal.cells.2.2.2.2.2.2.1
      have f6 := hls3.wal.frozen 6
      have hn1 := k.n
      have hwn : IntKind.u64.wrap ((s.n : Int) + 1) = (((s.n + 1) % 18446744073709551616 : Nat) : Int) := by
        rw [Nat.mod_eq_of_lt (by omega)]
        exact u64_nat (x := s.n + 1) (by omega)
      obtain ⟨n1, hn1'⟩ : ∃ n1, n1 = (s.n + 1) % 18446744073709551616 := ⟨_, rfl⟩
      rw [← hn1'] at hwn
      have HEnd := Lib.hid (LPost.after hfr4 (hls3.setw 6 (.int .u64 (n1 : Int)) (s' := { s with P := s.P.set j (q.1, z1), n := n1 }) rfl (fun pv => rfl)))
      have HN := Lib.hid hn1'
      clear hls3 hfr3 hfr4 hn1 hn1' HFin HC HC2
      simp only [putAll]
      dsimp only at c6
      go_wp2
      go_ret
      exact ⟨rfl, by rw [← HN.out]; exact HEnd.out⟩
  · rw [if_neg he]
    have hne : (e1 == 0) = false := by rw [beq_eq_false_iff_ne]; exact he
    go_enter Tryz.func85, Tryz.ntmps85
    go_upto_region 2 with (go_at_call 75; refine (HEn.out _).mono ?_; rintro e w1 ⟨rfl, x1⟩; have X1 := Lib.hid x1; clear x1)
    obtain ⟨cy, cz, cx, cb⟩ := HC0.out w1 X1.out
    go_still_tail 9, (by kernel_rfl)
    change wpList _ _ _ _ _ w1.drew
    have HWr := Lib.hid (HW.out w1.drew X1.out.drew)
    have HPr := Lib.hid (HPo.out w1.drew X1.out.drew)
    clear cy cz cx cb HW HPo HC0 HEn
    generalize w1.drew = wd at *
    go_wp2_with (go_at_call 57; refine (HWr.out).mono ?_; rintro e w2 ⟨rfl, hp⟩; have HP1 := Lib.hid (HPr.out _ hp); clear hp)
    go_ret
    exact ⟨rfl, HP1.out⟩
end
end Go.Proofs.YtbekdcpdfmfopaaGreat
