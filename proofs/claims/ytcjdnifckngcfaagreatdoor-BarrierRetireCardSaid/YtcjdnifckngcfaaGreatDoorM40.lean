/- Plain: the newest epoch, what goes, what comes; all epochs, so many. Contract: a byte written to a builder of strings. Contracts: keys by epochs: a ring's bytes: by the program. -/
import Derived.Test.YtcjdnifckngcfaaGreatDoorM24
import Derived.Deep.DeepCutAuto
import Derived.Outline
import Derived.Shelf.Strings.BuilderK
import Derived.Test.YtcjdnifckngcfaaGreatDoorM09
import Derived.Test.YtcjdnifckngcfaaGreatDoorM10
import Derived.Test.YtcjdnifckngcfaaGreatDoorM04
section
namespace Go.Proofs.YtcjdnifckngcfaaGreatDoor
open Go.RowKit

/-! ### Plain -/
section
variable {K : List (Nat × ByteArray)}
theorem top_snoc (K : List (Nat × ByteArray)) (t : Nat) (s : ByteArray) (h : top (eps K) < t) : top (eps (K ++ [(t, s)])) = t := by
  have hp : (eps (K ++ [(t, s)])).Perm (t :: eps K) := by
    unfold eps
    rw [List.map_append]
    exact List.perm_append_comm
  rw [top_perm hp, top_cons]
  omega
theorem eps_split (K : List (Nat × ByteArray)) (e : Nat) (hup : (eps K).Pairwise (· < ·)) (he : e ∈ eps K) : (eps K).Perm (e :: eps (outK K e)) := by
  have hn : (eps K).Nodup := hup.imp fun q => Nat.ne_of_lt q
  have hn2 : (eps (outK K e)).Nodup := hn.sublist ((List.filter_sublist).map _)
  have hm : ∀ x, x ∈ eps (outK K e) ↔ x ∈ eps K ∧ x ≠ e := by
    intro x
    constructor
    · intro hx
      obtain ⟨y, hy, rfl⟩ := List.mem_map.1 hx
      exact ⟨List.mem_map.2 ⟨y, (mem_outK.1 hy).1, rfl⟩, (mem_outK.1 hy).2⟩
    · rintro ⟨hx, hne⟩
      obtain ⟨y, hy, rfl⟩ := List.mem_map.1 hx
      exact List.mem_map.2 ⟨y, mem_outK.2 ⟨hy, hne⟩, rfl⟩
  refine (List.perm_ext_iff_of_nodup hn (List.nodup_cons.2 ⟨fun q => ((hm e).1 q).2 rfl, hn2⟩)).2 fun x => ?_
  rw [List.mem_cons, hm]
  constructor
  · intro hx
    by_cases q : x = e
    · exact .inl q
    · exact .inr ⟨hx, q⟩
  · rintro (rfl | hx)
    · exact he
    · exact hx.1
theorem outK_length (hg : GoodK K) {e : Nat} (he : e ∈ eps K) : (outK K e).length + 1 = K.length := by
  have := (eps_split K e hg.up he).length_eq
  simp only [List.length_cons, eps, List.length_map] at this
  omega
theorem outK_top (hg : GoodK K) {e : Nat} (he : e ∈ eps K) (hne : e ≠ top (eps K)) : top (eps (outK K e)) = top (eps K) := by
  have h := top_perm (eps_split K e hg.up he)
  rw [top_cons] at h
  omega
/-- The newest is the last. -/
theorem last_top (hg : GoodK K) {n : Nat} (hn : K.length = n + 1) (hl : n < (eps K).length) : (eps K)[n] = top (eps K) := by
  obtain ⟨i, hi, he⟩ := List.getElem_of_mem hg.top_in
  have hlen : (eps K).length = n + 1 := by simp [eps, hn]
  rcases Nat.lt_or_ge i n with q | q
  · have := List.pairwise_iff_getElem.1 hg.up i n hi hl q
    have h2 := le_top (List.getElem_mem hl)
    omega
  · obtain rfl : i = n := by omega
    exact he
theorem eps_at {j : Nat} (hj : j < (eps K).length) : ∃ s, ((eps K)[j], s) ∈ K := by
  have hm := List.getElem_mem hj
  obtain ⟨⟨e, s⟩, hx, he⟩ := List.mem_map.1 hm
  exact ⟨s, by rw [← he]; exact hx⟩
end
theorem IsE.at_ {w : World} {B g c : Nat} {l : List Nat} (h : IsE w B g c l) (i x : Nat) (hi : i < l.length) (hx : l[i] = x) : w.cell? ⟨g, i, none⟩ = some (.int .u32 (x : Int)) := by
  subst hx
  exact h.cell i hi
/-- All epochs, so many. -/
theorem epochs_n (w : World) (r b : Nat) (L : List (Nat × ByteArray)) (h : IsK w r b L) (n : Nat) (hn : L.length = n) :
    Calls Tryz.prog 54 #[.pointer (some ⟨r, 0, none⟩)] w fun e w' => ∃ g c, e = .returned (.slice (some ⟨g, 0, none⟩) n c) ∧ IsE w' w.heap.size g c (eps L) ∧ Ext w w' := by
  subst hn
  exact epochs_any w r b L h
end Go.Proofs.YtcjdnifckngcfaaGreatDoor
end

section
namespace Go.Proofs.YtcjdnifckngcfaaGreatDoor
open Go.RowKit

def renB : Go.Shelf.Ren := ⟨fun | 167 => 109 | 240 => 132 | 276 => 156 | n => n, fun | 0 => 0 | 4 => 4 | 5 => 5 | 9 => 9 | 20 => 20 | 37 => 43 | 70 => 149 | 72 => 151 | 75 => 153 | 164 => 200 | 80 => 53 | n => n, fun n => n⟩
theorem laysB : Go.Proofs.Lays.n167 Tryz.prog renB := {
  mixed := by kernel_rfl
  f167 := Tryz.func109.trans (congrArg some (by kernel_rfl))
  f240 := Tryz.func132.trans (congrArg some (by kernel_rfl))
  f276 := Tryz.func156.trans (congrArg some (by kernel_rfl))
  t0 := Tryz.underlying0
  a0 := Tryz.isAgg0
  z0 := Tryz.sizeOf0
  v0 := Tryz.zeroValue0
  t4 := Tryz.underlying4
  a4 := Tryz.isAgg4
  z4 := Tryz.sizeOf4
  v4 := Tryz.zeroValue4
  t5 := Tryz.underlying5
  a5 := Tryz.isAgg5
  z5 := Tryz.sizeOf5
  v5 := Tryz.zeroValue5
  t9 := Tryz.underlying9
  a9 := Tryz.isAgg9
  z9 := Tryz.sizeOf9
  v9 := Tryz.zeroValue9
  t20 := Tryz.underlying20
  a20 := Tryz.isAgg20
  z20 := Tryz.sizeOf20
  v20 := Tryz.zeroValue20
  t37 := Tryz.underlying43
  a37 := Tryz.isAgg43
  z37 := Tryz.sizeOf43
  v37 := Tryz.zeroValue43
  t70 := Tryz.underlying149
  a70 := Tryz.isAgg149
  z70 := Tryz.sizeOf149
  v70 := Tryz.zeroValue149
  t72 := Tryz.underlying151
  a72 := Tryz.isAgg151
  z72 := Tryz.sizeOf151
  v72 := Tryz.zeroValue151
  t75 := Tryz.underlying153
  a75 := Tryz.isAgg153
  z75 := Tryz.sizeOf153
  v75 := Tryz.zeroValue153
  t164 := Tryz.underlying200
  a164 := Tryz.isAgg200
  z164 := Tryz.sizeOf200
  v164 := Tryz.zeroValue200 }
theorem extraB : Builder.Extra Tryz.prog renB := {
  sizeBuilder := by kernel_rfl
  liesBuilder := by kernel_rfl
  t5 := Tryz.underlying5
  a5 := Tryz.isAgg5
  z5 := Tryz.sizeOf5
  v5 := Tryz.zeroValue5
  infoByte := by kernel_rfl
  cellsByte := by kernel_rfl
  sizeByte := by kernel_rfl
  neB5 := by decide }
theorem byteCells_oneB (x : Int) (b : UInt8) (hx : x = (b.toNat : Int)) : [Value.int .u8 x] = Lib.byteCells [b] := by subst hx; rfl
theorem byte_b (B b : Nat) (l : List UInt8) (x : Int) (c : UInt8) (hx : x = (c.toNat : Int)) (w : World) (h : IsB w B b l) (hlen : l.length + 1 ≤ 140737488355328) (hBw : B ≤ w.heap.size) :
    Calls Tryz.prog 109 #[.pointer (some ⟨b, 0, none⟩), .int .u8 x] w fun e w' => e = .returned .nilIface ∧ IsB w' B b (l ++ [c]) ∧ Below B w w' :=
  (Any.Builder_WriteByte_k laysB extraB B b (Lib.byteCells l) x w h (by rw [Lib.byteCells_length]; exact hlen) hBw).mono fun _ _ h => ⟨h.1, .inr (by rw [Lib.byteCells_append, ← byteCells_oneB x c hx]; exact h.2.1), h.2.2.1⟩
end Go.Proofs.YtcjdnifckngcfaaGreatDoor
end

section
namespace Go.Proofs.YtcjdnifckngcfaaGreatDoor
open Go.RowKit

theorem field_rk (s : ByteArray) (u : World) : (Instr.field 108 (.agg #[.string s]) 0).run Tryz.prog u = .ok (.string s) u := by kernel_rfl
/-- A text written: what else is no row of bytes stays. -/
theorem write_k (B b : Nat) (l : List UInt8) (s : ByteArray) (w : World) (h : IsB w B b l) (hlen : l.length + s.size ≤ 140737488355328) (hBw : B ≤ w.heap.size) :
    Calls Tryz.prog 110 #[.pointer (some ⟨b, 0, none⟩), .string s] w fun e w' => (∃ v, e = .returned v) ∧ IsB w' B b (l ++ s.data.toList) ∧ Below B w w' ∧ Lib.OthersKept 5 (some b) w w' :=
  (Any.Builder_WriteString_k laysW extraW B b (Lib.byteCells l) s w h (by rw [Lib.byteCells_length]; exact hlen) hBw).mono fun _ _ q => ⟨⟨_, q.1⟩, .inr (by rw [Lib.byteCells_append]; exact q.2.1), q.2.2⟩
theorem write_km (B b : Nat) (l m : List UInt8) (w : World) (h : IsB w B b l) (hlen : l.length + m.length ≤ 140737488355328) (hBw : B ≤ w.heap.size) :
    Calls Tryz.prog 110 #[.pointer (some ⟨b, 0, none⟩), .string ⟨m.toArray⟩] w fun e w' => (∃ v, e = .returned v) ∧ IsB w' B b (l ++ m) ∧ Below B w w' ∧ Lib.OthersKept 5 (some b) w w' := by
  have h1 := write_k B b l ⟨m.toArray⟩ w h (by rw [txt_size]; exact hlen) hBw
  have e : (⟨m.toArray⟩ : ByteArray).data.toList = m := by simp
  rw [e] at h1
  exact h1
theorem IsE.kept {w w' : World} {B g c k : Nat} {l : List Nat} (h : IsE w B g c l) (hk : Lib.OthersKept 5 (some k) w w') (hg : g ≠ k) : IsE w' B g c l := by
  obtain ⟨⟨pos, h1, h2⟩, h3, h4⟩ := h
  refine ⟨⟨pos, hk g _ h1 (by simpa using hg) (fun c fz e => ?_), h2⟩, h3, h4⟩
  injection e with _ e2
  exact absurd e2 (by decide)
theorem bytes_nil (w : World) :
    Calls Tryz.prog 74 #[.pointer none] w fun e w' => e = .returned (.string ⟨#[]⟩) ∧ w = w' := by
  go_enter Tryz.func74, Tryz.ntmps74
  go_wp2_with (go_at_call 84; refine (thereK_no _).mono ?_; rintro e w1 ⟨rfl, rfl⟩)
  go_ret
  exact ⟨rfl, rfl⟩
set_option maxRecDepth 100000 in
set_option maxHeartbeats 4000000 in
theorem bytes_any (w : World) (r b : Nat) (L : List (Nat × ByteArray)) (h : IsK w r b L) :
    Calls Tryz.prog 74 #[.pointer (some ⟨r, 0, none⟩)] w fun e w' => e = .returned (.string ⟨(ringL L).toArray⟩) ∧ Ext w w' := by
  have hc := h.cell
  have hlen := fun ty => h.map.len ty
  have h64 := h.good.few
  have HK := Lib.hid h
  have hb0 := IsB.new w w.heap.size (Nat.le_refl _)
  obtain ⟨W0, hW0⟩ : ∃ W0, w.alloc (.cells #[.pointer none, .slice none 0 0] 151) = W0 := ⟨_, rfl⟩
  have hx0 : Ext w W0 := by rw [← hW0]; exact (Ext.refl w).alloc _
  rw [hW0] at hb0
  have HB0 := Lib.hid hb0; have HX0 := Lib.hid hx0
  have hz0 : w.heap.size < W0.heap.size := by rw [← hW0]; simp
  have HZ0 := Lib.hid hz0
  clear hz0
  have hc2 := (h.ext hx0).cell
  have hlen2 := fun ty => (h.ext hx0).map.len ty
  have hwr : IntKind.u8.wrap (L.length : Int) = (L.length : Int) := by simp [IntKind.wrap, IntKind.signed, IntKind.bits]; omega
  have hE := fun u (hu : IsK u r b L) => epochs_any u r b L hu
  have HE := Lib.hid hE
  clear h hb0 hx0 hE
  go_enter Tryz.func74, Tryz.ntmps74
  go_wp2_with (first
    | (go_at_call 84; refine (thereK_yes _ r b hc).mono ?_; rintro e w1 ⟨rfl, rfl⟩)
    | (go_at_call 109; refine (byte_b w.heap.size w.heap.size [] _ (UInt8.ofNat L.length) (by simp; omega) _ HB0.out (by simp) HX0.out.size).mono ?_; rintro e w2 ⟨rfl, hb2, x2⟩; have HB2 := Lib.hid hb2; have HX2 : Hid (Ext w w2) := Lib.hid (HX0.out.trans3 x2); have HZ2 : Hid (w.heap.size < w2.heap.size) := Lib.hid (Nat.lt_of_lt_of_le HZ0.out x2.size); clear hb2 x2)
    | (go_at_call 54; refine (HE.out _ (HK.out.ext HX2.out)).mono ?_; rintro e w3 ⟨g, c, rfl, i3, x3⟩; have HB3 := Lib.hid (HB2.out.ext x3); have E3 := Lib.hid i3; have HX3 := Lib.hid (HX2.out.trans x3); clear i3 x3))
  have hsz : ∀ x ∈ L, x.2.size = 32 := fun x hx => (HK.out.good.each x hx).2.2
  have HSz := Lib.hid hsz
  clear hsz hlen hlen2 hc hc2 hW0
  go_loopw [19] (fun jv wr => ∃ j : Nat, j ≤ L.length ∧ jv = .int .i64 (j : Int) ∧ Hid (IsB wr w.heap.size w.heap.size (UInt8.ofNat L.length :: rowsL (L.take j))) ∧ Hid (IsE wr w2.heap.size g c (eps L)) ∧ Hid (Ext w wr)) (fun jv _ => L.length - (intOf jv).toNat)
  case atStart => exact ⟨0, Nat.zero_le _, rfl, Lib.hid (by simpa [rowsL] using HB3.out), E3, HX3⟩
  case round =>
    obtain ⟨j, hj, rfl, hB, hE, hX⟩ := hrel
    by_cases hlt : j < L.length
    · have hlti : (j : Int) < (L.length : Int) := by omega
      obtain ⟨⟨e, s⟩, hx⟩ : ∃ x, L[j]? = some x := ⟨_, List.getElem?_eq_getElem hlt⟩
      have hmem := List.mem_of_getElem? hx
      have hs : s.size = 32 := HSz.out _ hmem
      have he32 : e < 4294967296 := (HK.out.good.each _ hmem).2.1
      have hjl : j < (eps L).length := by simpa [eps] using hlt
      have hje : (eps L)[j] = e := by
        obtain ⟨h1, h2⟩ := List.getElem?_eq_some_iff.1 hx
        simp [eps, h2]
      have hle := hE.out.le
      have cj := hE.out.at_ j e hjl hje
      have HLk := Lib.hid (fun u (hu : IsM u b L) => hu.look false he32 hmem)
      have HSu := Lib.hid (rowsL_succ hx)
      have hln : (UInt8.ofNat L.length :: rowsL (L.take j)).length ≤ 3000 := by
        rw [List.length_cons, rowsL_length fun y hy => HSz.out y (List.mem_of_mem_take hy), List.length_take]
        omega
      have HLn := Lib.hid hln
      have hbl := Lib.hid (be_length 4 e)
      have hfd := field_rk s
      have hel : (eps L).length = L.length := by simp [eps]
      have HEl := Lib.hid hel
      rw [hel] at hle
      clear hx hmem hjl hje hln hel
      generalize rowsL (L.take j) = R at *
      have HPut := Lib.hid (fun u => Put32_any e u)
      generalize be 4 e = E at *
      have HW1 := Lib.hid (fun u hu hs => write_km w.heap.size w.heap.size (UInt8.ofNat L.length :: R) E u hu (by have h1 := HLn.out; have h2 := hbl.out; omega) hs)
      have HW2 := Lib.hid (fun u hu hs => write_k w.heap.size w.heap.size (UInt8.ofNat L.length :: R ++ E) s u hu (by have h1 := HLn.out; have h2 := hbl.out; rw [List.length_append]; omega) hs)
      go_wp2_with (first
        | (go_at_call 79; refine (HPut.out _).mono ?_; rintro e1 w4 ⟨rfl, x4⟩; have HB4 := Lib.hid (hB.out.ext x4); have HE4 := Lib.hid (hE.out.ext x4); have HX4 := Lib.hid (hX.out.trans x4); clear x4)
        | (go_at_call 110; refine (HW1.out _ HB4.out HX4.out.size).mono ?_; rintro e1 w5 ⟨⟨v5, rfl⟩, hb5, x5, o5⟩; have HB5 := Lib.hid hb5; have HE5 := Lib.hid (HE4.out.kept o5 (Nat.ne_of_gt (Nat.lt_of_lt_of_le HZ2.out HE4.out.new))); have HX5 := Lib.hid (HX4.out.trans3 x5); have HK5 := Lib.hid (HK.out.ext HX5.out); have c5 := HK5.out.cell; have hlk := HLk.out _ HK5.out.map; simp only [Bool.false_eq_true, if_false] at hlk; clear hb5 x5 o5 HW1)
        | (go_at_call 110; refine (HW2.out _ HB5.out HX5.out.size).mono ?_; rintro e1 w6 ⟨⟨v6, rfl⟩, hb6, x6, o6⟩; have HB6 := Lib.hid hb6; have HE6 := Lib.hid (HE5.out.kept o6 (Nat.ne_of_gt (Nat.lt_of_lt_of_le HZ2.out HE5.out.new))); have HX6 := Lib.hid (HX5.out.trans3 x6); clear hb6 x6 o6))
      have h6 := HB6.out
      rw [List.cons_append, List.cons_append, ← HSu.out] at h6
      have HB7 := Lib.hid h6
      clear h6
      go_roundw
      case rel => exact ⟨j + 1, hlt, by go_num, HB7, HE6, HX6⟩
      case measure => simp [intOf]; omega
    · obtain rfl : j = L.length := by omega
      have HB9 := Lib.hid (by have := hB.out; rwa [List.take_length] at this)
      have HS := Lib.hid (fun u (hu : Ext w u) (h : IsB u w.heap.size w.heap.size (UInt8.ofNat L.length :: rowsL L)) => string_b w.heap.size w.heap.size _ u h hu.size)
      go_wp2_with (go_at_call 111; refine (HS.out _ hX.out HB9.out).mono ?_; rintro e1 w9 ⟨rfl, x9⟩)
      go_ret
      exact ⟨rfl, hX.out.trans3 x9⟩
end Go.Proofs.YtcjdnifckngcfaaGreatDoor
end
