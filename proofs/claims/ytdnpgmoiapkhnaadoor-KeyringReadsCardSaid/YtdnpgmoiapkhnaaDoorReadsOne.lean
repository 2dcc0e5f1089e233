/- Contract: numbers written as bytes, by the document's answer. Plain: texts joined; a text of one byte. Contracts: keys by epochs: the document's ring: its bytes. Contract: a byte written to a builder of strings. Contracts: keys by epochs: a ring's bytes: by the program. Contracts: whether the program's ring has the document's keys: the laws of layer 13. -/
import Derived.Test.YtdnpgmoiapkhnaaDoorM18
import Derived.Test.YtdnpgmoiapkhnaaDoorM05
import Derived.Test.YtdnpgmoiapkhnaaDoorM12
import Derived.Test.YtdnpgmoiapkhnaaDoorM35
import Derived.Test.YtdnpgmoiapkhnaaDoorM13
import Derived.Deep.RegionHeld3
import Derived.Outline
import Derived.Shelf.Strings.BuilderK
import Derived.Test.YtdnpgmoiapkhnaaDoorM34
import Derived.BigQuiet
section
namespace Go.Proofs.YtdnpgmoiapkhnaaDoor
open Go.RowKit

theorem quo_wrap {n j m : Nat} (hn : Hid (n < 2 ^ 64)) (hm : m = n / 256 ^ j) : IntKind.u64.wrap ((m : Int) / 256) = ((m / 256 : Nat) : Int) := by
  have h1 : m ≤ n := by rw [hm]; exact Nat.div_le_self _ _
  have := u64_nat (x := m / 256) (by have := hn.out; omega)
  simpa using this
set_option maxRecDepth 100000 in
theorem rPut_any (n : Nat) (hn : Hid (n < 2 ^ 64)) (k : Nat) (hk : k ≤ 8) (w : World) :
    Calls Tryd.prog 30 #[.int .u64 (n : Int), .int .i64 (k : Int)] w fun e w' => e = .returned (.string ⟨(be k n).toArray⟩) ∧ Ext w w' := by
  have hmk := make_bytes k (by omega)
  go_enter Tryd.func30, Tryd.ntmps30
  go_wp2
  go_loopw [6, 0] (fun i m wr => ∃ j : Nat, j ≤ k ∧ i = .int .i64 ((k : Int) - 1 - (j : Int)) ∧ m = .int .u64 ((n / 256 ^ j : Nat) : Int) ∧ Row wr w.heap.size 5 (List.replicate (k - j) 0 ++ be j n) ∧ Ext w wr) (fun i _ _ => (intOf i + 1).toNat)
  case atStart => exact ⟨0, Nat.zero_le _, by simp, by simp, by simpa [be] using Row.made w 5 k, (Ext.refl w).alloc _⟩
  case round =>
    obtain ⟨j, hj, rfl, rfl, hrow, hext⟩ := hrel
    by_cases hlt : j < k
    · have hc := put_cell hlt hrow
      have hf := hrow.frozen (k - 1 - j)
      obtain ⟨m, hm⟩ : ∃ m : Nat, m = n / 256 ^ j := ⟨_, rfl⟩
      rw [← hm]
      have Hm := Lib.hid hm; clear hm
      go_wp2
      go_roundw
      case rel => exact ⟨j + 1, by omega, int_eq (by omega), by rw [← div_step, ← Hm.out]; exact int_eq (quo_wrap hn Hm.out), quo_step Hm.out hlt hrow, hext.setCell (Nat.le_refl _) _⟩
      case measure => simp [intOf]; omega
    · obtain rfl : j = k := by omega
      have ht := hrow.text (P := Tryd.prog) 35 5 9 Tryd.underlying35 Tryd.underlying5 Tryd.underlying9 j j (by simp [be_length])
      clear hrow
      go_wp2
      go_ret
      exact ⟨by simp, hext⟩
end Go.Proofs.YtdnpgmoiapkhnaaDoor
end

section
namespace Go.Proofs.YtdnpgmoiapkhnaaDoor
open Go.RowKit

theorem text_add (a : List UInt8) (s : ByteArray) : (⟨a.toArray⟩ : ByteArray) ++ s = ⟨(a ++ s.data.toList).toArray⟩ := by
  have : s = ⟨s.data.toList.toArray⟩ := rfl
  conv => lhs; rw [this]
  exact str_append _ _
theorem one_text2 (x : Int) (b : UInt8) (hx : x = (b.toNat : Int)) (t : TypeId) (u : World) : (convert 35 9 (.slice (some ⟨u.heap.size, 0, none⟩) 1 1)).run Tryd.prog (u.alloc (.cells #[.int .u8 x] t)) = .ok (.string ⟨#[b]⟩) (u.alloc (.cells #[.int .u8 x] t)) := by
  subst hx
  have hr : Row (u.alloc (.cells #[.int .u8 (b.toNat : Int)] t)) u.heap.size t [b] := heap_alloc_new u _
  exact hr.text (P := Tryd.prog) 35 5 9 Tryd.underlying35 Tryd.underlying5 Tryd.underlying9 1 1 rfl
end Go.Proofs.YtdnpgmoiapkhnaaDoor
end

section
namespace Go.Proofs.YtdnpgmoiapkhnaaDoor
open Go.RowKit

theorem rput4k (n : Nat) (hn : n < 4294967296) (w : World) : Calls Tryd.prog 30 #[.int .u64 (n : Int), .int .i64 4] w fun e w' => e = .returned (.string ⟨(be 4 n).toArray⟩) ∧ Ext w w' := rPut_any n (Lib.hid (by omega)) 4 (by omega) w
set_option maxRecDepth 100000 in
set_option maxHeartbeats 4000000 in
theorem rbytesK_any (w : World) (B d : Nat) (p : Option Addr) (c : Nat) (L : List (Nat × ByteArray)) (h : IsR w B d p c L) (hG : GoodK L) :
    Calls Tryd.prog 11 #[.pointer (some ⟨d, 0, none⟩)] w fun e w' => e = .returned (.string ⟨(ringL L).toArray⟩) ∧ Ext w w' := by
  have h64 := hG.few
  have HR := Lib.hid h; have HG := Lib.hid hG
  have c0 := h.ring.cell 0 _ rfl
  have hwn : IntKind.u8.wrap (L.length : Int) = (L.length : Int) := IntWalk.u8_in _ ⟨by omega, by omega⟩
  have hcv := fun t => one_text2 (L.length : Int) (UInt8.ofNat L.length) (by rw [UInt8.toNat_ofNat']; omega) t w
  have HX := Lib.hid ((Ext.refl w).alloc (.cells #[.int .u8 (L.length : Int)] 5))
  clear h hG
  go_enter Tryd.func11, Tryd.ntmps11
  go_wp2
  clear hcv c0 hwn
  go_loopw [3, 4] (fun sv iv wr => ∃ (j : Nat) (SV : ByteArray), j ≤ L.length ∧ iv = .int .i64 (j : Int) ∧ sv = .string SV ∧ Hid (SV = ⟨(UInt8.ofNat L.length :: rowsL (L.take j)).toArray⟩) ∧ Hid (Ext w wr)) (fun _ iv _ => L.length - (intOf iv).toNat)
  case atStart => exact ⟨0, _, Nat.zero_le _, rfl, rfl, Lib.hid rfl, HX⟩
  case round =>
    obtain ⟨j, SV, hj, rfl, rfl, HS, HXr⟩ := hrel
    clear HX
    have c0 := (HR.out.ext HXr.out).ring.cell 0 _ rfl
    by_cases hlt : j < L.length
    · have hlti : (j : Int) < (L.length : Int) := by omega
      obtain ⟨⟨e, s⟩, hx⟩ : ∃ x, L[j]? = some x := ⟨_, List.getElem?_eq_getElem hlt⟩
      have hRr := HR.out.ext HXr.out
      obtain ⟨g, rfl, _, c1, c2⟩ := hRr.at_ hx
      have hgb : g < wr.heap.size := by
        obtain ⟨g', e', hlt', _⟩ := hRr.ents.cell (entL_at L j _ hx).1
        cases e'
        exact hlt'
      have he := HG.out.each _ (List.mem_of_getElem? hx)
      have hs32 : s.size = 32 := he.2.2
      have he32 : e < 4294967296 := he.2.1
      have hw64 : IntKind.u64.wrap (e : Int) = (e : Int) := by simp [IntKind.wrap, IntKind.signed, IntKind.bits]; omega
      have HP := Lib.hid (fun u => rput4k e he32 u)
      have hzS : SV.size = 1 + 36 * j := by
        rw [HS.out, txt_size, List.length_cons, rowsL_length (fun x hx2 => (HG.out.each x (List.mem_of_mem_take hx2)).2.2), List.length_take]
        omega
      have hnx : SV ++ ⟨(be 4 e).toArray⟩ ++ s = ⟨(UInt8.ofNat L.length :: rowsL (L.take (j + 1))).toArray⟩ := by
        rw [HS.out, str_append, text_add, rowsL_succ hx]
        simp
      have hz4 : (⟨(be 4 e).toArray⟩ : ByteArray).size = 4 := by rw [txt_size, be_length]
      have HNx := Lib.hid hnx
      have HKeep : Hid (∀ u, Ext wr u → u.cell? ⟨d, 0, none⟩ = some (.slice (some ⟨g, 0, none⟩) L.length c) ∧ u.cell? ⟨g, j * 2, none⟩ = some (.int .u32 (e : Int)) ∧ u.cell? ⟨g, j * 2 + 1, none⟩ = some (.string s) ∧ Ext wr u) :=
        Lib.hid fun u hu => ⟨(hRr.ring.ext hu).cell 0 _ rfl, by rw [hu.below.cell (p := ⟨g, j * 2, none⟩) hgb]; exact c1, by rw [hu.below.cell (p := ⟨g, j * 2 + 1, none⟩) hgb]; exact c2, hu⟩
      have hS := HKeep.out wr.drew (Ext.refl wr).drew
      have c0' := c0
      clear hx c0 c1 c2 he hnx hgb hRr
      generalize (⟨(be 4 e).toArray⟩ : ByteArray) = E at *
      have ht1 : ¬ 9223372036854775807 < SV.size + E.size := by omega
      have ht2 : ¬ 9223372036854775807 < SV.size + E.size + s.size := by omega
      have ht3 : ¬ 9223372036854775807 < (SV ++ E).size + s.size := by rw [ByteArray.size_append]; exact ht2
      have hr1 : ∀ u, (Op.stringOp .add SV E).run Tryd.prog u = .ok (.string (SV ++ E)) u := fun u => by simp [Op.stringOp, IntKind.max, IntKind.signed, IntKind.bits]; omega
      have hr2 : ∀ u, (Op.stringOp .add (SV ++ E) s).run Tryd.prog u = .ok (.string (SV ++ E ++ s)) u := fun u => by simp [Op.stringOp, IntKind.max, IntKind.signed, IntKind.bits, ByteArray.size_append]; omega
      have hi1 : ¬ (9223372036854775807 : Int) < (SV.size : Int) + (E.size : Int) := by omega
      have hi2 : ¬ (9223372036854775807 : Int) < (SV.size : Int) + (E.size : Int) + (s.size : Int) := by omega
      go_upto_region 5 with (fail)
      go_region_held3 (fun u => u.cell? ⟨d, 0, none⟩ = some (.slice (some ⟨g, 0, none⟩) L.length c) ∧ u.cell? ⟨g, j * 2, none⟩ = some (.int .u32 (e : Int)) ∧ u.cell? ⟨g, j * 2 + 1, none⟩ = some (.string s) ∧ Ext wr u) (first | exact hS | exact hS1 | assumption | exact HKeep.out _ (by repeat' (first | assumption | exact Ext.refl _ | refine Ext.drew ?_ | refine Ext.alloc ?_ _)) | go_keep) (first
        | (go_at_call 30; refine (HP.out _).mono ?_; rintro e1 w4 ⟨rfl, h4⟩; have y4 := Ext.trans (a := wr) (by repeat' (first | assumption | exact Ext.refl _ | refine Ext.drew ?_ | refine Ext.alloc ?_ _)) h4; have hS1 := HKeep.out _ y4))
      all_goals
        have Y4 := Lib.hid y4
        clear hS hS1 y4
        go_wp2
        go_roundw
        case rel => exact ⟨j + 1, _, hlt, by go_num, rfl, HNx, Lib.hid (HXr.out.trans Y4.out)⟩
        case measure => simp [intOf]; omega
    · obtain rfl : j = L.length := by omega
      have hlti : ¬ (L.length : Int) < (L.length : Int) := by omega
      have HE : Hid (SV = ⟨(ringL L).toArray⟩) := Lib.hid (by rw [HS.out, List.take_length]; rfl)
      clear hlti HS
      go_wp2
      go_ret
      exact ⟨by rw [HE.out]; rfl, HXr.out⟩
end Go.Proofs.YtdnpgmoiapkhnaaDoor
end

section
namespace Go.Proofs.YtdnpgmoiapkhnaaDoor
open Go.RowKit

def renB : Go.Shelf.Ren := ⟨fun | 167 => 54 | 240 => 72 | 276 => 90 | n => n, fun | 0 => 0 | 4 => 4 | 5 => 5 | 9 => 9 | 20 => 20 | 37 => 35 | 70 => 95 | 72 => 97 | 75 => 99 | 164 => 138 | 80 => 36 | n => n, fun n => n⟩
theorem laysB : Go.Proofs.Lays.n167 Tryd.prog renB := {
  mixed := by kernel_rfl
  f167 := Tryd.func54.trans (congrArg some (by kernel_rfl))
  f240 := Tryd.func72.trans (congrArg some (by kernel_rfl))
  f276 := Tryd.func90.trans (congrArg some (by kernel_rfl))
  t0 := Tryd.underlying0
  a0 := Tryd.isAgg0
  z0 := Tryd.sizeOf0
  v0 := Tryd.zeroValue0
  t4 := Tryd.underlying4
  a4 := Tryd.isAgg4
  z4 := Tryd.sizeOf4
  v4 := Tryd.zeroValue4
  t5 := Tryd.underlying5
  a5 := Tryd.isAgg5
  z5 := Tryd.sizeOf5
  v5 := Tryd.zeroValue5
  t9 := Tryd.underlying9
  a9 := Tryd.isAgg9
  z9 := Tryd.sizeOf9
  v9 := Tryd.zeroValue9
  t20 := Tryd.underlying20
  a20 := Tryd.isAgg20
  z20 := Tryd.sizeOf20
  v20 := Tryd.zeroValue20
  t37 := Tryd.underlying35
  a37 := Tryd.isAgg35
  z37 := Tryd.sizeOf35
  v37 := Tryd.zeroValue35
  t70 := Tryd.underlying95
  a70 := Tryd.isAgg95
  z70 := Tryd.sizeOf95
  v70 := Tryd.zeroValue95
  t72 := Tryd.underlying97
  a72 := Tryd.isAgg97
  z72 := Tryd.sizeOf97
  v72 := Tryd.zeroValue97
  t75 := Tryd.underlying99
  a75 := Tryd.isAgg99
  z75 := Tryd.sizeOf99
  v75 := Tryd.zeroValue99
  t164 := Tryd.underlying138
  a164 := Tryd.isAgg138
  z164 := Tryd.sizeOf138
  v164 := Tryd.zeroValue138 }
theorem extraB : Builder.Extra Tryd.prog renB := {
  sizeBuilder := by kernel_rfl
  liesBuilder := by kernel_rfl
  t5 := Tryd.underlying5
  a5 := Tryd.isAgg5
  z5 := Tryd.sizeOf5
  v5 := Tryd.zeroValue5
  infoByte := by kernel_rfl
  cellsByte := by kernel_rfl
  sizeByte := by kernel_rfl
  neB5 := by decide }
theorem byteCells_oneB (x : Int) (b : UInt8) (hx : x = (b.toNat : Int)) : [Value.int .u8 x] = Lib.byteCells [b] := by subst hx; rfl
theorem byte_b (B b : Nat) (l : List UInt8) (x : Int) (c : UInt8) (hx : x = (c.toNat : Int)) (w : World) (h : IsB w B b l) (hlen : l.length + 1 ≤ 140737488355328) (hBw : B ≤ w.heap.size) :
    Calls Tryd.prog 54 #[.pointer (some ⟨b, 0, none⟩), .int .u8 x] w fun e w' => e = .returned .nilIface ∧ IsB w' B b (l ++ [c]) ∧ Below B w w' :=
  (Any.Builder_WriteByte_k laysB extraB B b (Lib.byteCells l) x w h (by rw [Lib.byteCells_length]; exact hlen) hBw).mono fun _ _ h => ⟨h.1, .inr (by rw [Lib.byteCells_append, ← byteCells_oneB x c hx]; exact h.2.1), h.2.2.1⟩
end Go.Proofs.YtdnpgmoiapkhnaaDoor
end

section
namespace Go.Proofs.YtdnpgmoiapkhnaaDoor
open Go.RowKit

theorem field_rk (s : ByteArray) (u : World) : (Instr.field 71 (.agg #[.string s]) 0).run Tryd.prog u = .ok (.string s) u := by kernel_rfl
/-- A text written: what else is no row of bytes stays. -/
theorem write_k (B b : Nat) (l : List UInt8) (s : ByteArray) (w : World) (h : IsB w B b l) (hlen : l.length + s.size ≤ 140737488355328) (hBw : B ≤ w.heap.size) :
    Calls Tryd.prog 55 #[.pointer (some ⟨b, 0, none⟩), .string s] w fun e w' => (∃ v, e = .returned v) ∧ IsB w' B b (l ++ s.data.toList) ∧ Below B w w' ∧ Lib.OthersKept 5 (some b) w w' :=
  (Any.Builder_WriteString_k laysW extraW B b (Lib.byteCells l) s w h (by rw [Lib.byteCells_length]; exact hlen) hBw).mono fun _ _ q => ⟨⟨_, q.1⟩, .inr (by rw [Lib.byteCells_append]; exact q.2.1), q.2.2⟩
theorem write_km (B b : Nat) (l m : List UInt8) (w : World) (h : IsB w B b l) (hlen : l.length + m.length ≤ 140737488355328) (hBw : B ≤ w.heap.size) :
    Calls Tryd.prog 55 #[.pointer (some ⟨b, 0, none⟩), .string ⟨m.toArray⟩] w fun e w' => (∃ v, e = .returned v) ∧ IsB w' B b (l ++ m) ∧ Below B w w' ∧ Lib.OthersKept 5 (some b) w w' := by
  have h1 := write_k B b l ⟨m.toArray⟩ w h (by rw [txt_size]; exact hlen) hBw
  have e : (⟨m.toArray⟩ : ByteArray).data.toList = m := by simp
  rw [e] at h1
  exact h1
theorem IsE.kept {w w' : World} {B g c k : Nat} {l : List Nat} (h : IsE w B g c l) (hk : Lib.OthersKept 5 (some k) w w') (hg : g ≠ k) : IsE w' B g c l := by
  obtain ⟨⟨pos, h1, h2⟩, h3, h4⟩ := h
  refine ⟨⟨pos, hk g _ h1 (by simpa using hg) (fun c fz e => ?_), h2⟩, h3, h4⟩
  injection e with _ e2
  exact absurd e2 (by decide)
theorem bytes_nil (w : World) :
    Calls Tryd.prog 36 #[.pointer none] w fun e w' => e = .returned (.string ⟨#[]⟩) ∧ w = w' := by
  go_enter Tryd.func36, Tryd.ntmps36
  go_wp2_with (go_at_call 45; refine (thereK_no _).mono ?_; rintro e w1 ⟨rfl, rfl⟩)
  go_ret
  exact ⟨rfl, rfl⟩
set_option maxRecDepth 100000 in
set_option maxHeartbeats 4000000 in
theorem bytes_any (w : World) (r b : Nat) (L : List (Nat × ByteArray)) (h : IsK w r b L) :
    Calls Tryd.prog 36 #[.pointer (some ⟨r, 0, none⟩)] w fun e w' => e = .returned (.string ⟨(ringL L).toArray⟩) ∧ Ext w w' := by
  have hc := h.cell
  have hlen := fun ty => h.map.len ty
  have h64 := h.good.few
  have HK := Lib.hid h
  have hb0 := IsB.new w w.heap.size (Nat.le_refl _)
  obtain ⟨W0, hW0⟩ : ∃ W0, w.alloc (.cells #[.pointer none, .slice none 0 0] 97) = W0 := ⟨_, rfl⟩
  have hx0 : Ext w W0 := by rw [← hW0]; exact (Ext.refl w).alloc _
  rw [hW0] at hb0
  have HB0 := Lib.hid hb0; have HX0 := Lib.hid hx0
  have hz0 : w.heap.size < W0.heap.size := by rw [← hW0]; simp
  have HZ0 := Lib.hid hz0
  clear hz0
  have hc2 := (h.ext hx0).cell
  have hlen2 := fun ty => (h.ext hx0).map.len ty
  have hwr : IntKind.u8.wrap (L.length : Int) = (L.length : Int) := by simp [IntKind.wrap, IntKind.signed, IntKind.bits]; omega
  have hE := fun u (hu : IsK u r b L) => epochs_any u r b L hu
  have HE := Lib.hid hE
  clear h hb0 hx0 hE
  go_enter Tryd.func36, Tryd.ntmps36
  go_wp2_with (first
    | (go_at_call 45; refine (thereK_yes _ r b hc).mono ?_; rintro e w1 ⟨rfl, rfl⟩)
    | (go_at_call 54; refine (byte_b w.heap.size w.heap.size [] _ (UInt8.ofNat L.length) (by simp; omega) _ HB0.out (by simp) HX0.out.size).mono ?_; rintro e w2 ⟨rfl, hb2, x2⟩; have HB2 := Lib.hid hb2; have HX2 : Hid (Ext w w2) := Lib.hid (HX0.out.trans3 x2); have HZ2 : Hid (w.heap.size < w2.heap.size) := Lib.hid (Nat.lt_of_lt_of_le HZ0.out x2.size); clear hb2 x2)
    | (go_at_call 27; refine (HE.out _ (HK.out.ext HX2.out)).mono ?_; rintro e w3 ⟨g, c, rfl, i3, x3⟩; have HB3 := Lib.hid (HB2.out.ext x3); have E3 := Lib.hid i3; have HX3 := Lib.hid (HX2.out.trans x3); clear i3 x3))
  have hsz : ∀ x ∈ L, x.2.size = 32 := fun x hx => (HK.out.good.each x hx).2.2
  have HSz := Lib.hid hsz
  clear hsz hlen hlen2 hc hc2 hW0
  go_loopw [19] (fun jv wr => ∃ j : Nat, j ≤ L.length ∧ jv = .int .i64 (j : Int) ∧ Hid (IsB wr w.heap.size w.heap.size (UInt8.ofNat L.length :: rowsL (L.take j))) ∧ Hid (IsE wr w2.heap.size g c (eps L)) ∧ Hid (Ext w wr)) (fun jv _ => L.length - (intOf jv).toNat)
  case atStart => exact ⟨0, Nat.zero_le _, rfl, Lib.hid (by simpa [rowsL] using HB3.out), E3, HX3⟩
  case round =>
    obtain ⟨j, hj, rfl, hB, hE, hX⟩ := hrel
    by_cases hlt : j < L.length
    · have hlti : (j : Int) < (L.length : Int) := by omega
      obtain ⟨⟨e, s⟩, hx⟩ : ∃ x, L[j]? = some x := ⟨_, List.getElem?_eq_getElem hlt⟩
      have hmem := List.mem_of_getElem? hx
      have hs : s.size = 32 := HSz.out _ hmem
      have he32 : e < 4294967296 := (HK.out.good.each _ hmem).2.1
      have hjl : j < (eps L).length := by simpa [eps] using hlt
      have hje : (eps L)[j] = e := by
        obtain ⟨h1, h2⟩ := List.getElem?_eq_some_iff.1 hx
        simp [eps, h2]
      have hle := hE.out.le
      have cj := hE.out.at_ j e hjl hje
      have HLk := Lib.hid (fun u (hu : IsM u b L) => hu.look false he32 hmem)
      have HSu := Lib.hid (rowsL_succ hx)
      have hln : (UInt8.ofNat L.length :: rowsL (L.take j)).length ≤ 3000 := by
        rw [List.length_cons, rowsL_length fun y hy => HSz.out y (List.mem_of_mem_take hy), List.length_take]
        omega
      have HLn := Lib.hid hln
      have hbl := Lib.hid (be_length 4 e)
      have hfd := field_rk s
      have hel : (eps L).length = L.length := by simp [eps]
      have HEl := Lib.hid hel
      rw [hel] at hle
      clear hx hmem hjl hje hln hel
      generalize rowsL (L.take j) = R at *
      have HPut := Lib.hid (fun u => Put32_any e u)
      generalize be 4 e = E at *
      have HW1 := Lib.hid (fun u hu hs => write_km w.heap.size w.heap.size (UInt8.ofNat L.length :: R) E u hu (by have h1 := HLn.out; have h2 := hbl.out; omega) hs)
      have HW2 := Lib.hid (fun u hu hs => write_k w.heap.size w.heap.size (UInt8.ofNat L.length :: R ++ E) s u hu (by have h1 := HLn.out; have h2 := hbl.out; rw [List.length_append]; omega) hs)
      go_wp2_with (first
        | (go_at_call 40; refine (HPut.out _).mono ?_; rintro e1 w4 ⟨rfl, x4⟩; have HB4 := Lib.hid (hB.out.ext x4); have HE4 := Lib.hid (hE.out.ext x4); have HX4 := Lib.hid (hX.out.trans x4); clear x4)
        | (go_at_call 55; refine (HW1.out _ HB4.out HX4.out.size).mono ?_; rintro e1 w5 ⟨⟨v5, rfl⟩, hb5, x5, o5⟩; have HB5 := Lib.hid hb5; have HE5 := Lib.hid (HE4.out.kept o5 (Nat.ne_of_gt (Nat.lt_of_lt_of_le HZ2.out HE4.out.new))); have HX5 := Lib.hid (HX4.out.trans3 x5); have HK5 := Lib.hid (HK.out.ext HX5.out); have c5 := HK5.out.cell; have hlk := HLk.out _ HK5.out.map; simp only [Bool.false_eq_true, if_false] at hlk; clear hb5 x5 o5 HW1)
        | (go_at_call 55; refine (HW2.out _ HB5.out HX5.out.size).mono ?_; rintro e1 w6 ⟨⟨v6, rfl⟩, hb6, x6, o6⟩; have HB6 := Lib.hid hb6; have HE6 := Lib.hid (HE5.out.kept o6 (Nat.ne_of_gt (Nat.lt_of_lt_of_le HZ2.out HE5.out.new))); have HX6 := Lib.hid (HX5.out.trans3 x6); clear hb6 x6 o6))
      have h6 := HB6.out
      rw [List.cons_append, List.cons_append, ← HSu.out] at h6
      have HB7 := Lib.hid h6
      clear h6
      go_roundw
      case rel => exact ⟨j + 1, hlt, by go_num, HB7, HE6, HX6⟩
      case measure => simp [intOf]; omega
    · obtain rfl : j = L.length := by omega
      have HB9 := Lib.hid (by have := hB.out; rwa [List.take_length] at this)
      have HS := Lib.hid (fun u (hu : Ext w u) (h : IsB u w.heap.size w.heap.size (UInt8.ofNat L.length :: rowsL L)) => string_b w.heap.size w.heap.size _ u h hu.size)
      go_wp2_with (go_at_call 56; refine (HS.out _ hX.out HB9.out).mono ?_; rintro e1 w9 ⟨rfl, x9⟩)
      go_ret
      exact ⟨rfl, hX.out.trans3 x9⟩
end Go.Proofs.YtdnpgmoiapkhnaaDoor
end

section
namespace Go.Proofs.YtdnpgmoiapkhnaaDoor
open Go.RowKit

set_option maxRecDepth 100000 in
set_option maxHeartbeats 4000000 in
theorem same13_any (w : World) (r b : Nat) (L : List (Nat × ByteArray)) (h : IsK w r b L) (B d : Nat) (p : Option Addr) (c : Nat) (hd : IsR w B d p c L) :
    Calls Tryd.prog 14 #[.pointer (some ⟨r, 0, none⟩), .pointer (some ⟨d, 0, none⟩)] w fun e w' => e = .returned (.bool true) ∧ Ext w w' := by
  have h64 := h.good.few
  have HK := Lib.hid h; have HR := Lib.hid hd
  have HE := Lib.hid (epochs_n w r b L h L.length rfl)
  have HN := Lib.hid (fun u (hu : IsK u r b L) => newest_any u r b L hu)
  have HNr := Lib.hid (fun u (hu : IsR u B d p c L) (hG : GoodK L) => rnewestK_any u B d p c L hu hG)
  have HB := Lib.hid (fun u (hu : IsK u r b L) => bytes_any u r b L hu)
  have HBr := Lib.hid (fun u (hu : IsR u B d p c L) (hG : GoodK L) => rbytesK_any u B d p c L hu hG)
  clear h hd
  generalize top (eps L) = tp at *
  generalize (⟨(ringL L).toArray⟩ : ByteArray) = BS at *
  go_enter Tryd.func14, Tryd.ntmps14
  go_wp2_with (first
    | (go_at_call 27; refine (HE.out).mono ?_; rintro e w1 ⟨g, ce, rfl, e1, x1⟩; have E := Lib.hid e1; have K := Lib.hid (HK.out.ext x1); have R := Lib.hid (HR.out.ext x1); have X := Lib.hid x1; have c1 := R.out.ring.cell 0 _ rfl; clear e1)
    | (go_at_call 20; refine (HN.out _ K.out).mono ?_; rintro e w2 ⟨rfl, x2⟩; replace E := Lib.hid (E.out.ext x2); replace K := Lib.hid (K.out.ext x2); replace R := Lib.hid (R.out.ext x2); replace X := Lib.hid (X.out.trans x2))
    | (go_at_call 29; refine (HNr.out _ R.out K.out.good).mono ?_; rintro e w3 ⟨rfl, x3⟩; replace E := Lib.hid (E.out.ext x3); replace K := Lib.hid (K.out.ext x3); replace R := Lib.hid (R.out.ext x3); replace X := Lib.hid (X.out.trans x3))
    | (go_at_call 36; refine (HB.out _ K.out).mono ?_; rintro e w4 ⟨rfl, x4⟩; replace E := Lib.hid (E.out.ext x4); replace K := Lib.hid (K.out.ext x4); replace R := Lib.hid (R.out.ext x4); replace X := Lib.hid (X.out.trans x4))
    | (go_at_call 11; refine (HBr.out _ R.out K.out.good).mono ?_; rintro e w5 ⟨rfl, x5⟩; replace E := Lib.hid (E.out.ext x5); replace K := Lib.hid (K.out.ext x5); replace R := Lib.hid (R.out.ext x5); replace X := Lib.hid (X.out.trans x5)))
  clear c1
  go_loopw [6] (fun iv wr => ∃ j : Nat, j ≤ L.length ∧ iv = .int .i64 (j : Int) ∧ Hid (IsE wr w.heap.size g ce (eps L)) ∧ Hid (IsR wr B d p c L) ∧ Hid (Ext w wr)) (fun iv _ => L.length - (intOf iv).toNat)
  case atStart => exact ⟨0, Nat.zero_le _, rfl, E, R, X⟩
  case round =>
    obtain ⟨j, hj, rfl, HEr, HRr, HXr⟩ := hrel
    clear E R X K
    by_cases hlt : j < L.length
    · have hlti : (j : Int) < (L.length : Int) := by omega
      obtain ⟨x, hx⟩ : ∃ x, L[j]? = some x := ⟨_, List.getElem?_eq_getElem hlt⟩
      have hle : j < (eps L).length := by unfold eps; rw [List.length_map]; exact hlt
      have hex : (eps L)[j] = x.1 := by
        have h2 := (List.getElem?_eq_some_iff.1 hx).2
        simp [eps, h2]
      have c1 := HEr.out.at_ j x.1 hle hex
      have c2 := HRr.out.ring.cell 0 _ rfl
      obtain ⟨g2, rfl, _, c3, _⟩ := HRr.out.at_ hx
      clear hx hle hex
      generalize x.1 = y at *
      go_wp2_with (fail)
      go_quiet (fail)
      go_wp2
      go_roundw
      case rel => exact ⟨j + 1, by omega, by go_num, Lib.hid (HEr.out.ext ((Ext.refl _).drewN _)), Lib.hid (HRr.out.ext ((Ext.refl _).drewN _)), Lib.hid (HXr.out.drewN _)⟩
      case measure => simp [intOf]; omega
    · have hlti : ¬ (j : Int) < (L.length : Int) := by omega
      go_wp2
      go_ret
      exact ⟨rfl, HXr.out⟩
end Go.Proofs.YtdnpgmoiapkhnaaDoor
end
