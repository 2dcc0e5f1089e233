/- Contract: what is mended where the log is one segment. Contract: a log opened, where it is one segment. Contract: a log opened, where it is one segment. Contracts: whether a file is one of the log's; files that are free. Contract: so many files that are free, the least ones. Contract: a checkpoint. Contract: what records need, where they all go to the last file. A drawn region inside a fence, by an invariant. Contract: the calls that append records, where they all go to the last file. Contract: records appended, where they all go to the last file. Contract: files, copied. Contracts: New, Crash. Contract: Crash. Plain: the law's own log and its disk, call by call. Contracts: the calls of the law's own log, one by one. Contracts: the appends and the checkpoint of the law's own log. Contract: whether two lists of texts are the same, by the document. Contract: the law's own log. The walk of the law of a log that is none. Contract: the law's log, which its disk is too large for. The walk of the law of what is reserved: the law's log is never made. The walk of the law of the room: the law's log is never made. A slice of WalConf among a law's arguments, opened: what its walk asks of it. (Printed by mkopen.py.) The walk of the law of a log that is none, as its frame calls it. -/
import Derived.Test.YtbekdcpdfmfopaaGreatM43
import Derived.Deep.RegionHeld3
import Derived.Test.YtbekdcpdfmfopaaGreatWalN
import Derived.Test.YtbekdcpdfmfopaaGreatM14
import Derived.StillTailTactics
import Derived.Test.YtbekdcpdfmfopaaGreatFScan
import Derived.RangeFuncBox
import Derived.Test.YtbekdcpdfmfopaaGreatM10
import Derived.OrdersIn
import Derived.Test.YtbekdcpdfmfopaaGreatM28
import Derived.Test.YtbekdcpdfmfopaaGreatM27
import Derived.Laws.Tables
import Derived.Test.YtbekdcpdfmfopaaGreatM32
import Derived.Test.YtbekdcpdfmfopaaGreatM06
import Derived.Test.YtbekdcpdfmfopaaGreatM01
import Derived.Test.YtbekdcpdfmfopaaGreatM05
import Derived.Lib.Strings
import Derived.Deep.QuietTactic
import Derived.BigQuiet
import Derived.Outline
import Derived.Test.YtbekdcpdfmfopaaGreatM02
import Derived.Deep.Slices
import Derived.Deep.Fields
import Derived.ChangeArms
import Derived.Lib.SmallJoins
section
namespace Go.Proofs.YtbekdcpdfmfopaaGreat
open Go.RowKit

theorem ne_nil_of_size {t : ByteArray} (h : t.size ≠ 0) : (t.toList == []) = false := by
  rw [ByteArray.toList_eq]
  cases hq : (t.data.toList == []) with
  | false => rfl
  | true =>
    have := beq_iff_eq.1 hq
    exact absurd (by rw [← size_list, this]; rfl) h
/-- The calls that mend it. -/
def mendC (x : Seg) (f u : Nat) : List WC := if x.w = true then [] else [.cut (f : Int) (u : Int), .sync]
set_option maxRecDepth 100000 in
set_option maxHeartbeats 4000000 in
theorem mend_whole (w : World) (b : Nat) (v1 v2 : Value) (x : Seg) (f : Nat) (h1 : OneS w v1 x) (h2 : OneI w v2 f) (hw : x.w = true) (p : Option Addr) (c : Nat) (l : List ByteArray) (h : TextsP w p l) (hl : l.length ≤ 1000) (t : ByteArray) (hf : l[f]? = some t) (ht : t.size ≠ 0) (hoth : ∀ i y, l[i]? = some y → i ≠ f → y = ⟨#[]⟩) :
    Calls Tryz.prog 47 #[.pointer (some ⟨b, 0, none⟩), .slice p l.length c, v1, v2] w fun e w' => e = .returned (.slice none 0 0) ∧ Ext w w' := by
  have HCo := Lib.hid (fun u (hu : Ext w u) => contains_one u v2 f (h2.ext hu))
  obtain ⟨g1, c1, tq, tc, rfl, hg1, htx, hcs⟩ := h1.cells
  obtain ⟨g2, c2, rfl, hg2, hc2⟩ := h2
  obtain ⟨k0, k1, k2, k3, k4, k5, k6⟩ := hcs w (Ext.refl w)
  rw [hw] at k6
  have HT := Lib.hid (fun u (hu : Ext w u) => h.ext hu)
  have HO := Lib.hid hoth; have HF := Lib.hid hf; have HNe := Lib.hid (ne_nil_of_size ht)
  have HX0 := Lib.hid ((Ext.refl w).alloc (.cells #[.int .u8 (x.k : Int), .int .u64 (x.g : Int), .int .u64 (x.f : Int), .string x.t, .slice tq x.r.length tc, .int .i64 x.u, .bool true] 119))
  clear hcs htx h hoth hf ht hc2
  go_enter Tryz.func47, Tryz.ntmps47
  go_wp2
  go_loopw [9, 34] (fun rv iv wr => ∃ j : Nat, j ≤ l.length ∧ iv = .int .i64 (j : Int) ∧ rv = .slice none 0 0 ∧ Ext w wr) (fun _ iv _ => l.length - (intOf iv).toNat)
  case atStart => exact ⟨0, Nat.zero_le _, rfl, rfl, HX0.out⟩
  case round =>
    obtain ⟨j, hj, rfl, rfl, hx⟩ := hrel
    have HX := Lib.hid hx
    clear hx
    by_cases hlt : j < l.length
    · obtain ⟨y, hy⟩ : ∃ y, l[j]? = some y := ⟨_, List.getElem?_eq_getElem hlt⟩
      obtain ⟨a, e, _, hc⟩ := HT.out wr HX.out j y hy
      subst e
      by_cases hjf : j = f
      · subst hjf
        obtain rfl : y = t := by have := HF.out; rw [hy] at this; injection this
        have hne := HNe.out
        clear hy
        go_wp2_with (go_at_call 71; refine (HCo.out _ HX.out).mono ?_; rintro e w1 ⟨rfl, rfl⟩)
        go_roundw
        case rel => exact ⟨j + 1, hlt, by go_num, rfl, HX.out⟩
        case measure => simp [intOf]; omega
      · obtain rfl := HO.out j y hy hjf
        clear hy
        go_wp2
        go_roundw
        case rel => exact ⟨j + 1, hlt, by go_num, rfl, HX.out⟩
        case measure => simp [intOf]; omega
    · obtain rfl : j = l.length := by omega
      go_wp2_with (go_at_call 67; refine (synced_nil _ _).mono ?_; rintro e w1 ⟨rfl, rfl⟩)
      go_ret
      exact ⟨rfl, HX.out⟩
set_option maxRecDepth 100000 in
set_option maxHeartbeats 4000000 in
theorem mend_cut (w : World) (b bd : Nat) (κ μ : Foot) (s : WS) (d : DS) (hls : LS w b bd κ μ s d) (k : s.Ok) (v1 v2 : Value) (x : Seg) (f u : Nat) (hP : s.P = [(f, u)]) (hxu : x.u = (u : Int)) (h1 : OneS w v1 x) (h2 : OneI w v2 f) (hw : x.w = false) (p : Option Addr) (c : Nat) (l : List ByteArray) (h : TextsP w p l) (hl : l.length ≤ 1000) (t : ByteArray) (hf : l[f]? = some t) (ht : t.size ≠ 0) (hoth : ∀ i y, l[i]? = some y → i ≠ f → y = ⟨#[]⟩) :
    Calls Tryz.prog 47 #[.pointer (some ⟨b, 0, none⟩), .slice p l.length c, v1, v2] w fun e w' => ∃ p' c' κ', e = .returned (.slice p' 2 c') ∧ RowS w' b bd κ' μ p' c' [.cut (f : Int) (u : Int), .sync] ∧ LR w' b bd κ' μ s d ∧ Fr κ (fun j => j = 4) w w' κ' := by
  have HCo := Lib.hid (fun u (hu : Ext w u) => contains_one u v2 f (h2.ext hu))
  obtain ⟨g1, c1, tq, tc, rfl, hg1, htx, hcs⟩ := h1.cells
  obtain ⟨g2, c2, rfl, hg2, hc2⟩ := h2
  obtain ⟨k0, k1, k2, k3, k4, k5, k6⟩ := hcs w (Ext.refl w)
  rw [hw] at k6
  rw [hxu] at k5
  have HT := Lib.hid (fun u (hu : Ext w u) => h.ext hu)
  have HO := Lib.hid hoth; have HF := Lib.hid hf; have HNe := Lib.hid (ne_nil_of_size ht)
  have hx0 : Ext w (w.alloc (.cells #[.int .u8 (x.k : Int), .int .u64 (x.g : Int), .int .u64 (x.f : Int), .string x.t, .slice tq x.r.length tc, .int .i64 (u : Int), .bool false] 119)) := (Ext.refl w).alloc _
  have hb0 : Blk (w.alloc (.cells #[.int .u8 (x.k : Int), .int .u64 (x.g : Int), .int .u64 (x.f : Int), .string x.t, .slice tq x.r.length tc, .int .i64 (u : Int), .bool false] 119)) w.heap.size 119 [.int .u8 (x.k : Int), .int .u64 (x.g : Int), .int .u64 (x.f : Int), .string x.t, .slice tq x.r.length tc, .int .i64 (u : Int), .bool false] := Blk.new w _ _
  have HX0 := Lib.hid hx0
  have HLa := Lib.hid (fun z (hz : Ext w z) => wlast_any z b bd κ s (hls.wal.ext hz) k (f, u) (by rw [hP]; rfl))
  have HCu := Lib.hid (fun z (hz : Ext w z) => mkcut_lr z b bd κ μ s d (hls.ext hz).lr (f : Int) (u : Int))
  have hfd := fun z => field_part0 (f : Int) (u : Int) z
  have HLs := Lib.hid (fun z (hz : Ext w z) => (hls.ext hz).lr)
  clear hcs htx h hoth hf ht hc2 hls hP k hx0
  go_enter Tryz.func47, Tryz.ntmps47
  go_upto_region 4 with (fail)
  have HP5 := Lib.hid (fun z (hz : Ext (w.alloc (.cells #[.int .u8 (x.k : Int), .int .u64 (x.g : Int), .int .u64 (x.f : Int), .string x.t, .slice tq x.r.length tc, .int .i64 (u : Int), .bool false] 119)) z) => (⟨(hb0.ext hz).cell 5 _ rfl, HX0.out.trans hz⟩ : z.cell? ⟨w.heap.size, 5, none⟩ = some (.int .i64 (u : Int)) ∧ Ext w z))
  clear k0 k1 k2 k3 k4 k5 k6 hb0
  generalize w.alloc (.cells #[.int .u8 (x.k : Int), .int .u64 (x.g : Int), .int .u64 (x.f : Int), .string x.t, .slice tq x.r.length tc, .int .i64 (u : Int), .bool false] 119) = W1 at *
  have x0 : Ext W1 W1.drew := (Ext.refl W1).drew
  have HPs := Lib.hid (fun z (hz : Ext W1 z) => (⟨(HP5.out z hz).1, (HP5.out z hz).2, hz⟩ : z.cell? ⟨w.heap.size, 5, none⟩ = some (.int .i64 (u : Int)) ∧ Ext w z ∧ Ext W1 z))
  have hS := HPs.out _ x0
  go_region_held3 (fun z => z.cell? ⟨w.heap.size, 5, none⟩ = some (.int .i64 (u : Int)) ∧ Ext w z ∧ Ext W1 z) (first | exact hS | exact hS1 | exact hS2 | exact hS3 | assumption | exact HPs.out _ (by repeat' (first | assumption | exact Ext.refl _ | refine Ext.drew ?_ | refine Ext.alloc ?_ _)) | go_keep) (first
    | (go_at_call 63; refine (HLa.out _ (by first | exact hS.2.1 | exact hS1.2.1 | assumption)).mono ?_; rintro e w1 ⟨rfl, x1⟩; have y1 := Ext.trans (a := W1) (by assumption) x1; have hS1 := HPs.out _ y1)
    | (go_at_call 58; refine (HCu.out _ (by first | assumption | exact hS1.2.1)).mono ?_; rintro e w2 ⟨v2, rfl, hv2, ho2, x2⟩; have y2 := Ext.trans (a := W1) (by assumption) x2; have hS2 := HPs.out _ y2; have HV2 := Lib.hid hv2; obtain ⟨vx, vy, vz, rfl, _⟩ := hv2)
    | (refine step_first_call (b := b) (bd := bd) (κ := κ) (μ := μ) (s := s) (d := d) (c := .cut (f : Int) (u : Int)) rfl (.tmp 22) (.tmp 30) rfl (HLs.out _ (by repeat' (first | assumption | exact hS2.2.1 | exact Ext.refl _ | refine Ext.drew ?_ | refine Ext.alloc ?_ _))) (by simp [Act.eval]) _ (by rfl) ((Blk.new _ _ _).ext (by repeat' (first | assumption | exact Ext.refl _ | refine Ext.drew ?_ | refine Ext.alloc ?_ _))) rfl (HV2.out.ext (by repeat' (first | assumption | exact Ext.refl _ | refine Ext.drew ?_ | refine Ext.alloc ?_ _))) ?_; intro p7 c7 w7 κ7 h7 l7 f7 x7; have y7 := Ext.trans (a := W1) (by repeat' (first | assumption | exact Ext.refl _ | refine Ext.drew ?_ | refine Ext.alloc ?_ _)) x7; have hS3 := HPs.out _ y7))
  all_goals
    have HR7 := Lib.hid h7; have HL7 := Lib.hid l7; have HX7 := Lib.hid hS3.2.1
    have HF7 := Lib.hid (Fr.trans (Ext.fr (w := w) (by repeat' (first | assumption | exact hS2.2.1 | exact Ext.refl _ | refine Ext.drew ?_ | refine Ext.alloc ?_ _)) κ (fun j => j = 4)) f7)
    clear hS hS1 hS2 hS3 h7 l7 f7 y1 y2 y7 x1 x2 x7 HV2 ho2
    go_wp2
    go_loopw [9, 34] (fun rv iv wr => ∃ j : Nat, j ≤ l.length ∧ iv = .int .i64 (j : Int) ∧ rv = .slice p7 1 c7 ∧ Ext w7 wr) (fun _ iv _ => l.length - (intOf iv).toNat)
    case atStart => exact ⟨0, Nat.zero_le _, rfl, rfl, Ext.refl _⟩
    case round =>
      obtain ⟨j, hj, rfl, rfl, hx⟩ := hrel
      have HX := Lib.hid hx
      clear hx
      by_cases hlt : j < l.length
      · obtain ⟨y, hy⟩ : ∃ y, l[j]? = some y := ⟨_, List.getElem?_eq_getElem hlt⟩
        obtain ⟨a, e, _, hc⟩ := HT.out wr (HX7.out.trans HX.out) j y hy
        subst e
        by_cases hjf : j = f
        · subst hjf
          obtain rfl : y = t := by have := HF.out; rw [hy] at this; injection this
          have hne := HNe.out
          clear hy
          go_wp2_with (go_at_call 71; refine (HCo.out _ (HX7.out.trans HX.out)).mono ?_; rintro e w1 ⟨rfl, rfl⟩)
          go_roundw
          case rel => exact ⟨j + 1, hlt, by go_num, rfl, HX.out⟩
          case measure => simp [intOf]; omega
        · obtain rfl := HO.out j y hy hjf
          clear hy
          go_wp2
          go_roundw
          case rel => exact ⟨j + 1, hlt, by go_num, rfl, HX.out⟩
          case measure => simp [intOf]; omega
      · obtain rfl : j = l.length := by omega
        have HSy := Lib.hid (synced_one (HL7.out.ext HX.out) p7 c7 _ (HR7.out.ext HX.out))
        go_wp2_with (go_at_call 67; refine (HSy.out).mono ?_; rintro e w8 ⟨p8, c8, κ8, rfl, h8, l8, f8⟩; have HR8 := Lib.hid h8; have HL8 := Lib.hid l8; have HF8 := Lib.hid f8; clear h8 l8 f8)
        go_ret
        exact ⟨p8, c8, κ8, rfl, HR8.out, HL8.out, (HF7.out.ext HX.out).trans HF8.out⟩
end Go.Proofs.YtbekdcpdfmfopaaGreat
end

section
namespace Go.Proofs.YtbekdcpdfmfopaaGreat
open Go.RowKit

theorem mend_any (w : World) (b bd : Nat) (κ μ : Foot) (s : WS) (d : DS) (hls : LS w b bd κ μ s d) (k : s.Ok) (v1 v2 : Value) (x : Seg) (f u : Nat) (hP : s.P = [(f, u)]) (hxu : x.u = (u : Int)) (h1 : OneS w v1 x) (h2 : OneI w v2 f) (p : Option Addr) (c : Nat) (l : List ByteArray) (h : TextsP w p l) (hl : l.length ≤ 1000) (t : ByteArray) (hf : l[f]? = some t) (ht : t.size ≠ 0) (hoth : ∀ i y, l[i]? = some y → i ≠ f → y = ⟨#[]⟩) :
    Calls Tryz.prog 47 #[.pointer (some ⟨b, 0, none⟩), .slice p l.length c, v1, v2] w fun e w' => ∃ p' c' κ', e = .returned (.slice p' (mendC x f u).length c') ∧ RowS w' b bd κ' μ p' c' (mendC x f u) ∧ LR w' b bd κ' μ s d ∧ Fr κ (fun j => j = 4) w w' κ' := by
  by_cases hw : x.w = true
  · refine (mend_whole w b v1 v2 x f h1 h2 hw p c l h hl t hf ht hoth).mono ?_
    rintro e w' ⟨rfl, hx⟩
    rw [show mendC x f u = [] by unfold mendC; rw [if_pos hw]]
    exact ⟨none, 0, κ, rfl, RowS.nil _ _ _ _ _, (hls.ext hx).lr, hx.fr κ _⟩
  · have hw' : x.w = false := by simpa using hw
    rw [show mendC x f u = [.cut (f : Int) (u : Int), .sync] by unfold mendC; rw [if_neg hw]]
    exact mend_cut w b bd κ μ s d hls k v1 v2 x f u hP hxu h1 h2 hw' p c l h hl t hf ht hoth
/-- A log that was taken, beside its disk. -/
theorem LS.taken {w0 W1 w : World} {b bd n : Nat} {κt μ : Foot} {s : WS} {d : DS} {q : Option Addr} {qc : Nat} (h0 : IsD w0 bd μ d) (h01 : Ext w0 W1) (h1 : Ext W1 w) (hb1 : W1.heap.size ≤ b) (hb : Blk w b 61 (wcells bd s (.slice q n qc))) (hn : s.P.length = n) (hS : Sl w κt 3 2 75 q n qc (pcells s.P)) (hz : ∀ g, κt g ≠ 0 → κt g = 3 ∧ b < g ∧ g < w.heap.size) :
    LS w b bd (setK κt b 2) μ s d ∧ Fr2 (fun _ => 0) μ w0 w (setK κt b 2) μ := by
  subst hn
  have hx := h01.trans h1
  have hs := h01.size
  have hk : ∀ g, setK κt b 2 g ≠ 0 → b ≤ g ∧ g < w.heap.size := fun g hg => by
    by_cases e : g = b
    · subst e; exact ⟨Nat.le_refl _, hb.lt⟩
    · rw [setK_other _ _ e] at hg; have := hz g hg; omega
  refine ⟨⟨⟨⟨q, qc, hb, hS.same (fun _ _ _ => rfl) (fun g _ e => ?_)⟩, setK_same _ _ _, fun g hg => (hk g hg).2⟩, h0.ext hx, fun g hg => Classical.byContradiction fun e => ?_, fun g => ?_⟩, ⟨hx.os, hx.tape, hx.output, hx.size, fun g hg _ _ => hx.block g hg, fun g hg => Classical.byContradiction fun e => ?_, fun _ _ => rfl⟩⟩
  · by_cases e2 : g = b
    · have := hz g (by rw [e]; decide); omega
    · rw [setK_other _ _ e2]; exact e
  · have := (hk g hg).1; have := h0.ins g e; omega
  · by_cases e : g = b
    · rw [e, setK_same]; decide
    · rw [setK_other _ _ e]
      by_cases e2 : κt g = 0
      · omega
      · have := (hz g e2).1; omega
  · have := (hk g e).1; omega
end Go.Proofs.YtbekdcpdfmfopaaGreat
end

section
namespace Go.Proofs.YtbekdcpdfmfopaaGreat
open Go.RowKit

theorem LS.aside {w w' : World} {b bd : Nat} {κ μ : Foot} {s : WS} {d : DS} (h : LS w b bd κ μ s d) (r : Nat) (ho : ∀ g, g ≠ r → w'.heap[g]? = w.heap[g]?) (hsz : w.heap.size ≤ w'.heap.size) (hk : κ r = 0) (hm : μ r = 0) : LS w' b bd κ μ s d := by
  obtain ⟨q, c, k1, k2⟩ := h.wal.lay
  exact ⟨⟨⟨q, c, (ho b (fun e => by rw [← e, h.wal.kind] at hk; cases hk)).trans k1, k2.same (fun g _ e => ho g (fun e2 => by rw [e2, hk] at e; cases e)) (fun _ _ e => e)⟩, h.wal.kind, fun g hg => Nat.lt_of_lt_of_le (h.wal.ins g hg) hsz⟩, h.disk.keep (fun g hl hm2 => ho g (fun e => hm2 (by rw [e]; exact hm))) hsz, h.apart, h.low⟩
theorem results_open {fn : Func} {p u v : Tmp} (h : fn.results = #[.tmp v, .cell p 50, .tmp u]) (tmps : Array Value) (w : World) (g : Nat) (t : TypeId) (a b c : Value) (fr : Nat × Nat)
    (hp : tmps.getD p undef = .pointer (some ⟨g, 0, none⟩)) (hg : w.heap[g]? = some (.cells #[a, b, c] t fr)) :
    (results fn tmps).run Tryz.prog w = .ok (.tuple #[tmps.getD v undef, .agg #[a, b, c], tmps.getD u undef]) w := by
  have hp' : tmps[p]?.getD undef = .pointer (some ⟨g, 0, none⟩) := by simpa using hp
  simp [results, h, hp', asAddr, load_kept w g t a b c fr hg]
set_option maxRecDepth 100000 in
set_option maxHeartbeats 1600000 in
theorem open_one (nf sz ck : Nat) (h1 : 2 ≤ nf ∧ nf ≤ 16) (h2 : 64 ≤ sz ∧ sz ≤ 4194304) (h3 : 32 ≤ ck ∧ ck ≤ 4194304) (w : World) (bd : Nat) (μ : Foot) (d : DS) (h : IsD w bd μ d) (hm : d.m = nf) (hfu : d.fuse ≠ 0) (hsz : ∀ y ∈ filesD d, y.size ≤ 1000000) (f : Nat) (t : ByteArray) (hf : (filesD d)[f]? = some t) (ht : t.size ≠ 0) (hoth : ∀ i y, (filesD d)[i]? = some y → i ≠ f → y = ⟨#[]⟩) (x : Seg) (hx : parseF t = (x, 0)) (he : (parseF ⟨#[]⟩).2 ≠ 0) (hrow : rowS [x] = ([0], 0)) (hxf : x.f < 18446744073709551616 ∧ x.r.length ≤ 1000000) (hxne : x.r ≠ []) (u : Nat) (hxu : x.u = (u : Int)) (k : (takenS (newS nf sz ck) x f u).Ok) (s9 : WS) (d9 : DS) (hok : okF (mendC x f u) (takenS (newS nf sz ck) x f u) d) (hdo : doF (mendC x f u) (takenS (newS nf sz ck) x f u) d = (s9, d9, 0)) :
    Calls Tryz.prog 20 #[.pointer (some ⟨bd, 0, none⟩), cfV nf sz ck] w fun e w' => ∃ b κ' μ' p c, e = .returned (.tuple #[.pointer (some ⟨b, 0, none⟩), .agg #[.string x.t, .int .u64 (x.f : Int), .slice p x.r.length c], .int .i64 0]) ∧ TextsP w' p x.r ∧ (∀ a : Addr, p = some a → Free κ' μ' w' a.block) ∧ LS w' b bd κ' μ' s9 d9 ∧ Fr2 (fun _ => 0) μ w w' κ' μ' := by
  have HFi := Lib.hid (fun u (hu : Ext w u) => fits_any (nf : Int) (sz : Int) (ck : Int) (by omega) (by omega) (by omega) u bd μ d (h.ext hu))
  rw [if_pos (by rw [hm])] at HFi
  have HRd := Lib.hid (fun u (hu : Ext w u) => read_any u bd μ d (h.ext hu) hfu)
  have hfl := filesD_length d
  have hm16 := h.ok.m16
  have HLo := Lib.hid (fun z p c (hp : TextsP z p (filesD d)) => logOf_one z p c (filesD d) hp (by omega) hsz f t hf x hx (fun i y hy hi => by rw [hoth i y hy hi]; exact he) hrow ⟨hxf.1, by omega⟩)
  have HMe := Lib.hid (fun z b κ (hls : LS z b bd κ μ (takenS (newS nf sz ck) x f u) d) v1 v2 (g1 : OneS z v1 x) (g2 : OneI z v2 f) p c (hp : TextsP z p (filesD d)) => mend_any z b bd κ μ _ d hls k v1 v2 x f u rfl hxu g1 g2 p c (filesD d) hp (by omega) t hf ht hoth)
  rw [hfl] at HLo HMe
  have HTk := Lib.hid (fun W1 z (hz : Ext W1 z) b (hb1 : W1.heap.size ≤ b) (hb : Blk z b 61 (wcells bd (newS nf sz ck) (.slice none 0 0))) v1 v2 (g1 : OneS W1 v1 x) (g2 : OneI W1 v2 f) => take_one W1 z hz b bd hb1 nf sz ck hb x f u v1 v2 g1 g2 hxu hxf.2 hxne)
  have HI := Lib.hid h
  have hx2 : Ext w ((w.alloc (.cells #[.int .i64 (nf : Int), .int .i64 (sz : Int), .int .i64 (ck : Int)] 46)).alloc (.cells #[.string ⟨#[]⟩, .int .u64 0, .slice none 0 0] 50)) := ((Ext.refl w).alloc _).alloc _
  have HX2 := Lib.hid hx2
  have hc2 := (Blk.new w [.int .i64 (nf : Int), .int .i64 (sz : Int), .int .i64 (ck : Int)] 46).alloc (.cells #[.string ⟨#[]⟩, .int .u64 0, .slice none 0 0] 50)
  have HC2 := Lib.hid hc2
  have HK2 := Lib.hid (Blk.new1 w (.cells #[.int .i64 (nf : Int), .int .i64 (sz : Int), .int .i64 (ck : Int)] 46) [.string ⟨#[]⟩, .int .u64 0, .slice none 0 0] 50)
  have HOk := Lib.hid hok; have HDo := Lib.hid hdo
  have HMl : Hid ((mendC x f u).length ≤ 1000000) := Lib.hid (by unfold mendC; split <;> simp)
  obtain ⟨y0, hy0⟩ : ∃ y, x.r[0]? = some y := by
    rcases hq : x.r with _ | ⟨y0, r0⟩
    · exact absurd hq hxne
    · exact ⟨y0, rfl⟩
  have HY0 := Lib.hid hy0
  clear h h1 h2 h3 hm hfu hsz hf ht hoth hx he hrow hxf hxne hxu hok hdo hfl hm16 hx2 k hy0
  have c0 := hc2.cell 0 _ rfl
  have c1 := hc2.cell 1 _ rfl
  have c2 := hc2.cell 2 _ rfl
  clear hc2
  unfold cfV at HFi ⊢
  go_enter Tryz.func20, Tryz.ntmps20
  go_upto_region 10 with (first
    | (go_at_call 41; refine (HFi.out _ HX2.out).mono ?_; rintro e w1 ⟨rfl, x1⟩; have X1 := Lib.hid (HX2.out.trans x1); have C1 := Lib.hid (HC2.out.ext x1); have K1 := Lib.hid (HK2.out.ext x1); clear x1)
    | (go_at_call 42; refine (HRd.out _ X1.out).mono ?_; rintro e w3 ⟨q, rfl, ht3, x3⟩; have X3 := Lib.hid (X1.out.trans x3); have C3 := Lib.hid (C1.out.ext x3); have K3 := Lib.hid (K1.out.ext x3); have HLg := Lib.hid (HLo.out w3 (some q) d.m ht3); have T3 := Lib.hid ht3; clear x3 ht3)
    | (go_at_call 45; refine (HLg.out).mono ?_; rintro e w4 ⟨v1, v2, rfl, o1, o2, x4⟩; have X4 := Lib.hid (X3.out.trans x4); have C4 := Lib.hid (C3.out.ext x4); have K4 := Lib.hid (K3.out.ext x4); have T4 := Lib.hid (T3.out.ext x4); have O1 := Lib.hid o1; have O2 := Lib.hid o2; have d0 := (C3.out.ext x4).cell 0 _ rfl; have d1 := (C3.out.ext x4).cell 1 _ rfl; have d2 := (C3.out.ext x4).cell 2 _ rfl; clear x4 o1 o2))
  go_upto_region 11 with (fail)
  have hB5 := Blk.new w4 (wcells bd (newS nf sz ck) (.slice none 0 0)) 61
  rw [show (wcells bd (newS nf sz ck) (.slice none 0 0)).toArray = #[.pointer (some ⟨bd, 0, none⟩), .int .i64 (nf : Int), .int .i64 (sz : Int), .int .i64 (ck : Int), .int .u64 0, .int .u64 0, .int .u64 0, .slice none 0 0, .int .i64 0, .int .i64 0] from rfl] at hB5
  have HX5 := Lib.hid ((Ext.refl w4).alloc (.cells #[.pointer (some ⟨bd, 0, none⟩), .int .i64 (nf : Int), .int .i64 (sz : Int), .int .i64 (ck : Int), .int .u64 0, .int .u64 0, .int .u64 0, .slice none 0 0, .int .i64 0, .int .i64 0] 61))
  have HTa := Lib.hid (HTk.out w4 _ HX5.out w4.heap.size (Nat.le_refl _) hB5 v1 v2 O1.out O2.out)
  obtain ⟨b, hbE⟩ : ∃ b, b = w4.heap.size := ⟨_, rfl⟩
  have HBe := Lib.hid hbE
  rw [← hbE] at HTa ⊢
  clear hB5 hbE d0 d1 d2
  generalize w4.alloc (.cells #[.pointer (some ⟨bd, 0, none⟩), .int .i64 (nf : Int), .int .i64 (sz : Int), .int .i64 (ck : Int), .int .u64 0, .int .u64 0, .int .u64 0, .slice none 0 0, .int .i64 0, .int .i64 0] 61) = w5 at *
  go_upto_region 12 with (go_at_call 46; refine (HTa.out).mono ?_; rintro e w6 ⟨p6, c6, q6, qc6, κ6, rfl, t6, u6, x6, b6, s6, z6⟩; have T6 := Lib.hid t6; have U6 := Lib.hid u6; have X6 := Lib.hid x6; have B6 := Lib.hid b6; have S6 := Lib.hid s6; have Z6 := Lib.hid z6; clear t6 u6 x6 b6 s6 z6)
  have hbe := HBe.out
  obtain ⟨hls6, hfr6⟩ := LS.taken (s := takenS (newS nf sz ck) x f u) HI.out X4.out X6.out (by omega) B6.out rfl S6.out Z6.out
  have hrb : w.heap.size + 1 < b := by rw [hbe]; exact K4.out.lt
  have hkr : setK κ6 b 2 (w.heap.size + 1) = 0 := by
    rw [setK_other _ _ (by omega)]
    exact Classical.byContradiction fun e => by have := (Z6.out _ e).2.1; omega
  have hmr : μ (w.heap.size + 1) = 0 := Classical.byContradiction fun e => by have := HI.out.ins _ e; omega
  have HKt : Hid (∀ a : Addr, p6 = some a → b < a.block ∧ setK κ6 b 2 a.block = 0 ∧ μ a.block = 0) := Lib.hid (fun a ea => by
    obtain ⟨g1, g2⟩ := U6.out a ea
    exact ⟨g1, by rw [setK_other _ _ (by omega)]; exact g2, Classical.byContradiction fun e => by have := HI.out.ins _ e; omega⟩)
  have hkk : setK κ6 b 2 w6.heap.size = 0 := Classical.byContradiction fun e => by have := hls6.wal.ins _ e; omega
  have hmk : μ w6.heap.size = 0 := Classical.byContradiction fun e => by have := hls6.disk.ins _ e; omega
  generalize setK κ6 b 2 = κL at *
  have hx7 : Ext w6 (w6.alloc (.cells #[.string x.t, .int .u64 (x.f : Int), .slice p6 x.r.length c6] 50)) := (Ext.refl w6).alloc _
  have HK7 := Lib.hid (Blk.new w6 [.string x.t, .int .u64 (x.f : Int), .slice p6 x.r.length c6] 50)
  have HR7 := Lib.hid ((K4.out.ext X6.out).ext hx7)
  have HL7 := Lib.hid (hls6.ext hx7)
  have HF7 := Lib.hid (hfr6.trans (hx7.fr2 κL μ))
  have HM7 := Lib.hid (HMe.out _ b κL (hls6.ext hx7) v1 v2 ((O1.out.ext X6.out).ext hx7) ((O2.out.ext X6.out).ext hx7) (some q) d.m ((T4.out.ext X6.out).ext hx7))
  have HT7 := Lib.hid (T6.out.ext hx7)
  obtain ⟨kb, hkb⟩ : ∃ kb, kb = w6.heap.size := ⟨_, rfl⟩
  rw [← hkb] at HK7 hkk hmk ⊢
  have hbk : b < kb := by rw [hkb]; exact B6.out.lt
  simp only [List.toArray] at HK7
  clear hls6 hfr6 hx7 hkb
  generalize w6.alloc (.cells #[.string x.t, .int .u64 (x.f : Int), .slice p6 x.r.length c6] 50) = w7 at *
  obtain ⟨rc, hrc⟩ : ∃ rc, rc = w.heap.size + 1 := ⟨_, rfl⟩
  have HRc := Lib.hid hrc
  rw [← hrc] at hrb hkr hmr HR7 ⊢
  clear hrc
  clear hbe
  obtain ⟨ml, hml⟩ : ∃ ml, (mendC x f u).length = ml := ⟨_, rfl⟩
  have HMlE := Lib.hid hml
  rw [hml] at HM7
  clear hml
  go_upto_region 13 with (first
    | (go_at_call 47; refine (HM7.out).mono ?_; rintro e w8 ⟨p8, c8, κ8, rfl, h8, l8, f8⟩; have HF8 := Lib.hid (LR.done HL7.out f8 l8).2; have hd8 := do_any' w8 b bd _ μ _ d (LR.done HL7.out f8 l8).1 p8 c8 _ (RowS.done h8 l8) HMl.out HOk.out s9 d9 0 HDo.out; rw [HMlE.out] at hd8; have HD8 := Lib.hid hd8; clear h8 l8 f8 hd8)
    | (go_at_call 29; refine (HD8.out).mono ?_; rintro e w9 ⟨rfl, κ9, μ9, hl9, hf9⟩; have HL9 := Lib.hid hl9; have HF9 := Lib.hid (HF8.out.trans hf9); clear hl9 hf9))
  go_upto_region 15 with (fail)
  have hK9 : Blk w9 kb 50 [.string x.t, .int .u64 (x.f : Int), .slice p6 x.r.length c6] := (HF9.out.other kb HK7.out.lt (by rw [hkk]; decide) (by rw [hmk]; decide)).trans HK7.out
  have hR9 : Blk w9 rc 50 [.string ⟨#[]⟩, .int .u64 0, .slice none 0 0] := (HF9.out.other rc HR7.out.lt (by rw [hkr]; decide) (by rw [hmr]; decide)).trans HR7.out
  have e0 := hK9.cell 0 _ rfl
  have e1 := hK9.cell 1 _ rfl
  have e2 := hK9.cell 2 _ rfl
  have r0 := hR9.cell 0 _ rfl
  have r1 := hR9.cell 1 _ rfl
  have r2 := hR9.cell 2 _ rfl
  have g0 := hR9.frozen 0
  have g1 := hR9.frozen 1
  have g2 := hR9.frozen 2
  have HR9 := Lib.hid hR9
  clear hK9 hR9
  go_region
  clear e0 e1 e2 r0 r1 r2 g0 g1 g2
  go_wp2
  refine bodyPost_ret (results_open rfl _ _ rc 50 (.string x.t) (.int .u64 (x.f : Int)) (.slice p6 x.r.length c6) (0, 0) rfl ((((HR9.out.set_ 0 (.string x.t)).set_ 1 (.int .u64 (x.f : Int))).set_ 2 (.slice p6 x.r.length c6)).drew)) rfl ?_
  have ho : ∀ g, g ≠ rc → ((((w9.setCell ⟨rc, 0, none⟩ (.string x.t)).setCell ⟨rc, 1, none⟩ (.int .u64 (x.f : Int))).setCell ⟨rc, 2, none⟩ (.slice p6 x.r.length c6)).drew).heap[g]? = w9.heap[g]? := fun g hg => (Below.heap_setCell _ _ _ _ hg).trans ((Below.heap_setCell _ _ _ _ hg).trans (Below.heap_setCell _ _ _ _ hg))
  have hsz9 : ((((w9.setCell ⟨rc, 0, none⟩ (.string x.t)).setCell ⟨rc, 1, none⟩ (.int .u64 (x.f : Int))).setCell ⟨rc, 2, none⟩ (.slice p6 x.r.length c6)).drew).heap.size = w9.heap.size := by simp [World.setCell, World.drew]
  have F := HF7.out.trans HF9.out
  have hrl : rc < w7.heap.size := HR7.out.lt
  have hrE := HRc.out
  refine ⟨b, κ9, μ9, p6, c6, rfl, fun j y hj => ?_, fun a e => ?_, HL9.out.aside rc ho (Nat.le_of_eq hsz9.symm) ((HF9.out.footw rc hrl).trans hkr) ((HF9.out.footd rc hrl).trans hmr), ⟨F.os, F.tape, F.output, by rw [hsz9]; exact F.size, fun g hg i1 i2 => (ho g (by omega)).trans (F.other g hg i1 i2), F.footw, F.footd⟩⟩
  rotate_left
  · obtain ⟨z1, z2, z3⟩ := HKt.out a e
    obtain ⟨a0, e0, hl0, _⟩ := HT7.out 0 y0 HY0.out
    rw [e] at e0
    injection e0 with e0
    subst e0
    exact ⟨by rw [hsz9]; exact Nat.lt_of_lt_of_le hl0 HF9.out.size, (HF9.out.footw _ hl0).trans z2, (HF9.out.footd _ hl0).trans z3⟩
  obtain ⟨a, e, hl, hc⟩ := HT7.out j y hj
  obtain ⟨z1, z2, z3⟩ := HKt.out a e
  refine ⟨a, e, ?_, ?_⟩
  · rw [hsz9]; exact Nat.lt_of_lt_of_le hl HF9.out.size
  · rw [World.cell?_of_block (w := w7) (a := a.add j) (by
      rw [add_block]
      exact (ho a.block (by omega)).trans (HF9.out.other a.block hl (by rw [z2]; decide) (by rw [z3]; decide)))]
    exact hc
end Go.Proofs.YtbekdcpdfmfopaaGreat
end

section
namespace Go.Proofs.YtbekdcpdfmfopaaGreat
open Go.RowKit

def hasP (P : List (Nat × Nat)) (f : Nat) : Bool := P.any fun p => p.1 == f
theorem hasP_take (P : List (Nat × Nat)) (f j : Nat) (p : Nat × Nat) (h : P[j]? = some p) : hasP (P.take (j + 1)) f = (hasP (P.take j) f || p.1 == f) := by
  unfold hasP
  rw [List.take_add_one, h, List.any_append]
  simp
theorem hasP_some (P : List (Nat × Nat)) (f j : Nat) (p : Nat × Nat) (h : P[j]? = some p) (e : p.1 = f) : hasP P f = true := by
  unfold hasP
  rw [List.any_eq_true]
  exact ⟨p, List.mem_of_getElem? h, by simpa using e⟩
theorem isfile_any (w : World) (f n j fb : Nat) (hb : Blk w fb 3 [.int .i64 (j : Int)]) : Calls Tryz.prog 53 #[.agg #[.int .i64 (f : Int), .int .i64 (n : Int)], .pointer (some ⟨fb, 0, none⟩)] w fun e w' => e = .returned (.bool (f == j)) ∧ Ext w w' := by
  have hx1 : Ext w (w.alloc (.cells #[.int .i64 (f : Int), .int .i64 (n : Int)] 75)) := (Ext.refl w).alloc _
  have cj := (hb.ext hx1).cell 0 _ rfl
  have HX := Lib.hid hx1
  have he : ((f : Int) == (j : Int)) = (f == j) := by
    rcases hb2 : (f == j) with _ | _
    · rw [beq_eq_false_iff_ne] at hb2 ⊢; omega
    · rw [beq_iff_eq] at hb2 ⊢; omega
  clear hb hx1
  generalize (f == j) = r at *
  go_enter Tryz.func53, Tryz.ntmps53
  go_wp2
  go_ret
  exact ⟨rfl, HX.out⟩
set_option maxRecDepth 100000 in
theorem windex_any (w : World) (κ : Foot) (s : WS) (hl : s.P.length ≤ 1000000) (p : Option Addr) (c : Nat) (hp : Sl w κ 3 2 75 p s.P.length c (pcells s.P)) (j fb : Nat) (hb : Blk w fb 3 [.int .i64 (j : Int)]) :
    Calls Tryz.prog 77 #[.slice p s.P.length c, .func (.func 53) #[] #[.pointer (some ⟨fb, 0, none⟩)]] w fun e w' => ∃ r : Int, e = .returned (.int .i64 r) ∧ decide (0 ≤ r) = hasP s.P j ∧ Ext w w' := by
  have HC := Lib.hid (fun (u : World) (hx : Ext w u) i q (hq : s.P[i]? = some q) => (⟨(hp.ext hx).cell (pcells_at _ _ _ hq).1, (hp.ext hx).cell (pcells_at _ _ _ hq).2⟩ : _ ∧ _))
  have HI := Lib.hid (fun u (hu : Ext w u) f n => isfile_any u f n j fb (hb.ext hu))
  have HX := Lib.hid (Ext.refl w)
  clear hb hp
  go_enter Tryz.func77, Tryz.ntmps77
  go_wp2
  go_loopw [8] (fun iv wr => ∃ i : Nat, i ≤ s.P.length ∧ iv = .int .i64 (i : Int) ∧ hasP (s.P.take i) j = false ∧ Ext w wr) (fun iv _ => s.P.length - (intOf iv).toNat)
  case atStart => exact ⟨0, Nat.zero_le _, rfl, by simp [hasP], HX.out⟩
  case round =>
    obtain ⟨i, hi, rfl, hno, hx⟩ := hrel
    by_cases hlt : i < s.P.length
    · obtain ⟨q, hq⟩ : ∃ q, s.P[i]? = some q := ⟨_, List.getElem?_eq_getElem hlt⟩
      obtain ⟨⟨g, e, _, _, k0, _⟩, ⟨g', e', _, _, k1, _⟩⟩ := HC.out wr hx i q hq
      subst e
      cases e'
      have HT := Lib.hid (hasP_take s.P j i q hq)
      have HSm := Lib.hid (hasP_some s.P j i q hq)
      have HNo := Lib.hid hno
      have HX1 := Lib.hid hx
      clear hx hq hno
      by_cases he : q.1 = j
      · have HI2 := Lib.hid (HI.out wr HX1.out q.1 q.2)
        rw [show (q.1 == j) = true from by simpa using he] at HI2
        have HSm2 := Lib.hid (HSm.out he)
        clear HT HSm he
        go_wp2_with (go_at_call 53; refine (HI2.out).mono ?_; rintro e w1 ⟨rfl, x1⟩; have X1 := Lib.hid x1; clear x1)
        go_ret
        exact ⟨_, rfl, by rw [HSm2.out]; simp, HX1.out.trans X1.out⟩
      · have HI2 := Lib.hid (HI.out wr HX1.out q.1 q.2)
        rw [show (q.1 == j) = false from by simpa using he] at HI2
        have HNe := Lib.hid (show (q.1 == j) = false from by simpa using he)
        clear he
        go_wp2_with (go_at_call 53; refine (HI2.out).mono ?_; rintro e w1 ⟨rfl, x1⟩; have X1 := Lib.hid x1; clear x1)
        go_roundw
        case rel => exact ⟨i + 1, by omega, by go_num, by rw [HT.out, HNo.out, HNe.out]; rfl, HX1.out.trans X1.out⟩
        case measure => simp [intOf]; omega
    · obtain rfl : i = s.P.length := by omega
      rw [List.take_length] at hno
      have HX1 := Lib.hid hx; have HNo := Lib.hid hno
      clear hx hno
      go_wp2
      go_ret
      exact ⟨-1, rfl, by rw [HNo.out]; decide, HX1.out⟩
theorem wcontains_any (w : World) (κ : Foot) (s : WS) (hl : s.P.length ≤ 1000000) (p : Option Addr) (c : Nat) (hp : Sl w κ 3 2 75 p s.P.length c (pcells s.P)) (j fb : Nat) (hb : Blk w fb 3 [.int .i64 (j : Int)]) :
    Calls Tryz.prog 52 #[.slice p s.P.length c, .func (.func 53) #[] #[.pointer (some ⟨fb, 0, none⟩)]] w fun e w' => e = .returned (.bool (hasP s.P j)) ∧ Ext w w' := by
  have HI := Lib.hid (windex_any w κ s hl p c hp j fb hb)
  clear hp hb
  go_enter Tryz.func52, Tryz.ntmps52
  go_wp2_with (go_at_call 77; refine (HI.out).mono ?_; rintro e w1 ⟨r, rfl, hr, x1⟩; have HRr := Lib.hid hr; have X1 := Lib.hid x1; clear hr x1)
  go_ret
  exact ⟨by rw [← HRr.out]; rfl, X1.out⟩
/-- The closure that reads a file. -/
theorem rdcl_any (w : World) (b bd : Nat) (κ μ : Foot) (s : WS) (d : DS) (h : LS w b bd κ μ s d) (hf : d.fuse ≠ 0) (j : Nat) (hj : j < d.m) (y fb tb : Nat) (v0 : Value) (hy : Blk w y 27 [.pointer (some ⟨b, 0, none⟩)]) (hfb : Blk w fb 3 [.int .i64 (j : Int)]) (htb : Blk w tb 9 [v0]) :
    Calls Tryz.prog 54 #[.pointer (some ⟨y, 0, none⟩), .pointer (some ⟨fb, 0, none⟩), .pointer (some ⟨tb, 0, none⟩)] w fun e w' => e = .returned (.int .i64 0) ∧ w' = (w.setCell ⟨tb, 0, none⟩ (.string (d.now j))).drew := by
  have HR := Lib.hid (Read_any w.drew bd μ d (h.disk.ext (Ext.refl w).drew) (j : Int))
  rw [show d.read (j : Int) = (d.now j, 0) from by
    unfold DS.read
    rw [if_neg hf, if_neg (by unfold DS.isF; omega)]
    rfl] at HR
  have c0 := hy.cell 0 _ rfl
  have c1 := hfb.cell 0 _ rfl
  have c2 := htb.cell 0 _ rfl
  have f2 := htb.frozen 0
  have k0 := h.wal.cells.1
  clear h hy hfb htb hf
  generalize d.now j = T at *
  go_enter Tryz.func54, Tryz.ntmps54
  go_upto_region 1 with (fail)
  go_region_with (go_at_call 55; refine (HR.out).mono ?_; rintro e w1 ⟨rfl, rfl⟩)
  all_goals
    go_wp2
    go_ret
    exact ⟨rfl, rfl⟩
set_option maxRecDepth 100000 in
set_option maxHeartbeats 2000000 in
theorem do_read (w : World) (b bd : Nat) (κ μ : Foot) (s : WS) (d : DS) (h : LS w b bd κ μ s d) (hf : d.fuse ≠ 0) (j : Nat) (hj : j < d.m) (y fb tb q : Nat) (v0 : Value) (hy : Blk w y 27 [.pointer (some ⟨b, 0, none⟩)]) (hfb : Blk w fb 3 [.int .i64 (j : Int)]) (htb : Blk w tb 9 [v0])
    (hq : Blk w q 69 [.func (.func 54) #[] #[.pointer (some ⟨y, 0, none⟩), .pointer (some ⟨fb, 0, none⟩), .pointer (some ⟨tb, 0, none⟩)]]) (htf : b ≠ tb) :
    Calls Tryz.prog 29 #[.pointer (some ⟨b, 0, none⟩), .slice (some ⟨q, 0, none⟩) 1 1] w fun e w' => e = .returned (.int .i64 0) ∧ w' = ((w.setCell ⟨tb, 0, none⟩ (.string (d.now j))).drew).setCell ⟨b, 9, none⟩ (.int .i64 0) := by
  have HC := Lib.hid (rdcl_any w b bd κ μ s d h hf j hj y fb tb v0 hy hfb htb)
  have cq := hq.cell 0 _ rfl
  obtain ⟨p, c, hb, _⟩ := h.wal.lay
  have hb2 := hb.other htf 0 (.string (d.now j))
  have c9 : ((w.setCell ⟨tb, 0, none⟩ (.string (d.now j))).drew).cell? ⟨b, 9, none⟩ = some (.int .i64 s.e) := hb2.cell 9 _ rfl
  have f9 : ((w.setCell ⟨tb, 0, none⟩ (.string (d.now j))).drew).frozen? ⟨b, 9, none⟩ = false := hb2.frozen 9
  have hb3 := (hb2.drew).set_ 9 (.int .i64 0)
  have d9 : (((w.setCell ⟨tb, 0, none⟩ (.string (d.now j))).drew).setCell ⟨b, 9, none⟩ (.int .i64 0)).cell? ⟨b, 9, none⟩ = some (.int .i64 0) := hb3.cell 9 _ rfl
  have HW : Hid (∃ W, W = (w.setCell ⟨tb, 0, none⟩ (.string (d.now j))).drew) := Lib.hid ⟨_, rfl⟩
  obtain ⟨W, hW⟩ := HW.out
  rw [← hW] at HC c9 f9 d9 ⊢
  clear h hq hy hfb htb hb hb2 hb3 HW hW
  go_enter Tryz.func29, Tryz.ntmps29
  go_wp2
  go_loopw [9] (fun iv wr => (iv = .int .i64 0 ∧ wr = w) ∨ (iv = .int .i64 1 ∧ wr = W.setCell ⟨b, 9, none⟩ (.int .i64 0))) (fun iv _ => 1 - (intOf iv).toNat)
  case atStart => exact .inl ⟨rfl, rfl⟩
  case round =>
    rcases hrel with ⟨rfl, rfl⟩ | ⟨rfl, rfl⟩
    · go_wp2_with (go_at_call 54; refine (HC.out).mono ?_; rintro e w2 ⟨rfl, rfl⟩)
      go_roundw
      case rel => exact .inr ⟨by go_num, trivial⟩
      case measure => simp [intOf]
    · go_wp2
      go_ret
      exact ⟨rfl, rfl⟩
end Go.Proofs.YtbekdcpdfmfopaaGreat
end

section
namespace Go.Proofs.YtbekdcpdfmfopaaGreat
open Go.RowKit

/-- Whether a file is free, and none of the log's. -/
def okF2 (P : List (Nat × Nat)) (N : Fs) (f : Nat) : Bool := !hasP P f && (N f).size == 0
def freeL (P : List (Nat × Nat)) (N : Fs) (j : Nat) : List Nat := (List.range j).filter (okF2 P N)
theorem freeL_succ (P : List (Nat × Nat)) (N : Fs) (j : Nat) : freeL P N (j + 1) = if okF2 P N j = true then freeL P N j ++ [j] else freeL P N j := by
  unfold freeL
  rw [List.range_succ, List.filter_append]
  by_cases h : okF2 P N j = true
  · rw [if_pos h]; simp [h]
  · rw [if_neg h]; simp [h]
theorem freeL_pre (P : List (Nat × Nat)) (N : Fs) (j k : Nat) : ∃ t, freeL P N (j + k) = freeL P N j ++ t := by
  induction k with
  | zero => exact ⟨[], by simp⟩
  | succ k ih =>
    obtain ⟨t, ht⟩ := ih
    rw [← Nat.add_assoc, freeL_succ, ht]
    split
    · exact ⟨t ++ [j + k], by simp⟩
    · exact ⟨t, rfl⟩
theorem freeL_len (P : List (Nat × Nat)) (N : Fs) (j : Nat) : (freeL P N j).length ≤ j := by
  unfold freeL
  have := List.length_filter_le (okF2 P N) (List.range j)
  simpa using this
theorem BufI.aside {w : World} {B : Nat} {v : Value} {L : List Nat} (h : BufI w B v L) {g : Nat} (hg : v.ownBlock ≠ some g) (o : Nat) (u : Value) : BufI (w.setCell ⟨g, o, none⟩ u) B v L := by
  refine ⟨h.1, ?_⟩
  rcases h.2 with h0 | ⟨g', cap, cur, e1, e2, e3, e4⟩
  · exact .inl h0
  · refine .inr ⟨g', cap, cur, e1, e2, (Below.heap_setCell _ _ _ _ (fun e => hg (by rw [e1, e]; rfl))).trans e3, e4⟩
theorem BufI.own_in {w : World} {B : Nat} {v : Value} {L : List Nat} (h : BufI w B v L) {g : Nat} (e : v.ownBlock = some g) : B ≤ g ∧ g < w.heap.size := World.ownsRow.lt h g e
def cellI (v : Value) (w : World) : Nat := match v with
  | .pointer (some a) => match w.cell? a with
    | some (.int _ n) => n.toNat
    | _ => 0
  | _ => 0
/-- A cell of the log's block was written: the footprints stay. -/
theorem LS.setk {w : World} {b bd : Nat} {κ μ : Foot} {s s' : WS} {d : DS} (h : LS w b bd κ μ s d) (i : Nat) (v : Value) (hs : s'.P = s.P) (hc : ∀ pv, (wcells bd s pv).set i v = wcells bd s' pv) : LS (w.setCell ⟨b, i, none⟩ v) b bd κ μ s' d ∧ Fr2 κ μ w (w.setCell ⟨b, i, none⟩ v) κ μ := by
  have ho : ∀ g, g ≠ b → (w.setCell ⟨b, i, none⟩ v).heap[g]? = w.heap[g]? := fun g hg => Below.heap_setCell _ _ _ _ hg
  have hsz : (w.setCell ⟨b, i, none⟩ v).heap.size = w.heap.size := by simp [World.setCell]
  obtain ⟨q, c, k1, k2⟩ := h.wal.lay
  have k3 := k1.set_ i v
  rw [hc] at k3
  exact ⟨⟨⟨⟨q, c, by rw [hs]; exact k3, by rw [hs]; exact k2.same (fun g _ e => ho g (fun e2 => by rw [e2, h.wal.kind] at e; cases e)) (fun _ _ e => e)⟩, h.wal.kind, fun g hg => by rw [hsz]; exact h.wal.ins g hg⟩, h.disk.keep (fun g hg hk => ho g (fun e => hk (by rw [e]; exact h.apart b (by rw [h.wal.kind]; decide)))) (by omega), h.apart, h.low⟩, ⟨rfl, rfl, rfl, by omega, fun g hg h1 _ => ho g (fun e => by rw [e, h.wal.kind] at h1; omega), fun _ _ => rfl, fun _ _ => rfl⟩⟩
/-- append(l, i): nothing but the slice's own block turns. -/
theorem append_intG {w : World} {ops : Array Oper} {rest : List Oper} {o : Oper} {a : Act} {Q : Exit → Act → World → Prop} (hgd : o.guard = none) (s x : Operand)
    (ho : o.op = .call { callee := .builtin .append, args := #[s, x], argTypes := #[66, 66] })
    (B : Nat) (v : Value) (L : List Nat) (hs : a.eval s = v) (hbuf : BufI w B v L) (g : Nat) (i : Nat) (hx : a.eval x = .slice (some ⟨g, 0, none⟩) 1 1) (hrow : Blk w g 3 [.int .i64 (i : Int)])
    (hlen : L.length ≤ 1000000) (hB : B ≤ w.heap.size)
    (h : ∀ v' w', BufI w' B v' (L ++ [i]) → w.grownBy w' v.ownBlock → wpList Tryz.prog ops Q rest (a.put o.dst v') w') : wpList Tryz.prog ops Q (o :: rest) a w := by
  obtain ⟨i0, hi, hz0, hz1, hz2⟩ := info_parts infoInt
  refine wpList_append_own w hgd s x 66 ho B 3 i0 (.int .i64 0) 1 8 Tryz.underlying66 hi hz0 hz1 hz2 rfl (by decide) v L.length (vN L) hs hbuf ⟨g, 0, none⟩ 1 1 [.int .i64 (i : Int)] hx rfl (fun j u hj => by rw [add_zero_off]; exact hrow.cell j u hj) (fun u hu => by simp at hu; subst hu; rfl) (by unfold maxLen; omega) (by omega) hB ?_
  intro v' w' h1 h2 _
  refine h v' w' ?_ h2
  unfold BufI
  rw [vN_snoc]
  simpa using h1
/-- What a slice's own block turns leaves the log as it was. -/
theorem LS.grown {w w' : World} {b bd g0 : Nat} {κ μ : Foot} {s : WS} {d : DS} (h : LS w b bd κ μ s d) {row : Option Nat} (hg : w.grownBy w' row) (hr : ∀ r, row = some r → g0 ≤ r) (hk : ∀ g, g0 ≤ g → κ g = 0 ∧ μ g = 0) : LS w' b bd κ μ s d := by
  have ho : ∀ g, g < w.heap.size → κ g ≠ 0 ∨ μ g ≠ 0 → w'.heap[g]? = w.heap[g]? := fun g hl hor => hg.block g hl (fun e => by
    have := hr g e.symm
    rcases hor with q | q
    · exact q (hk g this).1
    · exact q (hk g this).2)
  obtain ⟨q, c, k1, k2⟩ := h.wal.lay
  exact ⟨⟨⟨q, c, (ho b h.wal.lt (.inl (by rw [h.wal.kind]; decide))).trans k1, k2.same (fun g hl e => ho g hl (.inl (by rw [e]; decide))) (fun _ _ e => e)⟩, h.wal.kind, fun g hg2 => Nat.lt_of_lt_of_le (h.wal.ins g hg2) hg.size⟩, h.disk.keep (fun g hl hm => ho g hl (.inr hm)) hg.size, h.apart, h.low⟩
theorem Fr2.grown {w0 w w' : World} {κ μ : Foot} (h : Fr2 κ μ w0 w κ μ) {row : Option Nat} (hg : w.grownBy w' row) (hr : ∀ r, row = some r → w0.heap.size ≤ r) : Fr2 κ μ w0 w' κ μ :=
  ⟨hg.os.trans h.os, hg.tape.trans h.tape, hg.output.trans h.output, Nat.le_trans h.size hg.size, fun g hl h1 h2 => (hg.block g (Nat.lt_of_lt_of_le hl h.size) (fun e => by have := hr g e.symm; omega)).trans (h.other g hl h1 h2), fun _ _ => rfl, fun _ _ => rfl⟩
/-- What reading a file by a closure leaves. -/
theorem after_read {w wr u1 u2 : World} {b bd : Nat} {κ μ : Foot} {s : WS} {d : DS} (h : LS wr b bd κ μ s d) (hf : Fr2 κ μ w wr κ μ) (he : s.e = 0) (hx : Ext wr u1) (T : ByteArray) (F : Value)
    (hu : u2 = ((((u1.alloc (.cells #[.string ⟨#[]⟩] 9)).alloc (.cells #[F] 69)).setCell ⟨u1.heap.size, 0, none⟩ (.string T)).drew).setCell ⟨b, 9, none⟩ (.int .i64 0)) :
    LS u2 b bd κ μ s d ∧ Fr2 κ μ w u2 κ μ ∧ Blk u2 u1.heap.size 9 [.string T] ∧ (∀ g (T' : TypeId) cs, Blk wr g T' cs → g ≠ b → Blk u2 g T' cs) ∧ (∀ B v L, BufI wr B v L → v.ownBlock ≠ some b → BufI u2 B v L) ∧ wr.heap.size ≤ u2.heap.size := by
  have hb := h.wal.lt
  have hxv : Ext wr ((((u1.alloc (.cells #[.string ⟨#[]⟩] 9)).alloc (.cells #[F] 69)).setCell ⟨u1.heap.size, 0, none⟩ (.string T)).drew) := (((hx.alloc _).alloc _).setCell (p := ⟨u1.heap.size, 0, none⟩) hx.size _).drew
  have h1 := h.ext hxv
  obtain ⟨h2, h3⟩ := h1.setk 9 (.int .i64 0) (s' := s) rfl (fun pv => by unfold wcells; rw [he]; rfl)
  have hbt : Blk ((((u1.alloc (.cells #[.string ⟨#[]⟩] 9)).alloc (.cells #[F] 69)).setCell ⟨u1.heap.size, 0, none⟩ (.string T)).drew) u1.heap.size 9 [.string T] := by
    have k := (((Blk.new u1 [.string ⟨#[]⟩] 9).alloc (.cells #[F] 69)).set_ 0 (.string T)).drew
    exact k
  have hne : u1.heap.size ≠ b := by have := hx.size; omega
  have hu3 := hu
  subst hu3
  refine ⟨h2, hf.trans ((hxv.fr2 κ μ).trans h3), hbt.other hne 9 _, fun g T' cs hg hgb => (hg.ext hxv).other hgb 9 _, fun B v L hB ho => (hB.ext hxv).aside ho 9 _, ?_⟩
  have := hxv.size
  simp only [World.setCell, Array.size_modify] at this ⊢
  exact this
theorem cellI_new (u : World) (j : Nat) : cellI (.pointer (some ⟨u.heap.size, 0, none⟩)) (u.alloc (.cells #[.int .i64 ((j : Int) + 1)] 3)) = j + 1 := by
  have h := (Blk.new u [.int .i64 ((j : Int) + 1)] 3).cell 0 _ rfl
  show (match (u.alloc (.cells #[.int .i64 ((j : Int) + 1)] 3)).cell? ⟨u.heap.size, 0, none⟩ with | some (.int _ n) => n.toNat | _ => 0) = j + 1
  rw [show (u.alloc (.cells #[.int .i64 ((j : Int) + 1)] 3)).cell? ⟨u.heap.size, 0, none⟩ = some (.int .i64 ((j : Int) + 1)) from h]
  simp only
  omega
set_option maxRecDepth 100000 in
set_option maxHeartbeats 4000000 in
theorem free_any (w : World) (b bd : Nat) (κ μ : Foot) (s : WS) (d : DS) (h : LS w b bd κ μ s d) (he : s.e = 0) (hf : d.fuse ≠ 0) (hnf : s.nf ≤ d.m) (hP : s.P.length ≤ 1000000) (count : Nat) (L0 : List Nat) (hL0 : L0.length = count) (hfr : (freeL s.P d.now s.nf).take count = L0) :
    Calls Tryz.prog 32 #[.pointer (some ⟨b, 0, none⟩), .int .i64 (count : Int)] w fun e w' => ∃ v, e = .returned (.tuple #[v, .int .i64 0]) ∧ LS w' b bd κ μ s d ∧ Fr2 κ μ w w' κ μ ∧ BufI w' (w.heap.size + 2) v L0 := by
  have hm16 := h.disk.ok.m16
  have hx1 : Ext w (w.alloc (.cells #[.pointer (some ⟨b, 0, none⟩)] 27)) := (Ext.refl w).alloc _
  have by1 : Blk (w.alloc (.cells #[.pointer (some ⟨b, 0, none⟩)] 27)) w.heap.size 27 [.pointer (some ⟨b, 0, none⟩)] := Blk.new w _ _
  have hx2 : Ext w ((w.alloc (.cells #[.pointer (some ⟨b, 0, none⟩)] 27)).alloc (.cells #[.int .i64 0] 3)) := hx1.alloc _
  have bf2 : Blk ((w.alloc (.cells #[.pointer (some ⟨b, 0, none⟩)] 27)).alloc (.cells #[.int .i64 0] 3)) (w.heap.size + 1) 3 [.int .i64 ((0 : Nat) : Int)] := by
    have := Blk.new (w.alloc (.cells #[.pointer (some ⟨b, 0, none⟩)] 27)) [.int .i64 0] 3
    simpa using this
  have H0 : Hid (LS w b bd κ μ s d) := Lib.hid h
  have HS := Lib.hid (by1.alloc (.cells #[.int .i64 0] 3))
  have HX2 := Lib.hid hx2; have HBf := Lib.hid bf2
  have hbl := h.wal.lt
  have HBl := Lib.hid hbl
  have HFr := Lib.hid hfr
  have HF := Lib.hid hf
  have hlen0 := freeL_len s.P d.now s.nf
  have hc16 : count ≤ 16 := by rw [← hL0, ← hfr, List.length_take]; omega
  clear h hx1 hx2 by1 bf2 hbl hfr hlen0 hf
  go_enter Tryz.func32, Tryz.ntmps32
  go_wp2
  go_loopw [6, 7] (fun lv fv wr => ∃ (j fb : Nat), j ≤ s.nf ∧ fv = .pointer (some ⟨fb, 0, none⟩) ∧ w.heap.size < fb ∧ Blk wr fb 3 [.int .i64 (j : Int)] ∧ Blk wr w.heap.size 27 [.pointer (some ⟨b, 0, none⟩)] ∧ (freeL s.P d.now j).length ≤ count ∧ BufI wr (w.heap.size + 2) lv (freeL s.P d.now j) ∧ lv.ownBlock ≠ some fb ∧ LS wr b bd κ μ s d ∧ Fr2 κ μ w wr κ μ) (fun _ fv wr => s.nf - cellI fv wr)
  case atStart => exact ⟨0, w.heap.size + 1, Nat.zero_le _, rfl, Nat.lt_succ_self _, HBf.out, HS.out, by simp [freeL], BufI.nil _ _, by simp [Value.ownBlock], H0.out.ext HX2.out, HX2.out.fr2 κ μ⟩
  case round =>
    obtain ⟨j, fb, hj, rfl, hfb, hbf, hby, hlen, hbuf, hno, hls, hfr1⟩ := hrel
    have HNf := Lib.hid hno
    clear hno
    have HFfb := Lib.hid hfb; have HBf := Lib.hid hbf; have HBy := Lib.hid hby; have HBuf := Lib.hid hbuf
    have HLS := Lib.hid hls; have HFR1 := Lib.hid hfr1
    obtain ⟨lp, lc, rfl, _, _⟩ := hbuf.vals
    have cf := hbf.cell 0 _ rfl
    have cy := hby.cell 0 _ rfl
    have cn := hls.wal.cells.2.1
    have hc0 : cellI (.pointer (some ⟨fb, 0, none⟩)) wr = j := by show (match wr.cell? ⟨fb, 0, none⟩ with | some (.int _ n) => n.toNat | _ => 0) = j; rw [cf]; simp
    have HC0 := Lib.hid hc0
    clear hbf hby hbuf hls hfr1 hc0 hfb
    by_cases hjn : j < s.nf
    · by_cases hlc : (freeL s.P d.now j).length < count
      · obtain ⟨pp, pc, cp, hsl⟩ := HLS.out.wal.parts
        have HNk : Hid (¬ okF2 s.P d.now j = true → freeL s.P d.now (j + 1) = freeL s.P d.now j) := Lib.hid (fun hn => by rw [freeL_succ, if_neg hn])
        have HNy : Hid (okF2 s.P d.now j = true → freeL s.P d.now (j + 1) = freeL s.P d.now j ++ [j]) := Lib.hid (fun hy => by rw [freeL_succ, if_pos hy])
        have HBg : Hid (∀ u, Ext wr u → w.heap.size < u.heap.size) := Lib.hid (fun u hu => by have := HBy.out.lt; have := hu.size; omega)
        have HCt := Lib.hid (fun u (hu : Ext wr u) => wcontains_any u κ s hP pp pc (hsl.ext hu) j fb (HBf.out.ext hu))
        clear hsl
        go_upto_region 3 with (fail)
        go_quiet (fail)
        have hxU : Ext wr (wr.drewN nq) := (Ext.refl wr).drewN nq
        have cfU : (wr.drewN nq).cell? ⟨fb, 0, none⟩ = some (.int .i64 (j : Int)) := cf
        have cyU : (wr.drewN nq).cell? ⟨w.heap.size, 0, none⟩ = some (.pointer (some ⟨b, 0, none⟩)) := cy
        have cpU : (wr.drewN nq).cell? ⟨b, 7, none⟩ = some (.slice pp s.P.length pc) := cp
        have HCtU := Lib.hid (HCt.out _ hxU)
        have HXU := Lib.hid hxU
        clear cf cy cn cp HCt hxU
        generalize wr.drewN nq = U at *
        by_cases hh : hasP s.P j = true
        · rw [hh] at HCtU
          go_wp2_with (go_at_call 52; refine (HCtU.out).mono ?_; rintro e u1 ⟨rfl, x1⟩; have X1 := Lib.hid x1; have cf1 := (HBf.out.ext (HXU.out.trans x1)).cell 0 _ rfl; clear x1)
          go_roundw
          case rel => exact ⟨j + 1, u1.heap.size, by omega, rfl, HBg.out _ (HXU.out.trans X1.out), by have := Blk.new u1 [.int .i64 ((j : Int) + 1)] 3; simpa using this, (HBy.out.ext (HXU.out.trans X1.out)).alloc _, by rw [HNk.out (by simp [okF2, hh])]; exact hlen, by rw [HNk.out (by simp [okF2, hh])]; exact (HBuf.out.ext (HXU.out.trans X1.out)).ext ((Ext.refl _).alloc _), fun e => Nat.lt_irrefl _ ((HBuf.out.ext (HXU.out.trans X1.out)).own_in e).2, HLS.out.ext ((HXU.out.trans X1.out).alloc _), HFR1.out.trans (((HXU.out.trans X1.out).alloc _).fr2 κ μ)⟩
          case measure => rw [cellI_new, HC0.out]; omega
        · have hh' : hasP s.P j = false := by simpa using hh
          rw [hh'] at HCtU
          have HHh := Lib.hid hh'
          clear hh hh'
          have HRd := Lib.hid (fun u (hu : Ext wr u) (tb q : Nat) v0 htb hq hne => do_read u b bd κ μ s d (HLS.out.ext hu) HF.out j (by omega) w.heap.size fb tb q v0 (HBy.out.ext hu) (HBf.out.ext hu) htb hq hne)
          have HYb : Hid (w.heap.size ≠ b) := Lib.hid (by have := HBl.out; omega)
          have HFb : Hid (fb ≠ b) := Lib.hid (by have := HBl.out; have := HFfb.out; omega)
          have HOw : Hid ((Value.slice lp (freeL s.P d.now j).length lc).ownBlock ≠ some b) := Lib.hid (fun e => by have := (HBuf.out.own_in e).1; have := HBl.out; omega)
          have HBk : Hid (∀ u, Ext wr u → b ≠ u.heap.size) := Lib.hid (fun u hu => by have := HLS.out.wal.lt; have := hu.size; omega)
          by_cases hsz : (d.now j).size = 0
          · have hT := empty_of_size hsz
            rw [hT] at HRd
            have HYes := Lib.hid (HNy.out (by rw [okF2, HHh.out, hsz]; rfl))
            have HLn := Lib.hid (show (freeL s.P d.now j).length ≤ 1000000 by omega)
            have hlc' : (freeL s.P d.now j).length + 1 ≤ count := hlc
            have HLc := Lib.hid hlc'
            clear HNk HNy hsz hT hlc'
            go_wp2_with (first
              | (go_at_call 52; refine (HCtU.out).mono ?_; rintro e u1 ⟨rfl, x1⟩; have X1 := Lib.hid x1; have cy1 := (HBy.out.ext (HXU.out.trans x1)).cell 0 _ rfl; have hl1 := HBg.out _ (HXU.out.trans x1); have hn1 := Nat.ne_of_lt hl1; clear x1)
              | (go_at_call 29; refine (HRd.out _ (((HXU.out.trans X1.out).alloc _).alloc _) u1.heap.size (u1.heap.size + 1) (.string ⟨#[]⟩) ((Blk.new u1 _ _).alloc _) (by have := Blk.new (u1.alloc (.cells #[.string ⟨#[]⟩] 9)) [.func (.func 54) #[] #[.pointer (some ⟨w.heap.size, 0, none⟩), .pointer (some ⟨fb, 0, none⟩), .pointer (some ⟨u1.heap.size, 0, none⟩)]] 69; simpa using this) (HBk.out _ (HXU.out.trans X1.out))).mono ?_; rintro e u2 ⟨rfl, hu2⟩; obtain ⟨n1, n2, n3, n4, n5, n6⟩ := after_read HLS.out HFR1.out he (HXU.out.trans X1.out) _ _ hu2; have ct2 := n3.cell 0 _ rfl; have bf2 := n4 _ _ _ HBf.out HFb.out; have cf2 := bf2.cell 0 _ rfl; have N1 := Lib.hid n1; have N2 := Lib.hid n2; have N4 := Lib.hid (n4 _ _ _ HBy.out HYb.out); have N5 := Lib.hid (n5 _ _ _ HBuf.out HOw.out); have N6 := Lib.hid (Nat.lt_of_lt_of_le HBy.out.lt n6); have N7 := Lib.hid (Nat.lt_of_lt_of_le HBf.out.lt n6); have BF2 := Lib.hid bf2; clear hu2 n1 n2 n3 n4 n5 n6 bf2 cy1 hl1 hn1)
              | (refine append_intG rfl (.tmp 40) (.tmp 42) rfl (w.heap.size + 2) _ (freeL s.P d.now j) rfl (N5.out.ext ((Ext.refl _).alloc _)) u2.heap.size j rfl (Blk.new u2 [.int .i64 (j : Int)] 3) HLn.out (by have := N7.out; have := HFfb.out; simp; omega) ?_; intro v3 w3 hb3 hg3; have bf3 : Blk w3 fb 3 [.int .i64 (j : Int)] := (hg3.block fb (BF2.out.alloc _).lt (fun e => HNf.out e.symm)).trans (BF2.out.alloc _); have cf3 := bf3.cell 0 _ rfl; have HB3 := Lib.hid hb3; have HG3 := Lib.hid hg3; clear hb3 hg3 bf3))
            have hown : ∀ r, (Value.slice lp (freeL s.P d.now j).length lc).ownBlock = some r → w.heap.size + 2 ≤ r := fun r e => (HBuf.out.own_in e).1
            have hy3 : Blk w3 w.heap.size 27 [.pointer (some ⟨b, 0, none⟩)] := (HG3.out.block w.heap.size (N4.out.alloc _).lt (fun e => by have := hown _ e.symm; omega)).trans (N4.out.alloc _)
            have hl3 := (N1.out.ext ((Ext.refl u2).alloc (.cells #[.int .i64 (j : Int)] 3))).grown HG3.out hown (fun g hg => ⟨Classical.byContradiction fun e => by have := H0.out.wal.ins g e; omega, Classical.byContradiction fun e => by have := H0.out.disk.ins g e; omega⟩)
            have hr3 := (N2.out.trans (((Ext.refl u2).alloc (.cells #[.int .i64 (j : Int)] 3)).fr2 κ μ)).grown HG3.out (fun r e => by have := hown r e; omega)
            have HY3 := Lib.hid hy3; have HL3 := Lib.hid hl3; have HR3 := Lib.hid hr3
            have HW3 := Lib.hid hy3.lt
            clear hown hy3 hl3 hr3
            go_roundw
            case rel => exact ⟨j + 1, w3.heap.size, by omega, rfl, HW3.out, by have := Blk.new w3 [.int .i64 ((j : Int) + 1)] 3; simpa using this, HY3.out.alloc _, by rw [HYes.out, List.length_append]; exact HLc.out, by rw [HYes.out]; exact HB3.out.ext ((Ext.refl _).alloc _), fun e => Nat.lt_irrefl _ (HB3.out.own_in e).2, HL3.out.ext ((Ext.refl _).alloc _), HR3.out.trans (((Ext.refl _).alloc _).fr2 κ μ)⟩
            case measure => rw [cellI_new, HC0.out]; omega
          · have hne : ((d.now j).toList == []) = false := by
              rw [ByteArray.toList_eq]
              cases hq : ((d.now j).data.toList == []) with
              | false => rfl
              | true =>
                have := beq_iff_eq.1 hq
                exact absurd (by rw [← size_list, this]; rfl) hsz
            have HNo := Lib.hid (HNk.out (by simp [okF2, hsz]))
            clear HNk hsz
            generalize d.now j = T at *
            go_wp2_with (first
              | (go_at_call 52; refine (HCtU.out).mono ?_; rintro e u1 ⟨rfl, x1⟩; have X1 := Lib.hid x1; have cy1 := (HBy.out.ext (HXU.out.trans x1)).cell 0 _ rfl; have hl1 := HBg.out _ (HXU.out.trans x1); have hn1 := Nat.ne_of_lt hl1; clear x1)
              | (go_at_call 29; refine (HRd.out _ (((HXU.out.trans X1.out).alloc _).alloc _) u1.heap.size (u1.heap.size + 1) (.string ⟨#[]⟩) ((Blk.new u1 _ _).alloc _) (by have := Blk.new (u1.alloc (.cells #[.string ⟨#[]⟩] 9)) [.func (.func 54) #[] #[.pointer (some ⟨w.heap.size, 0, none⟩), .pointer (some ⟨fb, 0, none⟩), .pointer (some ⟨u1.heap.size, 0, none⟩)]] 69; simpa using this) (HBk.out _ (HXU.out.trans X1.out))).mono ?_; rintro e u2 ⟨rfl, hu2⟩; obtain ⟨n1, n2, n3, n4, n5, n6⟩ := after_read HLS.out HFR1.out he (HXU.out.trans X1.out) _ _ hu2; have ct2 := n3.cell 0 _ rfl; have bf2 := n4 _ _ _ HBf.out HFb.out; have cf2 := bf2.cell 0 _ rfl; have N1 := Lib.hid n1; have N2 := Lib.hid n2; have N4 := Lib.hid (n4 _ _ _ HBy.out HYb.out); have N5 := Lib.hid (n5 _ _ _ HBuf.out HOw.out); have N6 := Lib.hid (Nat.lt_of_lt_of_le HBy.out.lt n6); have N7 := Lib.hid (Nat.lt_of_lt_of_le HBf.out.lt n6); have BF2 := Lib.hid bf2; clear hu2 n1 n2 n3 n4 n5 n6 bf2 cy1 hl1 hn1))
            go_roundw
            case rel => exact ⟨j + 1, u2.heap.size, by omega, rfl, N6.out, by have := Blk.new u2 [.int .i64 ((j : Int) + 1)] 3; simpa using this, N4.out.alloc _, by rw [HNo.out]; exact hlen, by rw [HNo.out]; exact N5.out.ext ((Ext.refl _).alloc _), fun e => Nat.lt_irrefl _ (N5.out.own_in e).2, N1.out.ext ((Ext.refl _).alloc _), N2.out.trans (((Ext.refl _).alloc _).fr2 κ μ)⟩
            case measure => rw [cellI_new, HC0.out]; omega
      · have hE : (freeL s.P d.now j) = L0 := by
          obtain ⟨t, ht⟩ := freeL_pre s.P d.now j (s.nf - j)
          rw [show j + (s.nf - j) = s.nf by omega] at ht
          have h1 := HFr.out
          rw [ht, List.take_append_of_le_length (by omega), List.take_of_length_le (by omega)] at h1
          exact h1
        have HE := Lib.hid hE
        have hlq : (freeL s.P d.now j).length = count := by rw [hE]; exact hL0
        clear hlc hlen hE
        generalize freeL s.P d.now j = L at *
        subst hlq
        go_upto_region 3 with (fail)
        go_quiet (fail)
        go_wp2
        go_ret2
        exact ⟨_, rfl, HLS.out.ext ((Ext.refl wr).drewN _), HFR1.out.trans (((Ext.refl wr).drewN _).fr2 κ μ), by rw [← HE.out]; exact HBuf.out.ext ((Ext.refl wr).drewN _)⟩
    · obtain rfl : j = s.nf := by omega
      have hE : (freeL s.P d.now s.nf) = L0 := by
        have h1 := HFr.out
        rw [List.take_of_length_le hlen] at h1
        exact h1
      have HE := Lib.hid hE
      have hlq : (freeL s.P d.now s.nf).length = count := by rw [hE]; exact hL0
      clear hlen hE
      generalize freeL s.P d.now s.nf = L at *
      subst hlq
      go_upto_region 3 with (fail)
      go_quiet (fail)
      go_wp2
      go_ret2
      exact ⟨_, rfl, HLS.out.ext ((Ext.refl wr).drewN _), HFR1.out.trans (((Ext.refl wr).drewN _).fr2 κ μ), by rw [← HE.out]; exact HBuf.out.ext ((Ext.refl wr).drewN _)⟩
end Go.Proofs.YtbekdcpdfmfopaaGreat
end

section
namespace Go.Proofs.YtbekdcpdfmfopaaGreat
open Go.RowKit

def empC (P : List (Nat × Nat)) (j : Nat) : List WC := (P.take j).mapIdx fun i p => WC.emp i p.1
theorem empC_succ (P : List (Nat × Nat)) (j : Nat) (p : Nat × Nat) (h : P[j]? = some p) : empC P (j + 1) = empC P j ++ [.emp j p.1] := by
  have hj : j < P.length := (List.getElem?_eq_some_iff.1 h).1
  unfold empC
  rw [List.take_add_one, h]
  simp [List.mapIdx_append, Nat.min_eq_left (Nat.le_of_lt hj)]
theorem empC_length (P : List (Nat × Nat)) (j : Nat) : (empC P j).length ≤ j := by unfold empC; simp; omega
def cpC (f : Nat) (H : ByteArray) (P : List (Nat × Nat)) : List WC := ([.wr (f : Int) H, .sync] ++ empC P P.length) ++ [.sync]
theorem BufI.single {w : World} {B : Nat} {v : Value} {f : Nat} (h : BufI w B v [f]) : ∃ g c, v = .slice (some ⟨g, 0, none⟩) 1 c ∧ B ≤ g ∧ g < w.heap.size ∧ w.cell? ⟨g, 0, none⟩ = some (.int .i64 (f : Int)) := by
  obtain ⟨p, c, rfl, _, hv⟩ := h.vals
  obtain ⟨a, e, hl, hc⟩ := hv 0 _ rfl
  unfold BufI at h
  rcases h.2 with ⟨_, h0⟩ | ⟨g, cap, cur, e1, hB, _⟩
  · simp at h0
  · injection e1 with e1 _ _
    subst e1
    injection e with e
    subst e
    rw [add_zero_off] at hc
    exact ⟨g, c, rfl, hB, hl, hc⟩
set_option maxRecDepth 100000 in
set_option maxHeartbeats 8000000 in
theorem checkpoint_any (w : World) (b bd : Nat) (κ μ : Foot) (s : WS) (d : DS) (h : LS w b bd κ μ s d) (k : s.Ok) (he : s.e = 0) (hg : s.g < 281474976710656) (text H : ByteArray) (ht : text.size ≤ 8192) (hH : chkF (s.ck : Int) (s.g + 1) s.n text = (H, 0)) (hHs : H.size ≤ 1048576)
    (hf : d.fuse ≠ 0) (hnf : s.nf ≤ d.m) (f : Nat) (hfr : (freeL s.P d.now s.nf).take 1 = [f]) (hsp : s.r ≤ s.space (H.size : Int) (d.left + (sumP s.P : Int) - (H.size : Int))) (s9 : WS) (d9 : DS) (hg9 : s9.g < 281474976710656) (hok : okF (cpC f H s.P) s d) (hdo : doF (cpC f H s.P) s d = (s9, d9, 0)) :
    Calls Tryz.prog 12 #[.pointer (some ⟨b, 0, none⟩), .string text] w fun e w' => e = .returned (.int .i64 0) ∧ LPost w b bd κ μ w' { s9 with g := s9.g + 1, f := s9.n, n := s9.n, P := [(f, H.size)] } d9 := by
  have HG := Lib.hid (wgoes_any w b bd κ s h.wal)
  rw [he, if_pos rfl] at HG
  have hkn := k.n
  have HCh := Lib.hid (fun u => chk_any (s.nf : Int) (s.sz : Int) (s.ck : Int) (s.g + 1) s.n text (by omega) (by omega) ht u)
  rw [hH] at HCh
  unfold cfV at HCh
  have hwg : IntKind.u64.wrap ((s.g : Int) + 1) = ((s.g + 1 : Nat) : Int) := u64_nat (x := s.g + 1) (by omega)
  have HP := Lib.hid (fun u (hx : Ext w u) => (⟨(h.wal.ext hx).cells.2.1, (h.wal.ext hx).cells.2.2.1, (h.wal.ext hx).cells.2.2.2.1, (h.wal.ext hx).cells.2.2.2.2.1, (h.wal.ext hx).cells.2.2.2.2.2.2.1, hx⟩ : u.cell? ⟨b, 1, none⟩ = some (.int .i64 (s.nf : Int)) ∧ u.cell? ⟨b, 2, none⟩ = some (.int .i64 (s.sz : Int)) ∧ u.cell? ⟨b, 3, none⟩ = some (.int .i64 (s.ck : Int)) ∧ u.cell? ⟨b, 4, none⟩ = some (.int .u64 (s.g : Int)) ∧ u.cell? ⟨b, 6, none⟩ = some (.int .u64 (s.n : Int)) ∧ Ext w u))
  have HL := Lib.hid (fun u (hu : Ext w u) => h.ext hu)
  have hne : ((s.g : Int) == 281474976710656) = false := by rw [beq_eq_false_iff_ne]; omega
  have c4 := h.wal.cells.2.2.2.2.1
  have HX0 := Lib.hid (Ext.refl w)
  have hls0 := Lib.hid h
  have HOk := Lib.hid hok; have HDo := Lib.hid hdo; have HFre := Lib.hid hfr; have HFu := Lib.hid hf; have HNf := Lib.hid hnf; have HE0 := Lib.hid he
  clear h hok hdo hfr hf hnf he
  obtain ⟨gn, hgn⟩ : ∃ g : Int, g = ((s.g + 1 : Nat) : Int) := ⟨_, rfl⟩
  rw [← hgn] at HCh hwg
  go_enter Tryz.func12, Tryz.ntmps12
  go_upto_region 6 with (go_at_call 25; refine (HG.out).mono ?_; rintro e w1 ⟨rfl, rfl⟩)
  have x0 : Ext w w.drew := (Ext.refl w).drew
  have hS := HP.out _ x0
  clear c4 hgn
  go_region_held3 (fun u => u.cell? ⟨b, 1, none⟩ = some (.int .i64 (s.nf : Int)) ∧ u.cell? ⟨b, 2, none⟩ = some (.int .i64 (s.sz : Int)) ∧ u.cell? ⟨b, 3, none⟩ = some (.int .i64 (s.ck : Int)) ∧ u.cell? ⟨b, 4, none⟩ = some (.int .u64 (s.g : Int)) ∧ u.cell? ⟨b, 6, none⟩ = some (.int .u64 (s.n : Int)) ∧ Ext w u) (first | exact hS | exact hS1 | assumption | go_keep) (first
    | (go_at_call 31; refine (HCh.out _).mono ?_; rintro e w1 ⟨rfl, x1⟩; have y1 := Ext.trans (a := w) (by assumption) x1; have hS1 := HP.out _ y1))
  clear hS hS1 x0
  have Y1 := Lib.hid y1
  clear y1 x1
  go_upto_region 9 with (fail)
  have hsum := sumP_mem s.P k.b k.P s.P.length
  rw [List.take_length] at hsum
  have hleft := hls0.out.disk.ok.left_in
  have HB := Lib.hid (fun u (hx : Ext w u) => wbytes_any u b bd κ s (hls0.out.wal.ext hx) k)
  have HR := Lib.hid (fun u (hx : Ext w u) => Room_any u bd μ d (hls0.out.disk.ext hx))
  have HSp := Lib.hid (fun u (hx : Ext w u) => wspace_any u b bd κ s (hls0.out.wal.ext hx) k (H.size : Int) (d.left + (sumP s.P : Int) - (H.size : Int)) ⟨by omega, by omega⟩ ⟨by omega, by omega⟩)
  have HP9 := Lib.hid (fun u (hx : Ext w u) => (⟨(hls0.out.wal.ext hx).cells.1, (hls0.out.wal.ext hx).cells.2.2.2.2.2.2.2.1, hx⟩ : u.cell? ⟨b, 0, none⟩ = some (.pointer (some ⟨bd, 0, none⟩)) ∧ u.cell? ⟨b, 8, none⟩ = some (.int .i64 s.r) ∧ Ext w u))
  obtain ⟨z1, hz1⟩ : ∃ z, z = d.left + (sumP s.P : Int) := ⟨_, rfl⟩
  rw [← hz1] at HSp hsp
  obtain ⟨z2, hz2⟩ : ∃ z, z = z1 - (H.size : Int) := ⟨_, rfl⟩
  rw [← hz2] at HSp hsp
  have hv1 : IntKind.i64.wrap (d.left + (sumP s.P : Int)) = z1 := by rw [hz1]; exact IntWalk.i64_in _ ⟨by omega, by omega⟩
  have hv2 : IntKind.i64.wrap (z1 - (H.size : Int)) = z2 := by rw [hz2, hz1]; exact IntWalk.i64_in _ ⟨by omega, by omega⟩
  clear hz1 hz2
  have hgd : ¬ (s.space (H.size : Int) z2 < s.r) := by omega
  have x0 := Y1.out.drew
  have hS := HP9.out _ x0
  have HHs := Lib.hid hHs
  have hPl : s.P.length ≤ 1000000 := Nat.le_trans k.P (by decide)
  have HG9 := Lib.hid hg9
  have HP64 := Lib.hid k.P
  clear hsum hleft HG HCh hH ht hsp hne hwg hHs hkn k hg hg9
  generalize s.space (H.size : Int) z2 = sp at *
  generalize hsm : ((sumP s.P : Nat) : Int) = sm at *
  generalize hlf : d.left = lf at *
  clear hsm hlf
  go_region_held3 (fun u => u.cell? ⟨b, 0, none⟩ = some (.pointer (some ⟨bd, 0, none⟩)) ∧ u.cell? ⟨b, 8, none⟩ = some (.int .i64 s.r) ∧ Ext w u) (first | exact hS | exact hS1 | exact hS2 | assumption | go_keep) (first
    | (go_at_call 28; refine (HB.out _ (by assumption)).mono ?_; rintro e w1 ⟨rfl, x1⟩; have y1 := Ext.trans (a := w) (by assumption) x1; have hS1 := HP9.out _ y1)
    | (go_at_call 18; refine (HR.out _ (by assumption)).mono ?_; rintro e w2 ⟨rfl, rfl⟩)
    | (go_at_call 27; refine (HSp.out _ (by assumption)).mono ?_; rintro e w2 ⟨rfl, x2⟩; have y2 := Ext.trans (a := w) (by assumption) x2; have hS2 := HP9.out _ y2))
  clear hS hS1 hS2 x0 x1 y1 x2
  have Y2 := Lib.hid y2
  have HF := Lib.hid (free_any w2 b bd κ μ s d (HL.out _ y2) HE0.out HFu.out HNf.out hPl 1 [f] rfl HFre.out)
  rw [show ((1 : Nat) : Int) = 1 from rfl] at HF
  clear y2 hv1 hv2 HSp HB HR HP9
  go_upto_region 14 with (go_at_call 32; refine (HF.out).mono ?_; rintro e w3 ⟨v3, rfl, hl3, hf3, hb3⟩; obtain ⟨g3, c3, rfl, hg3, hs3, k3⟩ := hb3.single; have HL3 := Lib.hid hl3; have HF3 := Lib.hid hf3; have HG3 := Lib.hid hg3; have HS3 := Lib.hid hs3; clear hb3 hl3 hf3 hg3 hs3)
  have HP3 := Lib.hid (fun u (hx : Ext w3 u) => (⟨(HL3.out.ext hx).wal.cells.1, (hx.below.cell (p := ⟨g3, 0, none⟩) HS3.out).trans k3, hx⟩ : u.cell? ⟨b, 0, none⟩ = some (.pointer (some ⟨bd, 0, none⟩)) ∧ u.cell? ⟨g3, 0, none⟩ = some (.int .i64 (f : Int)) ∧ Ext w3 u))
  have x0 : Ext w3 w3.drew := (Ext.refl w3).drew
  have hS := HP3.out _ x0
  have K3 := Lib.hid k3
  clear hgd k3
  go_region_held3 (fun u => u.cell? ⟨b, 0, none⟩ = some (.pointer (some ⟨bd, 0, none⟩)) ∧ u.cell? ⟨g3, 0, none⟩ = some (.int .i64 (f : Int)) ∧ Ext w3 u) (first | exact hS | exact hS1 | assumption | exact HP3.out _ (Ext.alloc (by assumption) _) | go_keep) (first
    | (go_at_call 33; refine (mkwr_lr _ b bd κ μ s d (HL3.out.ext (by assumption)).lr f H).mono ?_; rintro e w4 ⟨v4, rfl, hv4, ho4, x4⟩; have HV4 := Lib.hid hv4; have y4 := Ext.trans (a := w3) (by assumption) x4; have hS1 := HP3.out _ y4; obtain ⟨vx, vy, vz, rfl, _⟩ := hv4))
  all_goals
    obtain ⟨hr8, hf8⟩ := RowS.made (C := [.wr (f : Int) H, .sync]) (HL3.out.ext y4).lr (vs := [.func (.func 56) #[] #[.pointer (some ⟨vx, 0, none⟩), .pointer (some ⟨vy, 0, none⟩), .pointer (some ⟨vz, 0, none⟩)], .func (.func 30) #[.pointer (some ⟨bd, 0, none⟩)] #[]]) rfl (by intro u hu; simp at hu; rcases hu with rfl | rfl <;> rfl) (by
          intro i u c hu hc
          have h0 : i < 2 := (List.getElem?_eq_some_iff.1 hc).1
          rcases (show i = 0 ∨ i = 1 by omega) with rfl | rfl
          · simp at hu hc; subst hu hc; exact HV4.out
          · simp at hu hc; subst hc; exact hu.symm)
    have HR8 := Lib.hid hr8
    have HF8 := Lib.hid ((y4.fr κ (fun j => j = 4)).trans hf8)
    have HL8 := Lib.hid ((HL3.out.ext y4).lr.f4 hf8)
    have HX8 := Lib.hid ((Ext.refl w4).alloc (.cells #[.func (.func 56) #[] #[.pointer (some ⟨vx, 0, none⟩), .pointer (some ⟨vy, 0, none⟩), .pointer (some ⟨vz, 0, none⟩)], .func (.func 30) #[.pointer (some ⟨bd, 0, none⟩)] #[]] 69))
    obtain ⟨pp, pc, c7, _⟩ := (HL3.out.ext (y4.trans HX8.out)).wal.parts
    clear hS hS1 x0 x4 y4 hr8 hf8 ho4 HV4 HX8 HP3
    rw [show ([Value.func (.func 56) #[] #[.pointer (some ⟨vx, 0, none⟩), .pointer (some ⟨vy, 0, none⟩), .pointer (some ⟨vz, 0, none⟩)], .func (.func 30) #[.pointer (some ⟨bd, 0, none⟩)] #[]] : List Value).toArray = #[.func (.func 56) #[] #[.pointer (some ⟨vx, 0, none⟩), .pointer (some ⟨vy, 0, none⟩), .pointer (some ⟨vz, 0, none⟩)], .func (.func 30) #[.pointer (some ⟨bd, 0, none⟩)] #[]] from rfl] at HR8 HF8 HL8
    generalize w4.alloc (.cells #[.func (.func 56) #[] #[.pointer (some ⟨vx, 0, none⟩), .pointer (some ⟨vy, 0, none⟩), .pointer (some ⟨vz, 0, none⟩)], .func (.func 30) #[.pointer (some ⟨bd, 0, none⟩)] #[]] 69) = W8 at *
    generalize setK κ w4.heap.size 4 = κ8 at *
    generalize w4.heap.size = g8 at *
    have HPl := Lib.hid hPl
    go_wp2
    go_loopw [9, 88] (fun rv iv wr => ∃ (j : Nat) (p : Option Addr) (c : Nat) (κ' : Foot), j ≤ s.P.length ∧ iv = .int .i64 (j : Int) ∧ rv = .slice p (2 + j) c ∧ RowS wr b bd κ' μ p c ([.wr (f : Int) H, .sync] ++ empC s.P j) ∧ LR wr b bd κ' μ s d ∧ Fr κ (fun j => j = 4) w3 wr κ') (fun _ iv _ => s.P.length - (intOf iv).toNat)
    case atStart => exact ⟨0, _, _, κ8, Nat.zero_le _, rfl, rfl, by simpa [empC] using HR8.out, HL8.out, HF8.out⟩
    case round =>
      obtain ⟨j, p9, c9, κ9, hj, rfl, rfl, hr9, hl9, hf9⟩ := hrel
      have HR9 := Lib.hid hr9; have HL9 := Lib.hid hl9; have HF9 := Lib.hid hf9
      have hlen9 : (([.wr (f : Int) H, .sync] : List WC) ++ empC s.P j).length = 2 + j := by
        simp [empC]; omega
      have HLn := Lib.hid hlen9
      clear hr9 hl9 hf9 hlen9
      by_cases hlt : j < s.P.length
      · obtain ⟨q, hq⟩ : ∃ q, s.P[j]? = some q := ⟨_, List.getElem?_eq_getElem hlt⟩
        have HEm := Lib.hid (mkemp_lr wr b bd κ9 μ s d HL9.out j q hq)
        have HSu := Lib.hid (empC_succ s.P j q hq)
        clear hq
        go_wp2_with (first
          | (go_at_call 34; refine (HEm.out).mono ?_; rintro e w10 ⟨v10, rfl, hv10, ho10, x10⟩; have HV10 := Lib.hid hv10; have X10 := Lib.hid x10; obtain ⟨vx, vy, vz, v2, x2, y2, z2, rfl, _⟩ := hv10; have HO10 := Lib.hid ho10; clear x10 ho10)
          | (refine append_calls rfl (.tmp 91) (.tmp 95) rfl ((HL9.out.ext X10.out).ext ((Ext.refl _).alloc _)) HLn.out rfl ((HR9.out.ext X10.out).ext ((Ext.refl _).alloc _)) w10.heap.size 1 [.func (.func 59) #[] #[.pointer (some ⟨vx, 0, none⟩), .pointer (some ⟨vy, 0, none⟩), .pointer (some ⟨vz, 0, none⟩)]] [.emp j q.1] rfl rfl rfl (Blk.new _ _ _) (by intro u hu; simp at hu; subst hu; rfl) (by
              intro i u c hu hc
              have h0 : i < 1 := (List.getElem?_eq_some_iff.1 hc).1
              obtain rfl : i = 0 := by omega
              simp at hu hc; subst hu hc; exact HV10.out.ext ((Ext.refl _).alloc _)) (by have := HP64.out; omega) ?_; intro p11 c11 w11 κ11 hr11 hl11 hf11; have HR11 := Lib.hid hr11; have HL11 := Lib.hid hl11; have HF11 := Lib.hid hf11; clear hr11 hl11 hf11))
        go_roundw
        case rel => exact ⟨j + 1, p11, c11, κ11, hlt, by go_num, rfl, by rw [HSu.out, ← List.append_assoc]; exact HR11.out, HL11.out, (HF9.out.ext (X10.out.alloc _)).trans HF11.out⟩
        case measure => simp [intOf]; omega
      · obtain rfl : j = s.P.length := by omega
        have c0 := HL9.out.wal.cells.1
        have HGo := Lib.hid (fun wx κx (hfx : Fr κ (fun j => j = 4) w3 wx κx) (hlx : LR wx b bd κx μ s d) p c (hrx : RowS wx b bd κx μ p c (([.wr (f : Int) H, .sync] ++ empC s.P s.P.length) ++ [.sync])) => (⟨do_any' wx b bd _ μ s d (LR.done HL3.out hfx hlx).1 p c (cpC f H s.P) (RowS.done hrx hlx) (by unfold cpC; rw [List.length_append, HLn.out]; have := HP64.out; simp; omega) HOk.out s9 d9 0 HDo.out, (LR.done HL3.out hfx hlx).2⟩ : _ ∧ _))
        rw [show (cpC f H s.P).length = 2 + s.P.length + 1 by unfold cpC; rw [List.length_append, HLn.out]; rfl] at HGo
        go_upto_region 23 with (first
          | (refine append_calls rfl (.tmp 99) (.tmp 105) rfl (HL9.out.ext ((Ext.refl _).alloc _)) HLn.out rfl (HR9.out.ext ((Ext.refl _).alloc _)) wr.heap.size 1 [.func (.func 30) #[.pointer (some ⟨bd, 0, none⟩)] #[]] [.sync] rfl rfl rfl (Blk.new _ _ _) (by intro u hu; simp at hu; subst hu; rfl) (by
              intro i u c hu hc
              have h0 : i < 1 := (List.getElem?_eq_some_iff.1 hc).1
              obtain rfl : i = 0 := by omega
              simp at hu hc; subst hc; exact hu.symm) (by have := HP64.out; omega) ?_; intro p11 c11 w11 κ11 hr11 hl11 hf11; obtain ⟨hd11, hk11⟩ := HGo.out w11 κ11 ((HF9.out.ext ((Ext.refl _).alloc _)).trans hf11) hl11 p11 c11 hr11; have HD11 := Lib.hid hd11; have HK11 := Lib.hid hk11; clear hr11 hl11 hf11 hd11 hk11)
          | (go_at_call 29; refine (HD11.out).mono ?_; rintro e w12 ⟨rfl, κ12, μ12, hl12, hf12⟩; have HL12 := Lib.hid hl12; have HF12 := Lib.hid (HK11.out.trans hf12); clear hl12 hf12))
        obtain ⟨_, _, _, _, c4, _, c6, _, _⟩ := HL12.out.wal.cells
        have kg : w12.cell? ⟨g3, 0, none⟩ = some (.int .i64 (f : Int)) := by
          rw [World.cell?_of_block (w := w3) (a := ⟨g3, 0, none⟩) (HF12.out.other g3 HS3.out (by
            rw [Classical.byContradiction fun e : ¬ κ g3 = 0 => by have := (HL.out _ Y2.out).wal.ins g3 e; have := HG3.out; omega]; decide) (by
            rw [Classical.byContradiction fun e : ¬ μ g3 = 0 => by have := (HL.out _ Y2.out).disk.ins g3 e; have := HG3.out; omega]; decide))]
          exact K3.out
        have hw9 : IntKind.u64.wrap ((s9.g : Int) + 1) = ((s9.g + 1 : Nat) : Int) := u64_nat (x := s9.g + 1) (by have := HG9.out; omega)
        have HBg := Lib.hid (begin_any w12.drew b bd κ12 μ12 s9 d9 (HL12.out.ext (Ext.refl w12).drew) (s9.g + 1) s9.n f H.size)
        obtain ⟨gn9, hgn9⟩ : ∃ z : Int, z = ((s9.g + 1 : Nat) : Int) := ⟨_, rfl⟩
        rw [← hgn9] at hw9 HBg
        clear hgn9
        go_wp2_with fail
        go_still_tail 16, (by kernel_rfl)
        change wpList _ _ _ _ _ w12.drew
        generalize hW12 : w12.drew = W12 at *
        go_wp2_with (go_at_call 35; refine (HBg.out).mono ?_; rintro e w13 ⟨rfl, hp13⟩; have HP13 := Lib.hid hp13; clear hp13)
        go_ret
        subst hW12
        exact ⟨rfl, LPost.after (((Y2.out.fr2 κ μ).trans HF3.out).trans (HF12.out.trans ((Ext.refl w12).drew.fr2 κ12 μ12))) HP13.out⟩
end Go.Proofs.YtbekdcpdfmfopaaGreat
end

section
namespace Go.Proofs.YtbekdcpdfmfopaaGreat
open Go.RowKit Go.Shelf
attribute [local go_sem] Oper.semAt_some

/-- How many bytes pieces have together. -/
def lenX (xs : List Pc) : Nat := (xs.map fun x => 16 + x.1.2.size).sum
theorem lenX_snoc (xs : List Pc) (x : Pc) : lenX (xs ++ [x]) = lenX xs + (16 + x.1.2.size) := by simp [lenX]
theorem lenX_le (xs : List Pc) : lenX xs ≤ xs.length * 65552 := by
  induction xs with
  | nil => simp [lenX]
  | cons x r ih =>
    have h1 := x.2
    unfold lenX at ih ⊢
    simp only [List.map_cons, List.sum_cons, List.length_cons]
    omega
theorem lenX_pcs (n : Nat) (l : List ByteArray) (hs : ∀ x ∈ l, x.size ≤ 65536) (i : Nat) (hi : i ≤ l.length) : lenX ((pcs n l).take i) = lenP l i := by
  induction i with
  | zero => simp [lenX, lenP, sumT]
  | succ i ih =>
    obtain ⟨t, ht⟩ : ∃ t, l[i]? = some t := ⟨_, List.getElem?_eq_getElem (by omega)⟩
    rw [pcs_take n l i t ht, pcO_yes _ _ (hs t (List.mem_of_getElem? ht)), lenX_snoc, ih (by omega), lenP_succ l i t ht]
theorem lenX_all (n : Nat) (l : List ByteArray) (hs : ∀ x ∈ l, x.size ≤ 65536) : lenX (pcs n l) = lenP l l.length := by
  have := lenX_pcs n l hs l.length (Nat.le_refl _)
  rwa [List.take_of_length_le (by rw [pcs_length]; omega)] at this
def NdI (bb bg m : Nat) (pre : List Pc) (W : World) : Prop := Blk W bb 3 [.int .i64 (lenX pre : Int)] ∧ Blk W bg 3 [.int .i64 0] ∧ m ≤ W.heap.size
theorem ndI_own (bb bg m : Nat) : Go.Own (NdI bb bg m) := fun s X Y row hs hg hr => by
  obtain ⟨h1, h2, h3⟩ := hs
  exact ⟨blk_kept h1 hg hr, blk_kept h2 hg hr, Nat.le_trans h3 hg.size⟩
theorem results_two_ints {fn : Func} {p q : Tmp} (h : fn.results = #[.cell p 3, .cell q 3]) (tmps : Array Value) (w : World) (a b : Addr) (x y : Value)
    (hp : tmps.getD p undef = .pointer (some a)) (hq : tmps.getD q undef = .pointer (some b)) (ha : w.cell? a = some x) (hb : w.cell? b = some y) :
    (results fn tmps).run Tryz.prog w = .ok (.tuple #[x, y]) w := by
  have hp' : tmps[p]?.getD undef = .pointer (some a) := by simpa using hp
  have hq' : tmps[q]?.getD undef = .pointer (some b) := by simpa using hq
  simp [results, h, hp', hq', asAddr, load_int w a x ha, load_int w b y hb]
set_option maxRecDepth 100000 in
set_option maxHeartbeats 4000000 in
theorem need_any (w : World) (p : Option Addr) (c : Nat) (l : List ByteArray) (b bd : Nat) (κ μ : Foot) (s : WS) (d : DS) (h : LS w b bd κ μ s d) (k : s.Ok) (q : Nat × Nat) (hq : s.P[s.P.length - 1]? = some q) (ht : TextsP w p l) (hll : l.length ≤ 1000000) (hs : ∀ x ∈ l, x.size ≤ 65536) (hfit : ∀ i, i < l.length → q.2 + lenP l i < s.sz) :
    Calls Tryz.prog 38 #[.pointer (some ⟨b, 0, none⟩), .slice p l.length c] w fun e w' => e = .returned (.tuple #[.int .i64 ((lenP l l.length : Nat) : Int), .int .i64 0]) ∧ Ext w w' := by
  have hsum : ∀ i, lenP l i ≤ 16 * i + 1000000 * 65536 := fun i => by
    have h1 := sumT_le (l.take i) 65536 (fun x hx => hs x (List.take_subset i l hx))
    have h2 : (l.take i).length ≤ 1000000 := by rw [List.length_take]; omega
    have := Nat.le_trans h1 (Nat.mul_le_mul_right _ h2)
    unfold lenP; omega
  have HSum := Lib.hid hsum
  refine (callsIn_wide (n := 9)).1 ?_
  refine callsIn_of_wp_marks Tryz.func38 rfl trivial ?_ rfl
  simp only [Tryz.ntmps38, List.size_toArray, List.length_cons, List.length_nil, Nat.reduceAdd, Nat.reduceSub, Array.replicate_succ, Array.replicate_zero, List.push_toArray, List.append_toArray, List.nil_append, List.cons_append]
  gi_wp2_with (refine ⟨trivial, ?_⟩; gi_at_call 61; refine (callsIn_wide.2 (pieces_any _ b p l.length c)).mono ?_; rintro e w2 ⟨rfl, rfl⟩)
  have hb0 : Blk ((((w.alloc (.cells #[.int .i64 0] 3)).alloc (.cells #[.int .i64 0] 3)).alloc (.cells #[.pointer (some ⟨b, 0, none⟩)] 27)).alloc (.cells #[.slice p l.length c] 33)) w.heap.size 3 [.int .i64 0] := (((Blk.new w _ _).alloc _).alloc _).alloc _
  have hb1 : Blk ((((w.alloc (.cells #[.int .i64 0] 3)).alloc (.cells #[.int .i64 0] 3)).alloc (.cells #[.pointer (some ⟨b, 0, none⟩)] 27)).alloc (.cells #[.slice p l.length c] 33)) (w.heap.size + 1) 3 [.int .i64 0] := by
    have := ((Blk.new (w.alloc (.cells #[.int .i64 0] 3)) [.int .i64 0] 3).alloc (.cells #[.pointer (some ⟨b, 0, none⟩)] 27)).alloc (.cells #[.slice p l.length c] 33)
    simpa using this
  have hb2 : Blk ((((w.alloc (.cells #[.int .i64 0] 3)).alloc (.cells #[.int .i64 0] 3)).alloc (.cells #[.pointer (some ⟨b, 0, none⟩)] 27)).alloc (.cells #[.slice p l.length c] 33)) (w.heap.size + 1 + 1) 27 [.pointer (some ⟨b, 0, none⟩)] := by
    have := (Blk.new ((w.alloc (.cells #[.int .i64 0] 3)).alloc (.cells #[.int .i64 0] 3)) [.pointer (some ⟨b, 0, none⟩)] 27).alloc (.cells #[.slice p l.length c] 33)
    simpa using this
  have hb3 : Blk ((((w.alloc (.cells #[.int .i64 0] 3)).alloc (.cells #[.int .i64 0] 3)).alloc (.cells #[.pointer (some ⟨b, 0, none⟩)] 27)).alloc (.cells #[.slice p l.length c] 33)) (w.heap.size + 1 + 1 + 1) 33 [.slice p l.length c] := by
    have := Blk.new (((w.alloc (.cells #[.int .i64 0] 3)).alloc (.cells #[.int .i64 0] 3)).alloc (.cells #[.pointer (some ⟨b, 0, none⟩)] 27)) [.slice p l.length c] 33
    simpa using this
  have hx0 : Ext w ((((w.alloc (.cells #[.int .i64 0] 3)).alloc (.cells #[.int .i64 0] 3)).alloc (.cells #[.pointer (some ⟨b, 0, none⟩)] 27)).alloc (.cells #[.slice p l.length c] 33)) := ((((Ext.refl w).alloc _).alloc _).alloc _).alloc _
  generalize ((((w.alloc (.cells #[.int .i64 0] 3)).alloc (.cells #[.int .i64 0] 3)).alloc (.cells #[.pointer (some ⟨b, 0, none⟩)] 27)).alloc (.cells #[.slice p l.length c] 33)) = W0 at *
  obtain ⟨n₀, hn₀⟩ : ∃ n, n = w.heap.size := ⟨_, rfl⟩
  obtain ⟨bg, hbg⟩ : ∃ n, n = w.heap.size + 1 := ⟨_, rfl⟩
  obtain ⟨y, hyE⟩ : ∃ n, n = w.heap.size + 1 + 1 := ⟨_, rfl⟩
  obtain ⟨lb, hlbE⟩ : ∃ n, n = w.heap.size + 1 + 1 + 1 := ⟨_, rfl⟩
  have htl := ht.low hx0
  have hB0 : Below n₀ w W0 := by rw [hn₀]; exact hx0.below
  have hin : ∀ g, κ g ≠ 0 ∨ μ g ≠ 0 → g < n₀ := fun g hg => by
    rw [hn₀]
    rcases hg with q | q
    · exact h.wal.ins g q
    · exact h.disk.ins g q
  rw [← hlbE] at hb3
  rw [← hyE] at hb2
  rw [← hbg] at hb1
  rw [← hn₀] at hb0 htl
  rw [← hlbE, ← hyE, ← hbg, ← hn₀]
  have hyW := hb2.lt
  have hn0W : n₀ ≤ W0.heap.size := by have := hb0.lt; omega
  have h01 : n₀ < bg := by omega
  have h12 : bg < y := by omega
  have hL0 := h.ext hx0
  have Hn₀ := Lib.hid hn₀
  clear hn₀ hbg hyE hlbE hx0
  refine wpIn_rangeFunc_ownH rfl (by omega) (gf := 83) (lb := #[.pointer (some ⟨y, 0, none⟩), .pointer (some ⟨lb, 0, none⟩)]) rfl trivial (enters_of Tryz.func83 (by kernel_rfl) rfl)
    (pieces_stops (9 - 1) (by omega) y lb n₀ p c l W0 b bd κ μ s d hL0 k hn0W q hq hb2 hb3 hyW hin htl hll hs hfit) (fun h1 h2 => KpL.trans h1 h2) (fun W l o o' hwl h h1 h2 => KpL.put hn0W (by intro g hg; simp at hg; subst hg; exact hyW) W l o o' hwl h h1 h2) (Below.refl _ _) (fun _ => rfl)
    (fun pre W => NdI n₀ bg W0.heap.size pre W ∧ Below n₀ w W) (fun _ _ _ => False)
    (OwnFrom.and (Go.Own.from (ndI_own _ _ _) _) (ownFrom_below (by rw [Hn₀.out]; exact Nat.le_refl _) hn0W))
    (fun _ => Go.Own.from (fun _ _ _ _ hs _ _ => hs) _)
    ⟨⟨hb0, hb1, Nat.le_refl _⟩, hB0⟩
    (fun x a' W => ∃ Bx, bg < Bx ∧ Bx ≠ y ∧ Blk W Bx 113 [.string ⟨#[]⟩, .int .u64 (x.1.1 : Int), .string x.1.2] ∧ a' = { tmps := #[.pointer (some ⟨b, 0, none⟩), .slice p l.length c, undef, undef, .pointer (some ⟨n₀, 0, none⟩), .pointer (some ⟨bg, 0, none⟩), .pointer (some ⟨Bx, 0, none⟩), .pointer (some ⟨b, 0, none⟩), .slice p l.length c, .func (.func 83) #[] #[.pointer (some ⟨y, 0, none⟩), .pointer (some ⟨lb, 0, none⟩)], pcV x, undef, undef, undef, undef, undef, undef, undef, undef, undef, undef, undef], defers := [] })
    (fun x a' _ X Y row hs hg hr => by obtain ⟨Bx, h1, h2, h3, h4⟩ := hs; exact ⟨Bx, h1, h2, blk_kept h3 hg (fun r e => (hr r e).2), h4⟩)
    ?assign ?body ?done ?stop
  case assign =>
    rintro l' pre x W K ⟨⟨h1, h2, h3⟩, hB1⟩ hK
    unfold pcV at hK ⊢
    gi_wp2
    exact hK _ _ ((KeepsOthers.alloc _ _).from _) (KpL.of_ext ((Ext.refl W).alloc _) (Nat.le_trans hn0W h3) (by intro g hg; simp at hg; subst hg; omega)) ⟨⟨h1.alloc _, h2.alloc _, Nat.le_trans h3 (by simp)⟩, hB1.alloc (Nat.le_trans hn0W h3) _⟩ ⟨W.heap.size, h2.lt, by omega, Blk.new W _ _, rfl⟩
  case body =>
    rintro l' pre x a' W hl ⟨r, hr⟩ ⟨⟨h1, h2, h3⟩, hB1⟩ ⟨Bx, hBx, hBy, bX, rfl⟩ hlt
    have hpl : pre.length ≤ 1000000 := by rw [pcs_length] at hlt; omega
    have hle := lenX_le pre
    have hx65 := x.2
    have HSz := Lib.hid (fun u => psize_any ⟨#[]⟩ x.1.1 x.1.2 (by decide) (by omega) u)
    obtain ⟨sz1, hsz1⟩ : ∃ z, z = (⟨#[]⟩ : ByteArray).size + (16 + x.1.2.size) := ⟨_, rfl⟩
    rw [← hsz1] at HSz
    have hsz2 : sz1 = 16 + x.1.2.size := by rw [hsz1, show (⟨#[]⟩ : ByteArray).size = 0 from rfl, Nat.zero_add]
    have hsn := lenX_snoc pre x
    rw [← hsz2] at hsn
    obtain ⟨z1, hz1⟩ : ∃ z, z = lenX (pre ++ [x]) := ⟨_, rfl⟩
    have hwu : IntKind.i64.wrap ((lenX pre : Int) + (sz1 : Int)) = (z1 : Int) := by rw [IntWalk.i64_in _ ⟨by omega, by omega⟩, hz1, hsn]; omega
    have c1 := h1.cell 0 _ rfl
    have f1 := h1.frozen 0
    have x0 := bX.cell 0 _ rfl
    have x1 := bX.cell 1 _ rfl
    have x2 := bX.cell 2 _ rfl
    have H1 := Lib.hid h1; have H2 := Lib.hid h2; have H3 := Lib.hid h3; have HB1 := Lib.hid hB1; have BX := Lib.hid bX
    have HZ := Lib.hid hz1
    have hmx : Tryz.prog.follows .mixedOrders = true := by kernel_rfl
    unfold pcV
    clear h1 h2 h3 hB1 bX hpl hle hsn hsz1 hsz2 hz1
    generalize (lenX pre : Int) = v0 at *
    gi_wp2
    gi_region_with_o (refine ⟨trivial, ?_⟩; gi_at_call 62; refine (CallsIn.inRound l' (callsIn_wide.2 (HSz.out _))).mono ?_; rintro e w6 ⟨rfl, x6⟩; have X6 := Lib.hid x6; have d1 := (H1.out.drew.ext x6).cell 0 _ rfl; have e1 := (H1.out.drew.ext x6).frozen 0; have d2 := (BX.out.drew.ext x6).cell 0 _ rfl; clear x6)
    all_goals
      gi_wp2
      have x7 : Ext W w6 := (Ext.refl W).drew.trans X6.out
      have hnW : n₀ ≤ W.heap.size := Nat.le_trans hn0W H3.out
      have hyn : y ≠ n₀ := by omega
      have hkp : KpL n₀ [y] W (w6.setCell ⟨n₀, 0, none⟩ (.int .i64 (z1 : Int))) := (KpL.of_ext x7 hnW (by intro g hg; simp at hg; subst hg; have := H3.out; omega)).trans ⟨(Below.refl n₀ w6).setCell (p := ⟨n₀, 0, none⟩) (Nat.le_refl _) _, fun g hg => Below.heap_setCell _ _ _ _ (by simp at hg; subst hg; exact hyn)⟩
      refine ⟨((KeepsOthers.of_grownBy (grown_of_ext x7) (fun j o e => by cases e)).trans (KeepsOthers.setCell _ _ _)).from _, hkp, ⟨by rw [← HZ.out]; exact (H1.out.ext x7).set_ 0 _, (H2.out.ext x7).other (by omega) 0 _, ?_⟩, HB1.out.trans hkp.1⟩
      have h4 := x7.size
      have h5 := H3.out
      simp only [World.setCell, Array.size_modify]
      omega
  case done =>
    rintro D ys W hD rfl ⟨⟨h1, h2, h3⟩, hB1⟩ hK
    rw [lenX_all s.n l hs] at h1
    have c1 := h1.cell 0 _ rfl
    have c2 := h2.cell 0 _ rfl
    have f1 := h1.frozen 0
    have f2 := h2.frozen 0
    have hmx : Tryz.prog.follows .mixedOrders = true := by kernel_rfl
    have H1 := Lib.hid h1; have H2 := Lib.hid h2; have HB1 := Lib.hid hB1; have HK := Lib.hid hK
    clear h1 h2 h3 hB1 hK
    obtain ⟨v9, hv9⟩ : ∃ v, v = ((lenP l l.length : Nat) : Int) := ⟨_, rfl⟩
    rw [← hv9] at H1 c1
    have HV9 := Lib.hid hv9
    clear hv9
    gi_wp2
    gi_region_with_o (fail)
    all_goals
      gi_wp2
      have g1 : Blk (((W.setCell ⟨n₀, 0, none⟩ (.int .i64 v9)).setCell ⟨bg, 0, none⟩ (.int .i64 0)).drew) n₀ 3 [.int .i64 v9] := ((H1.out.set_ 0 (.int .i64 v9)).other (by omega) 0 _).drew
      have g2 : Blk (((W.setCell ⟨n₀, 0, none⟩ (.int .i64 v9)).setCell ⟨bg, 0, none⟩ (.int .i64 0)).drew) bg 3 [.int .i64 0] := ((H2.out.other (by omega) 0 (.int .i64 v9)).set_ 0 (.int .i64 0)).drew
      have gb : Below n₀ W (((W.setCell ⟨n₀, 0, none⟩ (.int .i64 v9)).setCell ⟨bg, 0, none⟩ (.int .i64 0)).drew) := (((Below.refl n₀ W).setCell (p := ⟨n₀, 0, none⟩) (Nat.le_refl _) _).setCell (p := ⟨bg, 0, none⟩) (by show n₀ ≤ bg; omega) _).drew
      have gk : KeepsOthers W (((W.setCell ⟨n₀, 0, none⟩ (.int .i64 v9)).setCell ⟨bg, 0, none⟩ (.int .i64 0)).drew) := ((KeepsOthers.setCell W _ _).trans (KeepsOthers.setCell _ _ _)).trans (KeepsOthers.drew _)
      generalize (((W.setCell ⟨n₀, 0, none⟩ (.int .i64 v9)).setCell ⟨bg, 0, none⟩ (.int .i64 0)).drew) = Z at *
      have hKZ : Z.heap[D]? = some (.deferred (some [])) := gk.same _ _ HK.out rfl
      refine ⟨by simp, .inl ⟨_, _, rfl, run_takeDeferred hKZ, ?_⟩⟩
      have kept : ∀ {b : Nat} {T : TypeId} {cs : List Value} {o' : Obj}, Blk Z b T cs → Blk (Z.putObj D o') b T cs := fun h => blk_kept h (grownBy_putObj' Z D _) (fun r e => by cases e; exact ⟨_, hKZ, rfl⟩)
      refine ⟨_, results_two_ints rfl _ _ ⟨n₀, 0, none⟩ ⟨bg, 0, none⟩ _ _ rfl rfl ((kept g1).cell 0 _ rfl) ((kept g2).cell 0 _ rfl), by rw [HV9.out], ?_⟩
      exact (Hn₀.out ▸ (HB1.out.trans gb) : Below w.heap.size w Z).trans (belowK_b (w := w) (Nat.le_refl _) Z D _ _ (by have := Hn₀.out; omega) hKZ rfl rfl)
  case stop =>
    rintro D c pre W hD _ hf _
    exact hf.elim
end Go.Proofs.YtbekdcpdfmfopaaGreat
end

section
namespace Go.Proofs.YtbekdcpdfmfopaaGreat
open Go.RowKit
section
variable {F : Fence} {n : Nat} {P : Program} {md : Region.Mode} {ops : Array Oper} {Q : Exit → Act → World → Prop}
theorem wpAnyIn_inv (J : Array Bool → Act → World → Prop) (hsize : ∀ L a w, J L a w → L.size = ops.size)
    (step : ∀ L a w i, J L a w → i ∈ Region.ready md ops L → wpOpIn F n P ops Q i (J (L.setIfInBounds i true)) a w)
    (last : ∀ L a w, J L a w → Region.ready md ops L = [] → Q .normal a w) :
    ∀ (fuel : Nat) (L : Array Bool) (a : Act) (w : World), leftN ops.size L ≤ fuel → J L a w → wpAnyIn F n P md ops Q fuel L a w
  | 0, L, a, w, hf, hj => by
    have hr : Region.ready md ops L = [] := ready_left (by omega)
    exact ⟨hr, last L a w hj hr⟩
  | fuel + 1, L, a, w, hf, hj => ⟨last L a w hj, fun i hi => wpOpIn_mono (fun a' w' hj' => wpAnyIn_inv J hsize step last fuel _ a' w' (by have := left_lt (hsize L a w hj) hi; omega) hj') (step L a w i hj hi)⟩
end
end Go.Proofs.YtbekdcpdfmfopaaGreat
end

section
namespace Go.Proofs.YtbekdcpdfmfopaaGreat
open Go.RowKit Go.Shelf
attribute [local go_sem] Oper.semAt_some

theorem make_calls (n : Nat) (hn : n ≤ 1000000) : ∀ u : World, (Instr.makeSlice 71 (.int .i64 0) (.int .i64 (n : Int))).run Tryz.prog u =
      .ok (.slice (some ⟨u.heap.size, 0, none⟩) 0 n) (u.alloc (.cells (madeCells #[.nilFunc] n) 69)) := fun u => by
  obtain ⟨i0, hi, hz0, hz1, hz2⟩ := info_parts infoCall
  have h := run_make (P := Tryz.prog) u 71 69 i0 .nilFunc Tryz.underlying71 hi hz0 .i64 .i64 0 (n : Int) (Int.le_refl _) (by omega) (by rw [hz2]; omega) (by omega)
  simpa [hz1, Value.cells] using h
/-- A piece added, as a closure. -/
def IsA (W : World) (b n₀ f : Nat) (u : Value) (x : Pc) : Prop := ∃ x1 y1 z1, u = .func (.func 85) #[] #[.pointer (some ⟨x1, 0, none⟩), .pointer (some ⟨y1, 0, none⟩), .pointer (some ⟨z1, 0, none⟩)] ∧ (n₀ ≤ x1 ∧ n₀ ≤ y1 ∧ n₀ ≤ z1) ∧
  Blk W x1 113 [.string ⟨#[]⟩, .int .u64 (x.1.1 : Int), .string x.1.2] ∧ Blk W y1 27 [.pointer (some ⟨b, 0, none⟩)] ∧ Blk W z1 3 [.int .i64 (f : Int)]
theorem IsA.kept {W W' : World} {b n₀ f : Nat} {u : Value} {x : Pc} (h : IsA W b n₀ f u x) (hk : ∀ (g : Nat) (T : TypeId) (cs : List Value), T ≠ 69 → T ≠ 71 → Blk W g T cs → Blk W' g T cs) : IsA W' b n₀ f u x := by
  obtain ⟨x1, y1, z1, h1, h2, h3, h4, h5⟩ := h
  exact ⟨x1, y1, z1, h1, h2, hk _ _ _ (by decide) (by decide) h3, hk _ _ _ (by decide) (by decide) h4, hk _ _ _ (by decide) (by decide) h5⟩
def ApI (b f n₀ rb wb fb m y : Nat) (pre : List Pc) (W : World) : Prop := ∃ v vs, Blk W rb 71 [v] ∧ W.ownsRow n₀ 69 1 v pre.length vs ∧ (∀ (i : Nat) (u : Value) (x : Pc), vs[i]? = some u → pre[i]? = some x → IsA W b n₀ f u x) ∧
  Blk W wb 27 [.pointer (some ⟨b, 0, none⟩)] ∧ Blk W fb 3 [.int .i64 (f : Int)] ∧ m ≤ W.heap.size ∧ Blk W y 27 [.pointer (some ⟨b, 0, none⟩)]
theorem apI_own (b f n₀ rb wb fb m y : Nat) : Go.Own (ApI b f n₀ rb wb fb m y) := fun s X Y row hs hg hr => by
  obtain ⟨v, vs, h1, h2, h3, h4, h5, h6, h7⟩ := hs
  have kp : ∀ {g : Nat} {T : TypeId} {cs : List Value}, Blk X g T cs → Blk Y g T cs := fun h => blk_kept h hg hr
  refine ⟨v, vs, kp h1, h2.kept hg ?_, fun i u x hu hx => (h3 i u x hu hx).kept (fun g T cs _ _ h => kp h), kp h4, kp h5, Nat.le_trans h6 hg.size, kp h7⟩
  rcases h2.2 with ⟨rfl, _⟩ | ⟨g, cap, cur, rfl, _, hgg, _⟩
  · exact .inl rfl
  · right
    intro e
    obtain ⟨o, ho, hn⟩ := hr g e.symm
    rw [hgg] at ho
    cases ho
    cases hn
theorem adding_any (w : World) (b f n : Nat) (t : ByteArray) : Calls Tryz.prog 64 #[.pointer (some ⟨b, 0, none⟩), .int .i64 (f : Int), .agg #[.string ⟨#[]⟩, .int .u64 (n : Int), .string t]] w fun e w' => e = .returned (.func (.func 85) #[] #[.pointer (some ⟨w.heap.size + 2, 0, none⟩), .pointer (some ⟨w.heap.size, 0, none⟩), .pointer (some ⟨w.heap.size + 1, 0, none⟩)]) ∧
    Ext w w' ∧ Blk w' (w.heap.size + 2) 113 [.string ⟨#[]⟩, .int .u64 (n : Int), .string t] ∧ Blk w' w.heap.size 27 [.pointer (some ⟨b, 0, none⟩)] ∧ Blk w' (w.heap.size + 1) 3 [.int .i64 (f : Int)] := by
  have B0 := Lib.hid (((Blk.new w [.pointer (some ⟨b, 0, none⟩)] 27).alloc (.cells #[.int .i64 (f : Int)] 3)).alloc (.cells #[.string ⟨#[]⟩, .int .u64 (n : Int), .string t] 113))
  have B1 := Lib.hid ((Blk.new (w.alloc (.cells #[.pointer (some ⟨b, 0, none⟩)] 27)) [.int .i64 (f : Int)] 3).alloc (.cells #[.string ⟨#[]⟩, .int .u64 (n : Int), .string t] 113))
  have B2 := Lib.hid (Blk.new ((w.alloc (.cells #[.pointer (some ⟨b, 0, none⟩)] 27)).alloc (.cells #[.int .i64 (f : Int)] 3)) [.string ⟨#[]⟩, .int .u64 (n : Int), .string t] 113)
  have HX := Lib.hid ((((Ext.refl w).alloc (.cells #[.pointer (some ⟨b, 0, none⟩)] 27)).alloc (.cells #[.int .i64 (f : Int)] 3)).alloc (.cells #[.string ⟨#[]⟩, .int .u64 (n : Int), .string t] 113))
  go_enter Tryz.func64, Tryz.ntmps64
  go_wp2
  go_ret
  exact ⟨rfl, HX.out, by simpa using B2.out, B0.out, by simpa using B1.out⟩
/-- append(row, one), run: what it leaves. -/
theorem run_append_call {w : World} {n₀ n : Nat} {p : Option Addr} {cap : Nat} {vs : List Value} (h : w.ownsRow n₀ 69 1 (.slice p n cap) n vs) (hn : n ≤ 1000000) (hB : n₀ ≤ w.heap.size) (g : Nat) (u : Value) (hb : Blk w g 69 [u]) (hu : u.oneCell' = true) (ty : TypeId) :
    ∃ p' c' w', (Builtin.append_ #[71, 71] ty #[.slice p n cap, .slice (some ⟨g, 0, none⟩) 1 1]).run Tryz.prog w = .ok (.slice p' (n + 1) c') w' ∧ w'.ownsRow n₀ 69 1 (.slice p' (n + 1) c') (n + 1) (vs ++ [u]) ∧ w.grownBy w' (Value.slice p n cap).ownBlock := by
  obtain ⟨i0, hi, hz0, hz1, hz2⟩ := info_parts infoCall
  obtain ⟨v', w', h1, h2, h3, _⟩ := run_append_own (P := Tryz.prog) w n₀ 71 ty 69 i0 .nilFunc 1 8 Tryz.underlying71 hi hz0 hz1 hz2 rfl (by decide) _ n vs h ⟨g, 0, none⟩ 1 1 [u] rfl (fun j u hj => by rw [add_zero_off]; exact hb.cell j u hj) (fun x hx => by simp at hx; subst hx; exact hu) (by unfold maxLen; omega) (by omega) hB
  rcases h2.2 with ⟨_, h0⟩ | ⟨g', cap', cur, rfl, _⟩
  · omega
  · exact ⟨_, _, _, h1, h2, h3⟩
/-- Behind the append: the row grown, all else kept. -/
def ApG (W : World) (b f n₀ rb wb fb m y : Nat) (pre : List Pc) (vo v : Value) (u : World) : Prop := ∃ vs, u.ownsRow n₀ 69 1 v pre.length vs ∧ (∀ (i : Nat) (k : Value) (x : Pc), vs[i]? = some k → pre[i]? = some x → IsA u b n₀ f k x) ∧ Blk u rb 71 [vo] ∧
  Blk u wb 27 [.pointer (some ⟨b, 0, none⟩)] ∧ Blk u fb 3 [.int .i64 (f : Int)] ∧ m ≤ u.heap.size ∧ KpL n₀ [y] W u ∧ KeepsOthers W u
/-- What is known while the region that appends a closure is under way. -/
def ApS (W : World) (b f n₀ rb wb fb m y : Nat) (pre : List Pc) (x : Pc) (vo : Value) (L : Array Bool) (a : Act) (u : World) : Prop :=
  (L.getD 4 true = false ∧ L.getD 5 true = false ∧ L.getD 6 true = false ∧ L.getD 7 true = false ∧ u = W.drew) ∨
  (L.getD 4 true = true ∧ L.getD 5 true = false ∧ L.getD 6 true = false ∧ L.getD 7 true = false ∧ Ext W u ∧ IsA u b n₀ f (a.tmps.getD 32 undef) x) ∨
  (L.getD 4 true = true ∧ L.getD 5 true = true ∧ L.getD 6 true = false ∧ L.getD 7 true = false ∧ Ext W u ∧ ∃ k g, a.tmps.getD 33 undef = .slice (some ⟨g, 0, none⟩) 1 1 ∧ Blk u g 69 [k] ∧ k.oneCell' = true ∧ IsA u b n₀ f k x) ∨
  (L.getD 4 true = true ∧ L.getD 5 true = true ∧ L.getD 6 true = true ∧ L.getD 7 true = false ∧ ∃ p' c', a.tmps.getD 34 undef = .slice p' (pre.length + 1) c' ∧ ApG W b f n₀ rb wb fb m y (pre ++ [x]) vo (.slice p' (pre.length + 1) c') u) ∨
  (L.getD 4 true = true ∧ L.getD 5 true = true ∧ L.getD 6 true = true ∧ L.getD 7 true = true ∧ ∃ v, ApG W b f n₀ rb wb fb m y (pre ++ [x]) v v u)
structure ApJ (W : World) (b f n₀ rb wb fb m y Bx : Nat) (pre : List Pc) (x : Pc) (vo : Value) (L : Array Bool) (a : Act) (u : World) : Prop where
  size : L.size = 8
  defers : a.defers = []
  tmps : a.tmps.size = 36
  b3 : a.tmps.getD 3 undef = .pointer (some ⟨wb, 0, none⟩)
  b7 : a.tmps.getD 7 undef = .pointer (some ⟨rb, 0, none⟩)
  b8 : a.tmps.getD 8 undef = .pointer (some ⟨fb, 0, none⟩)
  b9 : a.tmps.getD 9 undef = .pointer (some ⟨Bx, 0, none⟩)
  f0 : L.getD 0 true = true → a.tmps.getD 28 undef = vo
  f1 : L.getD 1 true = true → a.tmps.getD 29 undef = .pointer (some ⟨b, 0, none⟩)
  f2 : L.getD 2 true = true → a.tmps.getD 30 undef = .int .i64 (f : Int)
  f3 : L.getD 3 true = true → a.tmps.getD 31 undef = pcV x
  c4 : L.getD 4 true = true → L.getD 1 true = true ∧ L.getD 2 true = true ∧ L.getD 3 true = true
  c6 : L.getD 6 true = true → L.getD 0 true = true
  st : ApS W b f n₀ rb wb fb m y pre x vo L a u
section
variable {W : World} {b f n₀ rb wb fb m y Bx : Nat} {pre : List Pc} {x : Pc} {vo : Value} {L : Array Bool} {a : Act} {u u' : World}
/-- A read: its slot is written, the stage stays. -/
theorem ApJ.read (h : ApJ W b f n₀ rb wb fb m y Bx pre x vo L a u) (i : Nat) (hi : i < 4) (v : Value) (hv : v = if i = 0 then vo else if i = 1 then .pointer (some ⟨b, 0, none⟩) else if i = 2 then .int .i64 (f : Int) else pcV x) :
    ApJ W b f n₀ rb wb fb m y Bx pre x vo (L.setIfInBounds i true) (a.put (some (28 + i)) v) u := by
  have ho : ∀ t, t ≠ 28 + i → (a.put (some (28 + i)) v).tmps.getD t undef = a.tmps.getD t undef := fun t ht => slot_other (Ne.symm ht)
  have hs : (a.put (some (28 + i)) v).tmps.getD (28 + i) undef = v := slot_same (by rw [h.tmps]; omega)
  have hb : ∀ j, j ≠ i → (L.setIfInBounds i true).getD j true = L.getD j true := fun j hj => bit_other L (Ne.symm hj)
  refine ⟨by rw [Array.size_setIfInBounds]; exact h.size, h.defers, by simp only [Act.put]; rw [Array.size_setIfInBounds]; exact h.tmps, by rw [ho _ (by omega)]; exact h.b3, by rw [ho _ (by omega)]; exact h.b7, by rw [ho _ (by omega)]; exact h.b8, by rw [ho _ (by omega)]; exact h.b9, fun hl => ?_, fun hl => ?_, fun hl => ?_, fun hl => ?_, fun hl => ?_, fun hl => ?_, ?_⟩
  · by_cases e : i = 0
    · subst e; rw [show (28 : Nat) = 28 + 0 from rfl, hs, hv]; rfl
    · rw [ho _ (by omega)]; rw [hb _ (Ne.symm e)] at hl; exact h.f0 hl
  · by_cases e : i = 1
    · subst e; rw [show (29 : Nat) = 28 + 1 from rfl, hs, hv]; rfl
    · rw [ho _ (by omega)]; rw [hb _ (Ne.symm e)] at hl; exact h.f1 hl
  · by_cases e : i = 2
    · subst e; rw [show (30 : Nat) = 28 + 2 from rfl, hs, hv]; rfl
    · rw [ho _ (by omega)]; rw [hb _ (Ne.symm e)] at hl; exact h.f2 hl
  · by_cases e : i = 3
    · subst e; rw [show (31 : Nat) = 28 + 3 from rfl, hs, hv]; rfl
    · rw [ho _ (by omega)]; rw [hb _ (Ne.symm e)] at hl; exact h.f3 hl
  · rw [hb 4 (by omega)] at hl
    obtain ⟨k1, k2, k3⟩ := h.c4 hl
    exact ⟨bit_keep L i 1 k1, bit_keep L i 2 k2, bit_keep L i 3 k3⟩
  · rw [hb 6 (by omega)] at hl
    exact bit_keep L i 0 (h.c6 hl)
  · have hst := h.st
    unfold ApS at hst ⊢
    rw [hb 4 (by omega), hb 5 (by omega), hb 6 (by omega), hb 7 (by omega), ho 32 (by omega), ho 33 (by omega), ho 34 (by omega)]
    exact hst
theorem ApS.ext {L : Array Bool} {a : Act} (h : ApS W b f n₀ rb wb fb m y pre x vo L a u) (h6 : L.getD 6 true = false) : Ext W u := by
  rcases h with ⟨_, _, _, _, rfl⟩ | ⟨_, _, _, _, hx, _⟩ | ⟨_, _, _, _, hx, _⟩ | ⟨_, _, k, _⟩ | ⟨_, _, k, _⟩
  · exact (Ext.refl W).drew
  · exact hx
  · exact hx
  · rw [h6] at k; cases k
  · rw [h6] at k; cases k
theorem ApS.one {L : Array Bool} {a : Act} (h : ApS W b f n₀ rb wb fb m y pre x vo L a u) (h4 : L.getD 4 true = false) : L.getD 5 true = false ∧ L.getD 6 true = false ∧ L.getD 7 true = false ∧ u = W.drew := by
  rcases h with ⟨_, k1, k2, k3, k4⟩ | ⟨k, _⟩ | ⟨k, _⟩ | ⟨k, _⟩ | ⟨k, _⟩
  · exact ⟨k1, k2, k3, k4⟩
  all_goals (rw [h4] at k; cases k)
theorem ApS.two {L : Array Bool} {a : Act} (h : ApS W b f n₀ rb wb fb m y pre x vo L a u) (h4 : L.getD 4 true = true) (h5 : L.getD 5 true = false) : L.getD 6 true = false ∧ L.getD 7 true = false ∧ Ext W u ∧ IsA u b n₀ f (a.tmps.getD 32 undef) x := by
  rcases h with ⟨k, _⟩ | ⟨_, _, k2, k3, k4⟩ | ⟨_, k, _⟩ | ⟨_, k, _⟩ | ⟨_, k, _⟩
  · rw [h4] at k; cases k
  · exact ⟨k2, k3, k4⟩
  all_goals (rw [h5] at k; cases k)
theorem ApS.three {L : Array Bool} {a : Act} (h : ApS W b f n₀ rb wb fb m y pre x vo L a u) (h5 : L.getD 5 true = true) (h6 : L.getD 6 true = false) : L.getD 4 true = true ∧ L.getD 7 true = false ∧ Ext W u ∧ ∃ k g, a.tmps.getD 33 undef = .slice (some ⟨g, 0, none⟩) 1 1 ∧ Blk u g 69 [k] ∧ k.oneCell' = true ∧ IsA u b n₀ f k x := by
  rcases h with ⟨_, k, _⟩ | ⟨_, k, _⟩ | ⟨k1, _, _, k3, k4⟩ | ⟨_, _, k, _⟩ | ⟨_, _, k, _⟩
  · rw [h5] at k; cases k
  · rw [h5] at k; cases k
  · exact ⟨k1, k3, k4⟩
  all_goals (rw [h6] at k; cases k)
theorem ApS.four {L : Array Bool} {a : Act} (h : ApS W b f n₀ rb wb fb m y pre x vo L a u) (h6 : L.getD 6 true = true) (h7 : L.getD 7 true = false) : L.getD 4 true = true ∧ L.getD 5 true = true ∧ ∃ p' c', a.tmps.getD 34 undef = .slice p' (pre.length + 1) c' ∧ ApG W b f n₀ rb wb fb m y (pre ++ [x]) vo (.slice p' (pre.length + 1) c') u := by
  rcases h with ⟨_, _, k, _⟩ | ⟨_, _, k, _⟩ | ⟨_, _, k, _⟩ | ⟨k1, k2, _, _, k4⟩ | ⟨_, _, _, k, _⟩
  · rw [h6] at k; cases k
  · rw [h6] at k; cases k
  · rw [h6] at k; cases k
  · exact ⟨k1, k2, k4⟩
  · rw [h7] at k; cases k
theorem ApS.five {L : Array Bool} {a : Act} (h : ApS W b f n₀ rb wb fb m y pre x vo L a u) (h7 : L.getD 7 true = true) : ∃ v, ApG W b f n₀ rb wb fb m y (pre ++ [x]) v v u := by
  rcases h with ⟨_, _, _, k, _⟩ | ⟨_, _, _, k, _⟩ | ⟨_, _, _, k, _⟩ | ⟨_, _, _, k, _⟩ | ⟨_, _, _, _, k⟩
  · rw [h7] at k; cases k
  · rw [h7] at k; cases k
  · rw [h7] at k; cases k
  · rw [h7] at k; cases k
  · exact k
/-- An operation that goes on a stage. -/
theorem ApJ.step (h : ApJ W b f n₀ rb wb fb m y Bx pre x vo L a u) (i : Nat) (hi : 4 ≤ i) (hi7 : i < 8) (dst : Option Nat) (hd : dst = if i = 7 then none else some (28 + i)) (v : Value) (h4 : i = 4 → L.getD 1 true = true ∧ L.getD 2 true = true ∧ L.getD 3 true = true) (h6 : i = 6 → L.getD 0 true = true)
    (hst : ApS W b f n₀ rb wb fb m y pre x vo (L.setIfInBounds i true) (a.put dst v) u') : ApJ W b f n₀ rb wb fb m y Bx pre x vo (L.setIfInBounds i true) (a.put dst v) u' := by
  have ho : ∀ t, t < 32 → (a.put dst v).tmps.getD t undef = a.tmps.getD t undef := fun t ht => by
    rw [hd]
    by_cases e : i = 7
    · rw [if_pos e]; rfl
    · rw [if_neg e]; exact slot_other (by omega)
  have hb : ∀ j, j < 4 → (L.setIfInBounds i true).getD j true = L.getD j true := fun j hj => bit_other L (by omega)
  have hsz : (a.put dst v).tmps.size = a.tmps.size := by
    rw [hd]
    by_cases e : i = 7
    · rw [if_pos e]; rfl
    · rw [if_neg e]; simp [Act.put]
  refine ⟨by rw [Array.size_setIfInBounds]; exact h.size, by rw [hd]; split <;> exact h.defers, hsz.trans h.tmps, by rw [ho _ (by omega)]; exact h.b3, by rw [ho _ (by omega)]; exact h.b7, by rw [ho _ (by omega)]; exact h.b8, by rw [ho _ (by omega)]; exact h.b9, fun hl => ?_, fun hl => ?_, fun hl => ?_, fun hl => ?_, fun hl => ?_, fun hl => ?_, hst⟩
  · rw [ho _ (by omega)]; rw [hb _ (by omega)] at hl; exact h.f0 hl
  · rw [ho _ (by omega)]; rw [hb _ (by omega)] at hl; exact h.f1 hl
  · rw [ho _ (by omega)]; rw [hb _ (by omega)] at hl; exact h.f2 hl
  · rw [ho _ (by omega)]; rw [hb _ (by omega)] at hl; exact h.f3 hl
  · rw [hb 1 (by omega), hb 2 (by omega), hb 3 (by omega)]
    by_cases e : i = 4
    · exact h4 e
    · rw [bit_other L e] at hl; exact h.c4 hl
  · rw [hb 0 (by omega)]
    by_cases e : i = 6
    · exact h6 e
    · rw [bit_other L e] at hl; exact h.c6 hl
end
set_option maxRecDepth 100000 in
set_option maxHeartbeats 4000000 in
theorem appending_any (w : World) (fp : Option Addr) (fn fc : Nat) (p : Option Addr) (c : Nat) (l : List ByteArray) (b bd : Nat) (κ μ : Foot) (s : WS) (d : DS) (h : LS w b bd κ μ s d) (k : s.Ok) (q : Nat × Nat) (hq : s.P[s.P.length - 1]? = some q) (ht : TextsP w p l) (hll : l.length ≤ 1000000) (hs : ∀ x ∈ l, x.size ≤ 65536) (hfit : ∀ i, i < l.length → q.2 + lenP l i < s.sz) :
    Calls Tryz.prog 39 #[.pointer (some ⟨b, 0, none⟩), .slice p l.length c, .slice fp fn fc] w fun e w' => ∃ v vs, e = .returned v ∧ Ext w w' ∧ w'.ownsRow w.heap.size 69 1 v l.length vs ∧ (∀ (i : Nat) (u : Value) (x : Pc), vs[i]? = some u → (pcs s.n l)[i]? = some x → IsA w' b w.heap.size q.1 u x) := by
  have HLa := Lib.hid (fun u (hu : Ext w u) => wlast_any u b bd κ s (h.wal.ext hu) k q hq)
  have hmk := make_calls l.length hll
  have hfd := fun u => field_part0 (q.1 : Int) (q.2 : Int) u
  refine (callsIn_wide (n := 9)).1 ?_
  refine callsIn_of_wp_marks Tryz.func39 rfl trivial ?_ rfl
  simp only [Tryz.ntmps39, List.size_toArray, List.length_cons, List.length_nil, Nat.reduceAdd, Nat.reduceSub, Array.replicate_succ, Array.replicate_zero, List.push_toArray, List.append_toArray, List.nil_append, List.cons_append]
  have hx1 : Ext w ((((w.alloc (.cells #[.pointer (some ⟨b, 0, none⟩)] 27)).alloc (.cells #[.slice fp fn fc] 66)).alloc (.cells (madeCells #[.nilFunc] l.length) 69)).alloc (.cells #[.slice (some ⟨w.heap.size + 1 + 1, 0, none⟩) 0 l.length] 71)) := ((((Ext.refl w).alloc _).alloc _).alloc _).alloc _
  have bw1 : Blk ((((w.alloc (.cells #[.pointer (some ⟨b, 0, none⟩)] 27)).alloc (.cells #[.slice fp fn fc] 66)).alloc (.cells (madeCells #[.nilFunc] l.length) 69)).alloc (.cells #[.slice (some ⟨w.heap.size + 1 + 1, 0, none⟩) 0 l.length] 71)) w.heap.size 27 [.pointer (some ⟨b, 0, none⟩)] := (((Blk.new w _ _).alloc _).alloc _).alloc _
  have br1 : Blk ((((w.alloc (.cells #[.pointer (some ⟨b, 0, none⟩)] 27)).alloc (.cells #[.slice fp fn fc] 66)).alloc (.cells (madeCells #[.nilFunc] l.length) 69)).alloc (.cells #[.slice (some ⟨w.heap.size + 1 + 1, 0, none⟩) 0 l.length] 71)) (w.heap.size + 1 + 1 + 1) 71 [.slice (some ⟨w.heap.size + 1 + 1, 0, none⟩) 0 l.length] := by
    have := Blk.new (((w.alloc (.cells #[.pointer (some ⟨b, 0, none⟩)] 27)).alloc (.cells #[.slice fp fn fc] 66)).alloc (.cells (madeCells #[.nilFunc] l.length) 69)) [.slice (some ⟨w.heap.size + 1 + 1, 0, none⟩) 0 l.length] 71
    simpa using this
  have ow1 : ((((w.alloc (.cells #[.pointer (some ⟨b, 0, none⟩)] 27)).alloc (.cells #[.slice fp fn fc] 66)).alloc (.cells (madeCells #[.nilFunc] l.length) 69)).alloc (.cells #[.slice (some ⟨w.heap.size + 1 + 1, 0, none⟩) 0 l.length] 71)).ownsRow w.heap.size 69 1 (.slice (some ⟨w.heap.size + 1 + 1, 0, none⟩) 0 l.length) 0 [] := by
    have := (World.ownsRow_made (base := w.heap.size) (e := 69) (size := 1) ((w.alloc (.cells #[.pointer (some ⟨b, 0, none⟩)] 27)).alloc (.cells #[.slice fp fn fc] 66)) (madeCells #[.nilFunc] l.length) l.length (by simp; omega) (by unfold maxLen; omega) (by simp [size_madeCells])).alloc (.cells #[.slice (some ⟨w.heap.size + 1 + 1, 0, none⟩) 0 l.length] 71)
    simpa using this
  gi_wp2
  generalize ((((w.alloc (.cells #[.pointer (some ⟨b, 0, none⟩)] 27)).alloc (.cells #[.slice fp fn fc] 66)).alloc (.cells (madeCells #[.nilFunc] l.length) 69)).alloc (.cells #[.slice (some ⟨w.heap.size + 1 + 1, 0, none⟩) 0 l.length] 71)) = W1 at *
  refine ⟨trivial, ?_⟩
  gi_at_call 63
  refine (callsIn_wide.2 (HLa.out _ hx1)).mono ?_
  rintro e w2 ⟨rfl, x2⟩
  have bw2 := bw1.ext x2
  have br2 := br1.ext x2
  have ow2 := ow1.kept (grown_of_ext x2) (.inr (by simp [Value.ownBlock]))
  have cw2 := bw2.cell 0 _ rfl
  have hx3 := hx1.trans x2
  have hl2 := bw2.lt
  have hn2 := Nat.ne_of_lt hl2
  gi_wp2_with (refine ⟨trivial, ?_⟩; gi_at_call 61; refine (callsIn_wide.2 (pieces_any _ b p l.length c)).mono ?_; rintro e w4 ⟨rfl, rfl⟩)
  have hx0 : Ext w (((w2.alloc (.cells #[.int .i64 (q.1 : Int)] 3)).alloc (.cells #[.pointer (some ⟨b, 0, none⟩)] 27)).alloc (.cells #[.slice p l.length c] 33)) := ((hx3.alloc _).alloc _).alloc _
  have bf0 : Blk (((w2.alloc (.cells #[.int .i64 (q.1 : Int)] 3)).alloc (.cells #[.pointer (some ⟨b, 0, none⟩)] 27)).alloc (.cells #[.slice p l.length c] 33)) w2.heap.size 3 [.int .i64 (q.1 : Int)] := ((Blk.new w2 _ _).alloc _).alloc _
  have by0 : Blk (((w2.alloc (.cells #[.int .i64 (q.1 : Int)] 3)).alloc (.cells #[.pointer (some ⟨b, 0, none⟩)] 27)).alloc (.cells #[.slice p l.length c] 33)) (w2.heap.size + 1) 27 [.pointer (some ⟨b, 0, none⟩)] := by
    have := (Blk.new (w2.alloc (.cells #[.int .i64 (q.1 : Int)] 3)) [.pointer (some ⟨b, 0, none⟩)] 27).alloc (.cells #[.slice p l.length c] 33)
    simpa using this
  have bl0 : Blk (((w2.alloc (.cells #[.int .i64 (q.1 : Int)] 3)).alloc (.cells #[.pointer (some ⟨b, 0, none⟩)] 27)).alloc (.cells #[.slice p l.length c] 33)) (w2.heap.size + 1 + 1) 33 [.slice p l.length c] := by
    have := Blk.new ((w2.alloc (.cells #[.int .i64 (q.1 : Int)] 3)).alloc (.cells #[.pointer (some ⟨b, 0, none⟩)] 27)) [.slice p l.length c] 33
    simpa using this
  have bw0 := ((bw2.alloc (.cells #[.int .i64 (q.1 : Int)] 3)).alloc (.cells #[.pointer (some ⟨b, 0, none⟩)] 27)).alloc (.cells #[.slice p l.length c] 33)
  have br0 := ((br2.alloc (.cells #[.int .i64 (q.1 : Int)] 3)).alloc (.cells #[.pointer (some ⟨b, 0, none⟩)] 27)).alloc (.cells #[.slice p l.length c] 33)
  have ow0 := ((ow2.alloc (.cells #[.int .i64 (q.1 : Int)] 3)).alloc (.cells #[.pointer (some ⟨b, 0, none⟩)] 27)).alloc (.cells #[.slice p l.length c] 33)
  generalize (((w2.alloc (.cells #[.int .i64 (q.1 : Int)] 3)).alloc (.cells #[.pointer (some ⟨b, 0, none⟩)] 27)).alloc (.cells #[.slice p l.length c] 33)) = W0 at *
  have hrl2 := br2.lt
  clear bw1 br1 ow1 bw2 br2 ow2 cw2 hx1 x2 hx3
  obtain ⟨n₀, hn₀⟩ : ∃ n, n = w.heap.size := ⟨_, rfl⟩
  obtain ⟨fb, hfb⟩ : ∃ n, n = w2.heap.size := ⟨_, rfl⟩
  obtain ⟨y, hyE⟩ : ∃ n, n = w2.heap.size + 1 := ⟨_, rfl⟩
  obtain ⟨lb, hlbE⟩ : ∃ n, n = w2.heap.size + 1 + 1 := ⟨_, rfl⟩
  obtain ⟨rb, hrb⟩ : ∃ n, n = w.heap.size + 1 + 1 + 1 := ⟨_, rfl⟩
  have htl := ht.low hx0
  have hB0 : Below n₀ w W0 := by rw [hn₀]; exact hx0.below
  have hin : ∀ g, κ g ≠ 0 ∨ μ g ≠ 0 → g < n₀ := fun g hg => by
    rw [hn₀]
    rcases hg with q | q
    · exact h.wal.ins g q
    · exact h.disk.ins g q
  rw [← hlbE] at bl0
  rw [← hyE] at by0
  rw [← hfb] at bf0 hl2 hn2
  rw [← hrb, ← hn₀] at br0
  rw [← hn₀] at bw0 htl ow0 hl2 hn2
  rw [← hlbE, ← hyE, ← hfb, ← hrb, ← hn₀]
  have hyW := by0.lt
  have hn0W : n₀ ≤ W0.heap.size := Nat.le_of_lt bw0.lt
  have hry : rb < y := by omega
  have hnr : n₀ ≤ rb := by omega
  have hL0 := h.ext hx0
  have Hn₀ := Lib.hid hn₀
  clear hn₀ hfb hyE hlbE hrb hx0
  refine wpIn_rangeFunc_ownH rfl (by omega) (gf := 83) (lb := #[.pointer (some ⟨y, 0, none⟩), .pointer (some ⟨lb, 0, none⟩)]) rfl trivial (enters_of Tryz.func83 (by kernel_rfl) rfl)
    (pieces_stops (9 - 1) (by omega) y lb n₀ p c l W0 b bd κ μ s d hL0 k hn0W q hq by0 bl0 hyW hin htl hll hs hfit) (fun h1 h2 => KpL.trans h1 h2) (fun W l o o' hwl h h1 h2 => KpL.put hn0W (by intro g hg; simp at hg; subst hg; exact hyW) W l o o' hwl h h1 h2) (Below.refl _ _) (fun _ => rfl)
    (fun pre W => ApI b q.1 n₀ rb n₀ fb W0.heap.size y pre W ∧ Below n₀ w W) (fun _ _ _ => False)
    (OwnFrom.and (Go.Own.from (apI_own _ _ _ _ _ _ _ _) _) (ownFrom_below (by rw [Hn₀.out]; exact Nat.le_refl _) hn0W))
    (fun _ => Go.Own.from (fun _ _ _ _ hs _ _ => hs) _)
    ⟨⟨_, [], br0, ow0, fun i u x hu => by simp at hu, bw0, bf0, Nat.le_refl _, by0⟩, hB0⟩
    (fun x a' W => ∃ Bx, y < Bx ∧ Blk W Bx 113 [.string ⟨#[]⟩, .int .u64 (x.1.1 : Int), .string x.1.2] ∧ a' = { tmps := #[.pointer (some ⟨b, 0, none⟩), .slice p l.length c, .slice fp fn fc, .pointer (some ⟨n₀, 0, none⟩), undef, .pointer (some ⟨n₀ + 1, 0, none⟩), .slice none 0 0, .pointer (some ⟨rb, 0, none⟩), .pointer (some ⟨fb, 0, none⟩), .pointer (some ⟨Bx, 0, none⟩), .slice p l.length c, .int .i64 (l.length : Int), .slice (some ⟨n₀ + 1 + 1, 0, none⟩) 0 l.length, .pointer (some ⟨b, 0, none⟩), .agg #[.int .i64 (q.1 : Int), .int .i64 (q.2 : Int)], .int .i64 (q.1 : Int), .pointer (some ⟨b, 0, none⟩), .slice p l.length c, .func (.func 83) #[] #[.pointer (some ⟨y, 0, none⟩), .pointer (some ⟨lb, 0, none⟩)], pcV x, undef, undef, undef, undef, undef, undef, undef, undef, undef, undef, undef, undef, undef, undef, undef, undef], defers := [] })
    (fun x a' _ X Y row hs hg hr => by obtain ⟨Bx, h1, h3, h4⟩ := hs; exact ⟨Bx, h1, blk_kept h3 hg (fun r e => (hr r e).2), h4⟩)
    ?assign ?body ?done ?stop
  case assign =>
    rintro l' pre x W K ⟨⟨v, vs, h1, h2, h3, h4, h5, h6, h7⟩, hB1⟩ hK
    unfold pcV at hK ⊢
    gi_wp2
    have hxa := (Ext.refl W).alloc (.cells #[.string ⟨#[]⟩, .int .u64 (x.1.1 : Int), .string x.1.2] 113)
    exact hK _ _ ((KeepsOthers.alloc _ _).from _) (KpL.of_ext hxa (Nat.le_trans hn0W h6) (by intro g hg; simp at hg; subst hg; omega)) ⟨⟨v, vs, h1.alloc _, h2.alloc _, fun i u z hu hz => (h3 i u z hu hz).kept (fun g T cs _ _ h => h.alloc _), h4.alloc _, h5.alloc _, Nat.le_trans h6 (by simp), h7.alloc _⟩, hB1.alloc (Nat.le_trans hn0W h6) _⟩ ⟨W.heap.size, by omega, Blk.new W _ _, rfl⟩
  case body =>
    rintro l' pre x a' W hl ⟨r, hr⟩ ⟨⟨v, vs, h1, h2, h3, h4, h5, h6, h7⟩, hB1⟩ ⟨Bx, hBx, bX, rfl⟩ hlt
    obtain ⟨vp, vc, rfl⟩ : ∃ vp vc, v = .slice vp pre.length vc := by
      rcases h2.2 with ⟨hv, h0⟩ | ⟨g, cap, cur, hv, _⟩
      · exact ⟨none, 0, by rw [hv, h0]⟩
      · exact ⟨_, _, hv⟩
    have hpl : pre.length ≤ 1000000 := by rw [pcs_length] at hlt; omega
    have HAd := Lib.hid (fun u => adding_any u b q.1 x.1.1 x.1.2)
    have hmx : Tryz.prog.follows .mixedOrders = true := by kernel_rfl
    have c1 := h1.cell 0 _ rfl
    have f1 := h1.frozen 0
    have c4 := h4.cell 0 _ rfl
    have c5 := h5.cell 0 _ rfl
    have HCl : Hid (∀ u, Ext W u → u.cell? ⟨rb, 0, none⟩ = some (.slice vp pre.length vc) ∧ u.cell? ⟨n₀, 0, none⟩ = some (.pointer (some ⟨b, 0, none⟩)) ∧ u.cell? ⟨fb, 0, none⟩ = some (.int .i64 (q.1 : Int)) ∧ u.cell? ⟨Bx, 0, none⟩ = some (.string ⟨#[]⟩) ∧ u.cell? ⟨Bx, 1, none⟩ = some (.int .u64 (x.1.1 : Int)) ∧ u.cell? ⟨Bx, 2, none⟩ = some (.string x.1.2)) := Lib.hid (fun u hu =>
      ⟨(h1.ext hu).cell 0 _ rfl, (h4.ext hu).cell 0 _ rfl, (h5.ext hu).cell 0 _ rfl, (bX.ext hu).cell 0 _ rfl, (bX.ext hu).cell 1 _ rfl, (bX.ext hu).cell 2 _ rfl⟩)
    have hw6 : n₀ ≤ W.heap.size := Nat.le_trans hn0W h6
    have H1 := Lib.hid h1; have H2 := Lib.hid h2; have H3 := Lib.hid h3; have H4 := Lib.hid h4; have H5 := Lib.hid h5; have H6 := Lib.hid h6; have H7 := Lib.hid h7; have HB1 := Lib.hid hB1; have BX := Lib.hid bX
    unfold pcV
    clear h1 h2 h3 h4 h5 h6 h7 hB1 bX c1 f1 c4 c5
    obtain ⟨_, _, _, cx0, _, _⟩ := HCl.out W (Ext.refl W)
    gi_wp2
    clear cx0
    refine wpIn_region_any hmx ?_
    refine wpAnyIn_inv (ApJ W b q.1 n₀ rb n₀ fb W0.heap.size y Bx pre x (.slice vp pre.length vc)) ?hsize ?step ?last _ _ _ _ (by decide) ⟨rfl, rfl, rfl, rfl, rfl, rfl, rfl, fun h => absurd h (by decide), fun h => absurd h (by decide), fun h => absurd h (by decide), fun h => absurd h (by decide), fun h => absurd h (by decide), fun h => absurd h (by decide), .inl ⟨by decide, by decide, by decide, by decide, rfl⟩⟩
    case hsize => exact fun L a w h => h.size
    case step =>
      intro L a u i h hi
      have hlt8 : i < 8 := (ready_spec hi).1
      obtain ⟨Y, D⟩ := a
      obtain rfl : D = [] := h.defers
      have b3 : Y[3]?.getD undef = .pointer (some ⟨n₀, 0, none⟩) := by rw [← Array.getD_eq_getD_getElem?]; exact h.b3
      have b7 : Y[7]?.getD undef = .pointer (some ⟨rb, 0, none⟩) := by rw [← Array.getD_eq_getD_getElem?]; exact h.b7
      have b8 : Y[8]?.getD undef = .pointer (some ⟨fb, 0, none⟩) := by rw [← Array.getD_eq_getD_getElem?]; exact h.b8
      have b9 : Y[9]?.getD undef = .pointer (some ⟨Bx, 0, none⟩) := by rw [← Array.getD_eq_getD_getElem?]; exact h.b9
      have hnd := (ready_spec hi).2.1
      rcases (show i = 0 ∨ i = 1 ∨ i = 2 ∨ i = 3 ∨ i = 4 ∨ i = 5 ∨ i = 6 ∨ i = 7 by omega) with rfl | rfl | rfl | rfl | rfl | rfl | rfl | rfl
      · have h6 : L.getD 6 true = false := by
          rcases hb : L.getD 6 true with _ | _
          · rfl
          · rw [h.c6 hb] at hnd; cases hnd
        obtain ⟨cr, cw, cf, cx0, cx1, cx2⟩ := HCl.out u (h.st.ext h6)
        refine wpOpIn_step rfl (fun K hK => ?_)
        go_simp
        exact hK _ _ (h.read 0 (by decide) _ rfl)
      · have h4 : L.getD 4 true = false := by
          rcases hb : L.getD 4 true with _ | _
          · rfl
          · rw [(h.c4 hb).1] at hnd; cases hnd
        obtain ⟨cr, cw, cf, cx0, cx1, cx2⟩ := HCl.out u (h.st.ext (h.st.one h4).2.1)
        refine wpOpIn_step rfl (fun K hK => ?_)
        go_simp
        exact hK _ _ (h.read 1 (by decide) _ rfl)
      · have h4 : L.getD 4 true = false := by
          rcases hb : L.getD 4 true with _ | _
          · rfl
          · rw [(h.c4 hb).2.1] at hnd; cases hnd
        obtain ⟨cr, cw, cf, cx0, cx1, cx2⟩ := HCl.out u (h.st.ext (h.st.one h4).2.1)
        refine wpOpIn_step rfl (fun K hK => ?_)
        go_simp
        exact hK _ _ (h.read 2 (by decide) _ rfl)
      · have h4 : L.getD 4 true = false := by
          rcases hb : L.getD 4 true with _ | _
          · rfl
          · rw [(h.c4 hb).2.2] at hnd; cases hnd
        obtain ⟨cr, cw, cf, cx0, cx1, cx2⟩ := HCl.out u (h.st.ext (h.st.one h4).2.1)
        refine wpOpIn_step rfl (fun K hK => ?_)
        go_simp
        exact hK _ _ (h.read 3 (by decide) _ rfl)
      · have d1 := ready_after hi _ rfl 0 _ rfl rfl
        have d2 := ready_after hi _ rfl 1 _ rfl rfl
        have d3 := ready_after hi _ rfl 2 _ rfl rfl
        have f1 : Y[29]?.getD undef = .pointer (some ⟨b, 0, none⟩) := by rw [← Array.getD_eq_getD_getElem?]; exact h.f1 (bit_of d1)
        have f2 : Y[30]?.getD undef = .int .i64 (q.1 : Int) := by rw [← Array.getD_eq_getD_getElem?]; exact h.f2 (bit_of d2)
        have f3 : Y[31]?.getD undef = .agg #[.string ⟨#[]⟩, .int .u64 (x.1.1 : Int), .string x.1.2] := by rw [← Array.getD_eq_getD_getElem?]; exact h.f3 (bit_of d3)
        obtain ⟨k5, k6, k7, hu⟩ := h.st.one hnd
        subst hu
        have hs32 : ∀ v, (({ tmps := Y, defers := [] } : Act).put (some 32) v).tmps.getD 32 undef = v := fun v => slot_same (show _ < Y.size from by rw [show Y.size = 36 from h.tmps]; decide)
        have HH := Lib.hid h
        have HK5 := Lib.hid k5; have HK6 := Lib.hid k6; have HK7 := Lib.hid k7; have HS32 := Lib.hid hs32
        clear h k5 k6 k7 hs32
        refine wpOpIn_step rfl (fun K hK => ?_)
        go_simp
        refine ⟨trivial, ?_⟩
        gi_at_call 64
        refine (CallsIn.inRound l' (callsIn_wide.2 (HAd.out _))).mono ?_
        rintro e w6 ⟨rfl, x6, g6, g7, g8⟩
        exact hK _ _ (HH.out.step 4 (by decide) (by decide) _ rfl _ (fun _ => ⟨bit_of d1, bit_of d2, bit_of d3⟩) (fun e => by cases e) (.inr (.inl ⟨bit_same L 4 (by rw [HH.out.size]; decide), (bit_other L (by decide)).trans HK5.out, (bit_other L (by decide)).trans HK6.out, (bit_other L (by decide)).trans HK7.out, (Ext.refl W).drew.trans x6, by show IsA w6 b n₀ q.1 ((({ tmps := Y, defers := [] } : Act).put (some 32) _).tmps.getD 32 undef) x; rw [HS32.out]; exact ⟨_, _, _, rfl, ⟨by show n₀ ≤ W.heap.size + 2; omega, hw6, by show n₀ ≤ W.heap.size + 1; omega⟩, g6, g7, g8⟩⟩)))
      · have d4 := ready_after hi _ rfl 0 _ rfl rfl
        obtain ⟨k6, k7, hx, hisa⟩ := h.st.two (bit_of d4) hnd
        have hisa2 := hisa
        obtain ⟨x1, y1, z1, h32, _⟩ := hisa
        have f32 : Y[32]?.getD undef = .func (.func 85) #[] #[.pointer (some ⟨x1, 0, none⟩), .pointer (some ⟨y1, 0, none⟩), .pointer (some ⟨z1, 0, none⟩)] := by rw [← Array.getD_eq_getD_getElem?]; exact h32
        have hs33 : ∀ v, (({ tmps := Y, defers := [] } : Act).put (some 33) v).tmps.getD 33 undef = v := fun v => slot_same (show _ < Y.size from by rw [show Y.size = 36 from h.tmps]; decide)
        rw [h32] at hisa2
        have HH := Lib.hid h; have HX := Lib.hid hx; have HIs := Lib.hid hisa2
        have HK6 := Lib.hid k6; have HK7 := Lib.hid k7; have HS33 := Lib.hid hs33
        clear h k6 k7 hs33 hx hisa2 h32
        refine wpOpIn_step rfl (fun K hK => ?_)
        go_simp
        exact hK _ _ (HH.out.step 5 (by decide) (by decide) _ rfl _ (fun e => by cases e) (fun e => by cases e) (.inr (.inr (.inl ⟨(bit_other L (by decide)).trans (bit_of d4), bit_same L 5 (by rw [HH.out.size]; decide), (bit_other L (by decide)).trans HK6.out, (bit_other L (by decide)).trans HK7.out, HX.out.alloc _, _, u.heap.size, HS33.out _, Blk.new u [_] _, rfl, HIs.out.kept (fun g T cs _ _ hb => hb.alloc _)⟩))))
      · have d0 := ready_after hi _ rfl 0 _ rfl rfl
        have d5 := ready_after hi _ rfl 1 _ rfl rfl
        have f28 : Y[28]?.getD undef = .slice vp pre.length vc := by rw [← Array.getD_eq_getD_getElem?]; exact h.f0 (bit_of d0)
        obtain ⟨k4, k7, hx, kc, g, h33, hbg, hone, hisa⟩ := h.st.three (bit_of d5) hnd
        have f33 : Y[33]?.getD undef = .slice (some ⟨g, 0, none⟩) 1 1 := by rw [← Array.getD_eq_getD_getElem?]; exact h33
        have hs34 : ∀ v, (({ tmps := Y, defers := [] } : Act).put (some 34) v).tmps.getD 34 undef = v := fun v => slot_same (show _ < Y.size from by rw [show Y.size = 36 from h.tmps]; decide)
        have how6 := H2.out.kept (grown_of_ext hx) (by cases (Value.slice vp pre.length vc).ownBlock <;> simp)
        obtain ⟨p7, c7, w7, hrun, how7, hgr7⟩ := run_append_call how6 hpl (Nat.le_trans hw6 hx.size) g kc hbg hone 71
        have hown : ∀ (g' : Nat) (T : TypeId) (cs : List Value), T ≠ 69 → Blk u g' T cs → Blk w7 g' T cs := fun g' T cs hT hb => (hgr7.block g' hb.lt (fun e => by
          rcases how6.2 with ⟨hv, _⟩ | ⟨g2, cap, cur, hv, _, hgg, _⟩
          · rw [hv] at e; cases e
          · rw [hv] at e
            simp [Value.ownBlock] at e
            subst e
            unfold Blk at hb
            rw [hb] at hgg
            cases hgg
            exact hT rfl)).trans hb
        have hge : ∀ r, (Value.slice vp pre.length vc).ownBlock = some r → n₀ ≤ r := fun r e => (World.ownsRow.lt how6 r e).1
        have hyk : w7.heap[y]? = W.heap[y]? := (hown y _ _ (by decide) (H7.out.ext hx)).trans H7.out.symm
        have hvl : vs.length = pre.length := by have := how6.1; omega
        have hfin : ApG W b q.1 n₀ rb n₀ fb W0.heap.size y (pre ++ [x]) (.slice vp pre.length vc) (.slice p7 (pre.length + 1) c7) w7 := by
          refine ⟨vs ++ [kc], by rw [List.length_append]; exact how7, fun i k z hk hz => ?_, hown rb _ _ (by decide) (H1.out.ext hx), hown n₀ _ _ (by decide) (H4.out.ext hx), hown fb _ _ (by decide) (H5.out.ext hx), Nat.le_trans H6.out (Nat.le_trans hx.size hgr7.size), ⟨(Below.mono hx.below hw6).trans (Below.grown (Below.refl _ _) hgr7 (Nat.le_trans hw6 hx.size) hge), fun g hg => by simp at hg; subst hg; exact hyk⟩, (KeepsOthers.of_grownBy (grown_of_ext hx) (fun j o e => by cases e)).trans (KeepsOthers.of_grownBy hgr7 (fun j o e ho => ?_))⟩
          · rcases Nat.lt_or_ge i vs.length with hi2 | hi2
            · rw [List.getElem?_append_left hi2] at hk
              rw [List.getElem?_append_left (by omega)] at hz
              exact ((H3.out i k z hk hz).kept (fun g T cs _ _ hb => hb.ext hx)).kept (fun g T cs hT _ hb => hown g T cs hT hb)
            · rw [List.getElem?_append_right hi2] at hk
              rw [List.getElem?_append_right (by omega), ← hvl] at hz
              have h0 : i - vs.length < 1 := (List.getElem?_eq_some_iff.1 hk).1
              have e0 : i - vs.length = 0 := by omega
              rw [e0] at hk hz
              simp at hk hz
              subst hk hz
              exact hisa.kept (fun g T cs hT _ hb => hown g T cs hT hb)
          · rcases how6.2 with ⟨hv, _⟩ | ⟨g2, cap, cur, hv, _, hgg, _⟩
            · rw [hv] at e; cases e
            · rw [hv] at e
              simp [Value.ownBlock] at e
              subst e
              rw [hgg] at ho
              cases ho
              rfl
        refine wpOpIn_step rfl (fun K hK => ?_)
        rw [if_pos (by simp [Region.wanted])]
        unfold Oper.wpIn
        refine ⟨by simp [Oper.about, resolve, Target.leads, Sem.run_pure], ?_⟩
        rw [Oper.semAt_plain _ _ _ (by intro c hc; cases hc)]
        simp [execOp, resolve, invoke, builtin, Act.eval, f28, f33, hrun, Result.andThen]
        exact hK _ _ (h.step 6 (by decide) (by decide) _ rfl _ (fun e => by cases e) (fun _ => bit_of d0) (.inr (.inr (.inr (.inl ⟨(bit_other L (by decide)).trans k4, (bit_other L (by decide)).trans (bit_of d5), bit_same L 6 (by rw [h.size]; decide), (bit_other L (by decide)).trans k7, p7, c7, hs34 _, hfin⟩)))))
      · have d6 := ready_after hi _ rfl 0 _ rfl rfl
        obtain ⟨k4, k5, p7, c7, h34, hg⟩ := h.st.four (bit_of d6) hnd
        have f34 : Y[34]?.getD undef = .slice p7 (pre.length + 1) c7 := by rw [← Array.getD_eq_getD_getElem?]; exact h34
        obtain ⟨vs7, g1, g2, g3, g4, g5, g6, g7, g8⟩ := hg
        have cr := g3.cell 0 _ rfl
        have fr := g3.frozen 0
        have hset : ∀ (g' : Nat) (T : TypeId) (cs : List Value), T ≠ 71 → Blk u g' T cs → Blk (u.setCell ⟨rb, 0, none⟩ (.slice p7 (pre.length + 1) c7)) g' T cs := fun g' T cs hT hb => hb.other (fun e => by
          subst e
          unfold Blk at hb g3
          rw [hb] at g3
          injection g3 with g3
          injection g3 with _ g3
          exact hT g3) 0 _
        have how : (u.setCell ⟨rb, 0, none⟩ (.slice p7 (pre.length + 1) c7)).ownsRow n₀ 69 1 (.slice p7 (pre.length + 1) c7) (pre ++ [x]).length vs7 := by
          refine ⟨g1.1, ?_⟩
          rcases g1.2 with q1 | ⟨g', cap, cur, hv, q1, hgg, q2⟩
          · exact .inl q1
          · refine .inr ⟨g', cap, cur, hv, q1, (Below.heap_setCell _ _ _ _ (fun e => ?_)).trans hgg, q2⟩
            have e2 : g' = rb := e
            subst e2
            unfold Blk at g3
            rw [g3] at hgg
            injection hgg with hgg
            injection hgg with _ hgg
            exact absurd hgg (by decide)
        have hyr : y ≠ rb := Nat.ne_of_gt hry
        have hfin : ApG W b q.1 n₀ rb n₀ fb W0.heap.size y (pre ++ [x]) (.slice p7 (pre.length + 1) c7) (.slice p7 (pre.length + 1) c7) (u.setCell ⟨rb, 0, none⟩ (.slice p7 (pre.length + 1) c7)) :=
          ⟨vs7, how, fun i k z hk hz => (g2 i k z hk hz).kept (fun g T cs _ hT hb => hset g T cs hT hb), g3.set_ 0 _, hset _ _ _ (by decide) g4, hset _ _ _ (by decide) g5, by simpa [World.setCell] using g6, g7.trans ⟨(Below.refl n₀ u).setCell (p := ⟨rb, 0, none⟩) hnr _, fun g hg => Below.heap_setCell _ _ _ _ (by simp at hg; subst hg; exact hyr)⟩, g8.trans (KeepsOthers.setCell _ _ _)⟩
        have HH := Lib.hid h; have HFn := Lib.hid hfin
        clear h hfin how g1 g2 g3 g4 g5 g6 g7 g8 hset
        refine wpOpIn_step rfl (fun K hK => ?_)
        go_simp
        exact hK _ _ (HH.out.step 7 (by decide) (by decide) _ rfl undef (fun e => by cases e) (fun e => by cases e) (.inr (.inr (.inr (.inr ⟨(bit_other L (by decide)).trans k4, (bit_other L (by decide)).trans k5, (bit_other L (by decide)).trans (bit_of d6), bit_same L 7 (by rw [HH.out.size]; decide), _, HFn.out⟩)))))
    case last =>
      intro L a u h hr
      have h7 := all_done h.size (by kernel_rfl) hr 7 (by decide)
      obtain ⟨v, vs7, g1, g2, g3, g4, g5, g6, g7, g8⟩ := h.st.five h7
      obtain ⟨Y, D⟩ := a
      obtain rfl : D = [] := h.defers
      clear h hr h7
      gi_wp2
      exact ⟨g8.from _, g7, ⟨v, vs7, g3, g1, g2, g4, g5, g6, (g7.2 y (by simp)).trans H7.out⟩, HB1.out.trans g7.1⟩
  case done =>
    rintro D ys W hD rfl ⟨⟨v, vs, h1, h2, h3, h4, h5, h6, h7⟩, hB1⟩ hK
    have c1 := h1.cell 0 _ rfl
    have H2 := Lib.hid h2; have H3 := Lib.hid h3; have HB1 := Lib.hid hB1; have HK := Lib.hid hK
    clear h1 h2 h3 h4 h5 h6 h7 hB1 hK
    gi_wp2
    refine ⟨by simp, .inl ⟨_, _, rfl, run_takeDeferred HK.out, ?_⟩⟩
    have hg := grownBy_putObj' W D (.deferred none)
    have kept : ∀ {b : Nat} {T : TypeId} {cs : List Value}, Blk W b T cs → Blk (W.putObj D (.deferred none)) b T cs := fun h => blk_kept h hg (fun r e => by cases e; exact ⟨_, HK.out, rfl⟩)
    refine ⟨_, results_tmp rfl _ _ _, v, vs, rfl, ?_, ?_, fun i u x hu hx => ?_⟩
    · exact (Hn₀.out ▸ HB1.out : Below w.heap.size w W).trans (belowK_b (w := w) (Nat.le_refl _) W D _ _ (by have := Hn₀.out; omega) HK.out rfl rfl)
    · rw [← Hn₀.out, ← pcs_length s.n l]
      refine H2.out.kept hg ?_
      rcases H2.out.2 with ⟨rfl, _⟩ | ⟨g, cap, cur, rfl, _, hgg, _⟩
      · exact .inl rfl
      · right
        intro e
        simp [Value.ownBlock] at e
        subst e
        have := HK.out
        rw [hgg] at this
        cases this
    · rw [← Hn₀.out]
      exact (H3.out i u x hu hx).kept (fun g T cs _ _ hb => kept hb)
  case stop =>
    rintro D c pre W hD _ hf _
    exact hf.elim
end Go.Proofs.YtbekdcpdfmfopaaGreat
end

section
namespace Go.Proofs.YtbekdcpdfmfopaaGreat
open Go.RowKit

def addC (f : Nat) (xs : List Pc) : List WC := xs.map fun x => WC.add f ⟨#[]⟩ x.1.1 x.1.2
/-- The row that 'appending' answers, as closures of the log. -/
theorem rowA {w w' : World} {b bd : Nat} {κ μ : Foot} {s : WS} {d : DS} (h : LS w b bd κ μ s d) (hx : Ext w w') {v : Value} {vs : List Value} {xs : List Pc} {f : Nat} (ho : w'.ownsRow w.heap.size 69 1 v xs.length vs) (hi : ∀ (i : Nat) (u : Value) (x : Pc), vs[i]? = some u → xs[i]? = some x → IsA w' b w.heap.size f u x) :
    ∃ p c, v = .slice p (addC f xs).length c ∧ RowC w' b bd κ μ p (addC f xs) := by
  have hfree : ∀ g, w.heap.size ≤ g → g < w'.heap.size → Free κ μ w' g := fun g h1 h2 => ⟨h2, Classical.byContradiction fun e => by have := h.wal.ins g e; omega, Classical.byContradiction fun e => by have := h.disk.ins g e; omega⟩
  have _ := hx
  have hl : (addC f xs).length = xs.length := by simp [addC]
  have hic : ∀ (i : Nat) (u : Value) (c : WC), vs[i]? = some u → (addC f xs)[i]? = some c → IsC w' b bd κ μ u c := fun i u c hu hc => by
    unfold addC at hc
    rw [List.getElem?_map] at hc
    rcases hz : xs[i]? with _ | z
    · rw [hz] at hc; cases hc
    · rw [hz] at hc
      simp at hc
      subst hc
      obtain ⟨x1, y1, z1, e, ⟨g1, g2, g3⟩, b1, b2, b3⟩ := hi i u z hu hz
      exact ⟨x1, y1, z1, e, hfree _ g1 b1.lt, hfree _ g2 b2.lt, hfree _ g3 b3.lt, b1, b2, b3⟩
  have hvl : vs.length = xs.length := by have := ho.1; omega
  rcases ho.2 with ⟨hv, h0⟩ | ⟨g, cap, cur, hv, hB, hg, hle, _, hsz, ht⟩
  · refine ⟨none, 0, by rw [hv, hl, h0], vs, by rw [hl]; exact hvl, fun i u hu => ?_, hic⟩
    have : i < vs.length := (List.getElem?_eq_some_iff.1 hu).1
    omega
  · refine ⟨some ⟨g, 0, none⟩, cap, by rw [hv, hl], vs, by rw [hl]; exact hvl, fun i u hu => ⟨⟨g, 0, none⟩, rfl, hfree g hB (heap_lt hg), ?_⟩, hic⟩
    have hi2 : i < vs.length := (List.getElem?_eq_some_iff.1 hu).1
    rw [add_zero_off, cell_of_row w' g i cur _ (0, 0) hg]
    have e : cur.toList[i]? = vs[i]? := by
      rw [← ht, List.getElem?_take, if_pos (by omega)]
    rw [← Array.getElem?_toList, e, hu]
set_option maxRecDepth 100000 in
set_option maxHeartbeats 2000000 in
theorem free0_any (w : World) (b bd : Nat) (κ : Foot) (s : WS) (h : IsW w b bd κ s) :
    Calls Tryz.prog 32 #[.pointer (some ⟨b, 0, none⟩), .int .i64 0] w fun e w' => e = .returned (.tuple #[.slice none 0 0, .int .i64 0]) ∧ Ext w w' := by
  have hx2 : Ext w ((w.alloc (.cells #[.pointer (some ⟨b, 0, none⟩)] 27)).alloc (.cells #[.int .i64 0] 3)) := ((Ext.refl w).alloc _).alloc _
  have bf2 : Blk ((w.alloc (.cells #[.pointer (some ⟨b, 0, none⟩)] 27)).alloc (.cells #[.int .i64 0] 3)) (w.heap.size + 1) 3 [.int .i64 0] := by
    have := Blk.new (w.alloc (.cells #[.pointer (some ⟨b, 0, none⟩)] 27)) [.int .i64 0] 3
    simpa using this
  have by2 := (Blk.new w [.pointer (some ⟨b, 0, none⟩)] 27).alloc (.cells #[.int .i64 0] 3)
  have HX2 := Lib.hid hx2
  have HB := Lib.hid bf2; have HY := Lib.hid by2
  have HN := Lib.hid (fun u (hu : Ext w u) => (h.ext hu).cells.2.1)
  clear h hx2 bf2 by2
  go_enter Tryz.func32, Tryz.ntmps32
  go_wp2
  obtain ⟨W, hW⟩ : ∃ W, W = (w.alloc (.cells #[.pointer (some ⟨b, 0, none⟩)] 27)).alloc (.cells #[.int .i64 0] 3) := ⟨_, rfl⟩
  have HW := Lib.hid hW
  go_loopw [6, 7] (fun lv fv wr => lv = .slice none 0 0 ∧ fv = .pointer (some ⟨w.heap.size + 1, 0, none⟩) ∧ wr = W) (fun _ _ _ => 0)
  case atStart => exact ⟨rfl, rfl, HW.out.symm⟩
  case round =>
    obtain ⟨rfl, rfl, rfl⟩ := hrel
    rw [← HW.out] at HX2 HB HY
    have c0 := HB.out.cell 0 _ rfl
    have c1 := HY.out.cell 0 _ rfl
    have c2 := HN.out _ HX2.out
    clear hW HW HB HY HN
    by_cases hn : 0 < s.nf
    · go_upto_region 3 with (fail)
      go_quiet (fail)
      go_wp2
      go_ret2
      exact ⟨rfl, HX2.out.trans ((Ext.refl wr).drewN _)⟩
    · go_upto_region 3 with (fail)
      go_quiet (fail)
      go_wp2
      go_ret2
      exact ⟨rfl, HX2.out.trans ((Ext.refl wr).drewN _)⟩
set_option maxRecDepth 100000 in
set_option maxHeartbeats 4000000 in
theorem append_any (w : World) (p : Option Addr) (c : Nat) (l : List ByteArray) (b bd : Nat) (κ μ : Foot) (s : WS) (d : DS) (h : LS w b bd κ μ s d) (k : s.Ok) (he : s.e = 0) (q : Nat × Nat) (hq : s.P[s.P.length - 1]? = some q) (ht : TextsP w p l) (hll : l.length ≤ 1000000) (hs : ∀ x ∈ l, x.size ≤ 65536) (hfit : ∀ i, i < l.length → q.2 + lenP l i < s.sz)
    (hmax : s.n + l.length ≤ 281474976710657) (hroom : ((lenP l l.length : Nat) : Int) ≤ s.room d) (s9 : WS) (d9 : DS) (hr9 : 0 ≤ s9.r ∧ s9.r ≤ 1099511627776) (hok : okF (addC q.1 (pcs s.n l)) s d) (hdo : doF (addC q.1 (pcs s.n l)) s d = (s9, d9, 0)) :
    Calls Tryz.prog 13 #[.pointer (some ⟨b, 0, none⟩), .int .i64 0, .slice p l.length c] w fun e w' => e = .returned (.tuple #[.int .u64 (s.n : Int), .int .i64 0]) ∧ LPost w b bd κ μ w' s9 d9 := by
  have HG := Lib.hid (fun u (hu : Ext w u) => wgoes_any u b bd κ s (h.wal.ext hu))
  rw [he, if_pos rfl] at HG
  have HLg := Lib.hid (wlongs_no w p c l ht hll hs)
  have HNd := Lib.hid (fun u (hu : Ext w u) => need_any u p c l b bd κ μ s d (h.ext hu) k q hq (ht.ext hu) hll hs hfit)
  have HRm := Lib.hid (fun u (hu : Ext w u) => wRoom_any u b bd κ μ s d (h.ext hu) k)
  have HFr := Lib.hid (fun u (hu : Ext w u) => free0_any u b bd κ s (h.wal.ext hu))
  have HX0 := Lib.hid (Ext.refl w)
  have hr0 := k.r
  obtain ⟨_, _, _, _, _, _, c6, c8, _⟩ := h.wal.cells
  have hkn := k.n
  have hw1 : IntKind.u64.wrap (l.length : Int) = (l.length : Int) := u64_nat (x := l.length) (by omega)
  have hw2 : IntKind.u64.wrap (281474976710657 - (s.n : Int)) = ((281474976710657 - s.n : Nat) : Int) := by
    rw [show (281474976710657 - (s.n : Int)) = ((281474976710657 - s.n : Nat) : Int) by omega]
    exact u64_nat (x := 281474976710657 - s.n) (by omega)
  have hg1 : ¬ (((281474976710657 - s.n : Nat) : Int) < (l.length : Int)) := by omega
  have hg0 : ¬ (s.r < 0) := by omega
  have hsum := sumP_mem s.P k.b k.P s.P.length
  rw [List.take_length] at hsum
  have hleft := h.disk.ok.left_in
  have hsp := k.space_in (sumP s.P : Int) d.left ⟨by omega, by omega⟩ ⟨by omega, by omega⟩
  have hrm : 0 ≤ s.room d ∧ s.room d ≤ 2251799813685248 := by unfold WS.room; omega
  have hw3 : wrap64 (s.room d) = s.room d := wrap64_in _ ⟨by omega, by omega⟩
  have hcmp : ¬ wrap64 (s.room d) < ((lenP l l.length : Nat) : Int) := by rw [hw3]; omega
  have hw9 : wrap64 s9.r = s9.r := wrap64_in _ ⟨by omega, by omega⟩
  have HC6 := Lib.hid (fun u (hu : Ext w u) => (h.wal.ext hu).cells.2.2.2.2.2.2.1)
  have HAp := Lib.hid (fun u (hu : Ext w u) => appending_any u none 0 0 p c l b bd κ μ s d (h.ext hu) k q hq (ht.ext hu) hll hs hfit)
  have HL := Lib.hid (fun u (hu : Ext w u) => h.ext hu)
  have HOk := Lib.hid hok; have HDo := Lib.hid hdo
  have HLn : Hid ((addC q.1 (pcs s.n l)).length ≤ 1000000) := Lib.hid (by simp [addC, pcs_length]; exact hll)
  clear h ht hs hfit hq hok hdo hsum hleft hsp hrm hroom hmax hkn hr0 he hw3 hr9
  generalize ((lenP l l.length : Nat) : Int) = v9 at *
  generalize s.room d = rm at *
  go_enter Tryz.func13, Tryz.ntmps13
  go_upto_region 10 with (first
    | (go_at_call 25; refine (HG.out _ HX0.out).mono ?_; rintro e w1 ⟨rfl, rfl⟩)
    | (go_at_call 36; refine (HLg.out).mono ?_; rintro e w1 ⟨rfl, rfl⟩))
  go_wp2_with (first
    | (go_at_call 38; refine (HNd.out _ HX0.out).mono ?_; rintro e w1 ⟨rfl, x1⟩; have X1 := Lib.hid x1; clear x1)
    | (go_at_call 10; refine (HRm.out _ X1.out).mono ?_; rintro e w2 ⟨rfl, x2⟩; have X2 := Lib.hid (Ext.trans X1.out x2); clear x2)
    | (go_at_call 32; refine (HFr.out _ X2.out).mono ?_; rintro e w3 ⟨rfl, x3⟩; have X3 := Lib.hid (Ext.trans X2.out x3); have c63 := HC6.out _ (Ext.trans X2.out x3); clear x3)
    | (go_at_call 39; refine (HAp.out _ X3.out).mono ?_; rintro e w4 ⟨v4, vs4, rfl, x4, ho4, hi4⟩; obtain ⟨p4, c4, rfl, hr4⟩ := rowA (HL.out _ X3.out) x4 (by rw [pcs_length]; exact ho4) hi4; have X4 := Lib.hid (Ext.trans X3.out x4); have HR4 := Lib.hid hr4; have HD := Lib.hid (do_any' w4 b bd κ μ s d (HL.out _ (Ext.trans X3.out x4)) p4 c4 _ hr4 HLn.out HOk.out _ _ _ HDo.out); clear x4 ho4 hi4 hr4)
    | (go_at_call 29; refine (HD.out).mono ?_; rintro e w5 ⟨rfl, κ5, μ5, hl5, hf5⟩; have c85 := hl5.wal.cells.2.2.2.2.2.2.2.1; have f85 := hl5.wal.frozen 8; have HL5 := Lib.hid hl5; have HF5 := Lib.hid hf5; clear hl5 hf5))
  go_ret2
  exact ⟨rfl, LPost.after (X4.out.fr2 κ μ) (LPost.after HF5.out (HL5.out.setw 8 (.int .i64 s9.r) rfl (fun pv => rfl)))⟩
end Go.Proofs.YtbekdcpdfmfopaaGreat
end

section
namespace Go.Proofs.YtbekdcpdfmfopaaGreat
open Go.RowKit

theorem zero_runD {P : Program} {t : TypeId} {z : Value} (h : (P.info? t).bind (·.zero) = some z) (w : World) : (zeroValue t).run P w = .ok z w := by
  cases hq : P.info? t with
  | none => simp [hq] at h
  | some i =>
    have hz : i.zero = some z := by simpa [hq] using h
    simp [zeroValue, typeInfo, hq, hz]
def zf : List Value := List.replicate 16 (.slice none 0 0)
def zfc : Array Value := zf.toArray
theorem zf_length : zf.length = 16 := rfl
theorem zeroF : (Tryz.prog.info? 82).bind (·.zero) = some (.agg zfc) := by kernel_rfl
theorem sizeZ : (Tryz.prog.info? 82).map (·.size) = some zfc.size := by kernel_rfl
theorem blk_zf (w : World) : Blk (w.alloc (.cells zfc 82)) w.heap.size 82 zf := heap_alloc_new w _
attribute [irreducible] zfc zf
/-- Slices of 16 files. -/
def FilesAt (w : World) (κ : Foot) (N : Fs) (p : Nat → Option Addr) (c : Nat → Nat) : Prop := ∀ i, i < 16 → Sl w κ (4 + i) 1 5 (p i) (N i).size (c i) (byteCells (N i))
theorem FilesAt.ext {w w' : World} {κ : Foot} {N : Fs} {p : Nat → Option Addr} {c : Nat → Nat} (h : FilesAt w κ N p c) (hx : Ext w w') : FilesAt w' κ N p c := fun i hi => (h i hi).ext hx
set_option maxRecDepth 100000 in
set_option maxHeartbeats 2000000 in
theorem copied_any (w : World) (κ : Foot) (N : Fs) (p : Nat → Option Addr) (c : Nat → Nat) (h : FilesAt w κ N p c) (hN : ∀ i, (N i).size ≤ 4194304) (κ0 : Foot) :
    Calls Tryz.prog 48 #[.agg (sls N p c).toArray] w fun e w' => ∃ p' c', e = .returned (.agg (sls N p' c').toArray) ∧ ∃ κ', FilesAt w' κ' N p' c' ∧ Fr κ0 (fun _ => False) w w' κ' := by
  have hz := zero_runD zeroF
  have hr0 : Blk ((w.alloc (.cells (sls N p c).toArray 82)).alloc (.cells zfc 82)) w.heap.size 82 (sls N p c) := (Blk.new w _ _).alloc _
  have hr1 : Blk ((w.alloc (.cells (sls N p c).toArray 82)).alloc (.cells zfc 82)) (w.heap.size + 1) 82 zf := by
    have := blk_zf (w.alloc (.cells (sls N p c).toArray 82))
    simpa using this
  have HF0 : Hid (Fr κ0 (fun _ => False) w ((w.alloc (.cells (sls N p c).toArray 82)).alloc (.cells zfc 82)) κ0) := Lib.hid (((Fr.refl κ0 _ w).alloc _).alloc _)
  have HR0 := Lib.hid hr0; have HR1 := Lib.hid hr1
  have H := Lib.hid h; have HN := Lib.hid hN
  have HI := Lib.hid (fun i hi u => index_sls N p c i hi u)
  have HSz := Lib.hid (sizedA N p c)
  have HFirst := Lib.hid (⟨p, c, rfl, fun _ _ => ⟨rfl, rfl⟩⟩ : ∃ p' c', sls N p c = sls N p' c' ∧ ∀ i, 0 ≤ i → p' i = p i ∧ c' i = c i)
  clear hr0 hr1 h hN
  obtain ⟨T, hT⟩ : ∃ T, sls N p c = T := ⟨_, rfl⟩
  rw [hT] at HR0 HR1 HF0 HI HSz HFirst ⊢
  clear hT
  go_enter Tryz.func48, Tryz.ntmps48
  go_wp2_with (refine wpList_load_row rfl 82 (.tmp 1) rfl w.heap.size rfl 82 _ (0, 0) _ HR0.out Tryz.underlying82 rfl HSz.out ?_)
  go_loopw [3, 4, 6] (fun _ _ iv wr => ∃ j : Nat, j ≤ 16 ∧ iv = .int .i64 (j : Int) ∧ Blk wr (w.heap.size + 1) 82 zf ∧ ∃ p' c' κ', Blk wr w.heap.size 82 (sls N p' c') ∧ (∀ i, j ≤ i → p' i = p i ∧ c' i = c i) ∧ (∀ i, i < j → Sl wr κ' (4 + i) 1 5 (p' i) (N i).size (c' i) (byteCells (N i))) ∧ Fr κ0 (fun _ => False) w wr κ') (fun _ _ iv _ => 16 - (intOf iv).toNat)
  case atStart =>
    obtain ⟨p', c', e, hpc⟩ := HFirst.out
    exact ⟨0, Nat.zero_le _, rfl, HR1.out, p', c', κ0, by rw [← e]; exact HR0.out, hpc, fun i hi => by omega, HF0.out⟩
  case round =>
    obtain ⟨j, hj, rfl, hb1, p', c', κ', hb0, hpc, hsl, hfr⟩ := hrel
    by_cases hlt : j < 16
    · have hi := fun u => HI.out j hlt u
      have HB0 := Lib.hid hb0; have HB1 := Lib.hid hb1; have HPC := Lib.hid hpc; have HSl := Lib.hid hsl; have HF := Lib.hid hfr
      have HC := Lib.hid (fun u (hu : Ext w u) => cloneB_any u κ (4 + j) (p j) (c j) (N j) ((H.out j hlt).ext hu) (HN.out j) κ' (4 + j))
      have hji : (j : Int) < 16 := by omega
      have hj0 : (0 : Int) ≤ (j : Int) := by omega
      have HX := Lib.hid hfr.toExt
      clear hb0 hb1 hpc hsl hfr
      obtain ⟨nj, hnj⟩ : ∃ nj, (N j).size = nj := ⟨_, rfl⟩
      obtain ⟨vj, hvj⟩ : ∃ vj, byteCells (N j) = vj := ⟨_, rfl⟩
      rw [hnj, hvj] at HC
      rw [hnj] at hi
      have HNJ := Lib.hid hnj
      have HVJ := Lib.hid hvj
      clear hnj hvj
      go_wp2_with (go_at_call 72; refine (HC.out _ HX.out).mono ?_; rintro e w1 ⟨q, k, rfl, κ1, s1, f1⟩; have HS1 := Lib.hid s1; have HF1 := Lib.hid f1; have HB2 := Lib.hid (HB0.out.ext f1.toExt); have HB3 := Lib.hid (HB1.out.ext f1.toExt); have cj := HB2.out.cell j _ (sls_at N p' c' j hlt); have fj := HB2.out.frozen j; clear s1 f1)
      go_roundw
      case rel =>
        refine ⟨j + 1, by omega, by go_num, HB3.out.other (by omega) _ _, (fun i => if i = j then q else p' i), (fun i => if i = j then k else c' i), κ1, ?_, ?_, ?_, ?_⟩
        · have := HB2.out.set_ j (.slice q nj k)
          rw [← HNJ.out, sls_set N p' c' j hlt (N j) q k] at this
          have e : upd N j (N j) = N := by funext i; unfold upd; split <;> simp_all
          rw [e] at this
          rw [← HNJ.out]
          exact this
        · intro i hi
          have := HPC.out i (by omega)
          have hne : i ≠ j := by omega
          simp only [hne, if_false]
          exact this
        · intro i hi
          have hs : ∀ g, g ≠ w.heap.size → (w1.setCell ⟨w.heap.size, j, none⟩ (.slice q nj k)).heap[g]? = w1.heap[g]? := fun g hg => Below.heap_setCell _ _ _ _ hg
          by_cases e : i = j
          · subst e
            simp only [if_true]
            have := HS1.out
            rw [← HNJ.out, ← HVJ.out] at this
            rw [← HNJ.out] at hs ⊢
            exact this.parted HB2.out (by decide) hs
          · simp only [e, if_false]
            exact ((HSl.out i (by omega)).fr HF1.out (fun x => x)).parted HB2.out (by decide) hs
        · exact (HF.out.trans HF1.out).own (Nat.le_refl _) _
      case measure => simp [intOf]; omega
    · obtain rfl : j = 16 := by omega
      have e16 : ((16 : Nat) : Int) = 16 := rfl
      rw [e16]
      clear e16
      have HB0 := Lib.hid hb0; have HB1 := Lib.hid hb1; have HSl := Lib.hid hsl; have HF := Lib.hid hfr
      have HS2 := Lib.hid (sizedA N p' c')
      have HA2 := Lib.hid (sls_all N p' c')
      clear hb0 hb1 hsl hfr hpc
      have hle : zf.toArray.size = (sls N p' c').toArray.size := by rw [List.size_toArray, List.size_toArray, sls_length, zf_length]
      go_wp2_with (first
        | (refine wpList_load_row rfl 82 (.tmp 1) rfl w.heap.size rfl 82 _ (0, 0) _ HB0.out Tryz.underlying82 rfl HS2.out ?_)
        | (refine wpList_store_row rfl 82 (.tmp 2) (.tmp 15) rfl (w.heap.size + 1) _ rfl rfl 82 _ HB1.out HS2.out hle HA2.out ?_))
      have hr := (setRow_heap _ _ _ (sls N p' c').toArray _ _ HB1.out)
      refine bodyPost_ret (results_cell_row rfl _ _ (w.heap.size + 1) 82 _ (0, 0) _ rfl hr Tryz.underlying82 rfl HS2.out) rfl ?_
      refine ⟨p', c', rfl, κ', fun i hi => (HSl.out i hi).parted HB1.out (by decide) (fun g hg => setRow_other _ _ _ _ hg), HF.out.ownRow (Nat.le_succ _) _⟩
end Go.Proofs.YtbekdcpdfmfopaaGreat
end

section
namespace Go.Proofs.YtbekdcpdfmfopaaGreat
open Go.RowKit

/-- A struct built whose cells are told. -/
theorem wpList_builtD {P : Program} {ops : Array Oper} {rest : List Oper} {o : Oper} {a : Act} {w : World} {Q : Exit → Act → World → Prop} (hg : o.guard = none) (t : TypeId) (l : List (Nat × Operand)) (ho : o.op = .build t l.toArray) (vs : List (Nat × Value)) (hv : l.map (fun p => (p.1, a.eval p.2)) = vs) (cells : Array Value)
    (hc : P.built t vs = some cells) (h : wpList P ops Q rest (a.put o.dst (.agg cells)) w) : wpList P ops Q (o :: rest) a w := by
  have e : (l.toArray.map fun (i, x) => (i, a.eval x)).toList = vs := by rw [← hv]; simp
  refine wpList_build hg t l.toArray ho (by rw [e, hc]; rfl) ?_
  rw [e, hc]
  exact h
def noFs : Fs := fun _ => ⟨#[]⟩
def noP : Nat → Option Addr := fun _ => none
def noC : Nat → Nat := fun _ => 0
/-- A disk of empty files. -/
def DS.new (m room : Nat) : DS := ⟨m, room, -1, noFs, []⟩
theorem built_disk (m room : Nat) : Tryz.prog.built 85 [(0, .int .i64 (m : Int)), (1, .int .i64 (room : Int)), (2, .int .i64 (-1))] = some (rcells m room (-1) (sls noFs noP noC) (sls noFs noP noC) (.slice none 0 0)).toArray := by kernel_rfl
theorem DS.Ok.new {m room : Nat} (h1 : 1 ≤ m) (h2 : m ≤ 16) (h3 : room ≤ 4194304) : (DS.new m room).Ok :=
  ⟨h1, h2, h3, by show (-1 : Int) ≤ -1; omega, by show (-1 : Int) ≤ _; omega, fun i => by show (⟨#[]⟩ : ByteArray).size ≤ _; decide, fun _ _ => rfl, oks_nil _ _⟩
theorem built_is (w : World) (m room : Nat) (h1 : 1 ≤ m) (h2 : m ≤ 16) (h3 : room ≤ 4194304) : IsD (w.alloc (.cells (rcells m room (-1) (sls noFs noP noC) (sls noFs noP noC) (.slice none 0 0)).toArray 85)) w.heap.size (setK (fun _ => 0) w.heap.size 2) (DS.new m room) := by
  have hs : ∀ i, Sl (w.alloc (.cells (rcells m room (-1) (sls noFs noP noC) (sls noFs noP noC) (.slice none 0 0)).toArray 85)) (setK (fun _ => 0) w.heap.size 2) (4 + i) 1 5 (noP i) (noFs i).size (noC i) (byteCells (noFs i)) := fun i => Sl.nil _ _ _ _ _
  refine ⟨⟨noP, noP, noC, noC, none, 0, ⟨Blk.new w _ _, fun i hi => ⟨hs i, hs i, Al.same _ _ _ _⟩, setK_same _ _ _, fun g hg => ?_⟩, Loose.nil _ _⟩, DS.Ok.new h1 h2 h3⟩
  by_cases e : g = w.heap.size
  · subst e; simp
  · rw [setK_other _ _ e] at hg; exact absurd rfl hg
set_option maxRecDepth 100000 in
set_option maxHeartbeats 1000000 in
theorem New_yes (w : World) (m room : Nat) (h1 : 1 ≤ m) (h2 : m ≤ 16) (h3 : room ≤ 4194304) :
    Calls Tryz.prog 21 #[.int .i64 (m : Int), .int .i64 (room : Int)] w fun e w' => e = .returned (.tuple #[.pointer (some ⟨w.heap.size, 0, none⟩), .int .i64 0]) ∧ IsD w' w.heap.size (setK (fun _ => 0) w.heap.size 2) (DS.new m room) ∧ Ext w w' := by
  have HD := Lib.hid (built_is w m room h1 h2 h3)
  have g1 : ¬ (m : Int) < 1 := by omega
  have g2 : ¬ (16 : Int) < (m : Int) := by omega
  have g3 : ¬ (room : Int) < 0 := by omega
  have g4 : ¬ (4194304 : Int) < (room : Int) := by omega
  have HC := Lib.hid (built_disk m room)
  generalize (rcells m room (-1) (sls noFs noP noC) (sls noFs noP noC) (.slice none 0 0)).toArray = C at *
  generalize DS.new m room = D at *
  clear h1 h2 h3
  go_enter Tryz.func21, Tryz.ntmps21
  go_wp2_with (refine wpList_builtD rfl 85 [(0, .tmp 20), (1, .tmp 21), (2, .const (.int .i64 (-1)))] rfl [(0, .int .i64 (m : Int)), (1, .int .i64 (room : Int)), (2, .int .i64 (-1))] rfl C HC.out ?_)
  go_ret2
  exact ⟨rfl, HD.out, (Ext.refl w).alloc _⟩
theorem New_no (w : World) (m room : Int) (h : m < 1 ∨ 16 < m ∨ room < 0 ∨ 4194304 < room) :
    Calls Tryz.prog 21 #[.int .i64 m, .int .i64 room] w fun e w' => e = .returned (.tuple #[.pointer none, .int .i64 2]) ∧ w = w' := by
  by_cases h1 : m < 1
  · go_enter Tryz.func21, Tryz.ntmps21
    go_wp2
    go_ret2
    exact ⟨rfl, rfl⟩
  · by_cases h2 : 16 < m
    · go_enter Tryz.func21, Tryz.ntmps21
      go_wp2
      go_ret2
      exact ⟨rfl, rfl⟩
    · by_cases h3 : room < 0
      · go_enter Tryz.func21, Tryz.ntmps21
        go_wp2
        go_ret2
        exact ⟨rfl, rfl⟩
      · have h4 : 4194304 < room := by omega
        go_enter Tryz.func21, Tryz.ntmps21
        go_wp2
        go_ret2
        exact ⟨rfl, rfl⟩
theorem rcells_put_now {m room : Nat} {fuse : Int} {A B T : List Value} {lv : Value} (hA : A.length = 16) (hT : T.length = 16) : (rcells m room fuse A B lv).take 3 ++ (T ++ (rcells m room fuse A B lv).drop (3 + T.length)) = rcells m room fuse T B lv := by
  unfold rcells
  rw [hT]
  simp [hA]
/-- The files as they were at the last Sync, copied. -/
theorem Raw.restore {w w1 : World} {b : Nat} {κ κ1 : Foot} {m room : Nat} {fuse : Int} {N S : Fs} {pn qs : Nat → Option Addr} {cn ks : Nat → Nat} {lv : Value} (r : Raw w b κ m room fuse N S pn qs cn ks lv) (f : Fr κ (fun _ => False) w w1 κ1) {p' : Nat → Option Addr} {c' : Nat → Nat} (hF : FilesAt w1 κ1 S p' c') :
    Raw (w1.setCells b 3 (sls S p' c')) b κ1 m room fuse S S p' qs c' ks lv ∧ Fr κ (fun j => j = 2 ∨ 4 ≤ j) w (w1.setCells b 3 (sls S p' c')) κ1 := by
  have r1 := r.fr0 f
  have f1 : Fr κ1 (· = 2) w1 (w1.setCells b 3 (sls S p' c')) κ1 := setCells_fr (P := (· = 2)) r1.disk (sls S p' c') 3 w1
  have hl : 3 + (sls S p' c').length ≤ (rcells m room fuse (sls N pn cn) (sls S qs ks) lv).length := by rw [sls_length, rcells_length (sls_length _ _ _) (sls_length _ _ _)]; decide
  have h1 := r1.blk.setCells (sls S p' c') 3 _ hl
  rw [rcells_put_now (sls_length _ _ _) (sls_length _ _ _)] at h1
  exact ⟨⟨h1, fun i hi => ⟨(hF i hi).fr f1 (by omega), (r1.slot i hi).2.1.fr f1 (by omega), Al.same _ _ _ _⟩, r1.disk, f1.ins r1.ins⟩, f.none.trans (f1.mono (fun k e => .inl e))⟩
/-- The files behind j calls of a crash. -/
def DS.stage (d : DS) (calls bytes : Int) (j : Nat) : Fs :=
  if calls < 0 then d.S else if (j : Int) ≤ calls then runs d.S (d.L.take j) else match d.L[calls.toNat]? with
    | none => d.now
    | some c => c.torn (runs d.S (d.L.take calls.toNat)) bytes.toNat
theorem DS.stage_zero (d : DS) (calls bytes : Int) : d.stage calls bytes 0 = d.S := by
  unfold DS.stage
  split
  · rfl
  · rw [if_pos (by omega)]; simp [runs_nil]
theorem DS.stage_all (d : DS) (calls bytes : Int) : d.stage calls bytes d.L.length = d.left_ calls bytes := by
  unfold DS.stage DS.left_
  by_cases h0 : calls < 0
  · rw [if_pos h0, if_pos h0]
  · rw [if_neg h0, if_neg h0]
    by_cases h1 : (d.L.length : Int) ≤ calls
    · rw [if_pos h1, List.take_length, List.getElem?_eq_none (by omega)]
      rfl
    · rw [if_neg h1]
      rcases d.L[calls.toNat]? with _ | c <;> rfl
theorem DS.stage_done (d : DS) (calls bytes : Int) (j : Nat) (c : Chg) (hc : d.L[j]? = some c) (h : (j : Int) < calls) : d.stage calls bytes (j + 1) = c.does (d.stage calls bytes j) := by
  unfold DS.stage
  rw [if_neg (show ¬ calls < 0 by omega), if_pos (show ((j + 1 : Nat) : Int) ≤ calls by omega), if_pos (show (j : Int) ≤ calls by omega), if_neg (show ¬ calls < 0 by omega), runs_take _ _ _ _ hc]
theorem DS.stage_torn (d : DS) (calls bytes : Int) (j : Nat) (c : Chg) (hc : d.L[j]? = some c) (h : (j : Int) = calls) : d.stage calls bytes (j + 1) = c.torn (d.stage calls bytes j) bytes.toNat := by
  subst h
  unfold DS.stage
  rw [if_neg (show ¬ (j : Int) < 0 by omega), if_neg (show ¬ ((j + 1 : Nat) : Int) ≤ (j : Int) by omega), if_neg (show ¬ (j : Int) < 0 by omega), if_pos (Int.le_refl _), Int.toNat_natCast, hc]
theorem DS.stage_past (d : DS) (calls bytes : Int) (j : Nat) (h : calls < (j : Int)) : d.stage calls bytes (j + 1) = d.stage calls bytes j := by
  unfold DS.stage
  by_cases h0 : calls < 0
  · rw [if_pos h0, if_pos h0]
  · rw [if_neg h0, if_neg h0, if_neg (show ¬ ((j + 1 : Nat) : Int) ≤ calls by omega), if_neg (show ¬ (j : Int) ≤ calls by omega)]
theorem DS.Ok.stage_ok {d : DS} (h : d.Ok) (calls bytes : Int) (j : Nat) (c : Chg) (hc : d.L[j]? = some c) (hj : (j : Int) ≤ calls) : c.ok d.m (d.stage calls bytes j) := by
  unfold DS.stage
  rw [if_neg (by omega), if_pos hj]
  exact h.oks j c hc
end Go.Proofs.YtbekdcpdfmfopaaGreat
end

section
namespace Go.Proofs.YtbekdcpdfmfopaaGreat
open Go.RowKit

theorem sure_there {w : World} {b : Nat} {κ : Foot} {m room : Nat} {fuse : Int} {N S : Fs} {pn qs : Nat → Option Addr} {cn ks : Nat → Nat} {lv : Value} (r : Raw w b κ m room fuse N S pn qs cn ks lv) (n : Nat) (hn : n = 16) : w.there b 3 n := by
  subst hn
  exact r.blk.there 3 16 (by rw [rcells_length (sls_length _ _ _) (sls_length _ _ _)]; decide)
set_option maxRecDepth 100000 in
set_option maxHeartbeats 4000000 in
theorem Crash_any (w : World) (b : Nat) (κ : Foot) (d : DS) (h : IsD w b κ d) (calls bytes : Int) (hL : d.L.length ≤ 1000000) :
    Calls Tryz.prog 23 #[.pointer (some ⟨b, 0, none⟩), .int .i64 calls, .int .i64 bytes] w fun e w' => e = .returned (.int .i64 0) ∧ Post w b κ w' (d.crash calls bytes) := by
  obtain ⟨pn, qs, cn, ks, lp, lc, r, l⟩ := h.lay
  obtain ⟨c0, c1, c2, f2, _⟩ := h.cells
  have HT := Lib.hid (there_yes w b d.m h.ok.m1 c0)
  have HR := Lib.hid r
  have HCp := Lib.hid (copied_any w κ d.S qs ks (fun i hi => (r.slot i hi).2.1) h.ok.sizes κ)
  have HZ := Lib.hid (sizedF d.S qs ks)
  have HSR := Lib.hid r.sureR
  have HTh := Lib.hid (fun u κ1 (hu : Raw u b κ1 d.m d.room d.fuse d.now d.S pn qs cn ks (.slice lp d.L.length lc)) => sure_there hu)
  have HSz : Hid (∀ p c, (Tryz.prog.info? 82).map (·.size) = some (sls d.S p c).toArray.size) := Lib.hid (fun p c => sizedA d.S p c)
  have HOne : Hid (∀ p c, (sls d.S p c).toArray.all (·.oneCell') = true) := Lib.hid (fun p c => sls_all d.S p c)
  have HLen : Hid (∀ p c, (sls d.S p c).toArray.size = 16) := Lib.hid (fun p c => by rw [List.size_toArray, sls_length])
  have HRest := Lib.hid (fun u κ1 (f : Fr κ (fun _ => False) w u κ1) p' c' (hF : FilesAt u κ1 d.S p' c') => r.restore f hF)
  have HLo := Lib.hid l
  have HOk := Lib.hid h.ok
  have hm16 := h.ok.m16
  have HFin := Lib.hid (h.ok.crash calls bytes)
  obtain ⟨fv, hs1, hs2, hs3⟩ := l
  have HFv := Lib.hid hs1
  have HCh := Lib.hid hs2
  have H0 := Lib.hid (d.stage_zero calls bytes)
  have HAll := Lib.hid (d.stage_all calls bytes)
  clear h r hs1 hs2 hs3
  generalize sls d.S qs ks = T0 at *
  go_enter Tryz.func23, Tryz.ntmps23
  go_wp2_with (first
    | (go_at_call 40; refine (HT.out).mono ?_; rintro e w1 ⟨rfl, rfl⟩)
    | (refine wpList_load_mid rfl 82 (.tmp 15) rfl b 19 rfl T0 _ HSR.out Tryz.underlying82 rfl HZ.out ?_)
    | (go_at_call 48; refine (HCp.out).mono ?_; rintro e w1 ⟨p1, k1, rfl, κ1, hF1, g1⟩; have hTh1 := HTh.out _ _ (HR.out.fr0 g1) _ (HLen.out p1 k1); have hSz1 := HSz.out p1 k1; have hOne1 := HOne.out p1 k1; have hG1 := HRest.out _ _ g1 _ _ hF1; clear hF1 g1; revert hTh1 hSz1 hOne1 hG1; generalize sls d.S p1 k1 = T; intro hTh1 hSz1 hOne1 hG1; have HTh1 := Lib.hid hTh1; have HSz1 := Lib.hid hSz1; have HOne1 := Lib.hid hOne1; have HG1 := Lib.hid hG1; clear hTh1 hSz1 hOne1 hG1)
    | (refine wpList_store_mid rfl 82 (.tmp 19) (.tmp 17) rfl b 3 T.toArray rfl rfl HTh1.out HSz1.out HOne1.out ?_; rw [List.toList_toArray]; have hG1 := HG1.out; revert hG1; clear HG1; generalize w1.setCells b 3 T = U; intro hG1; have c35 := (hG1.1.cells).2.2.2; have HG1 := Lib.hid hG1; clear hG1))
  go_loopw [25] (fun iv wr => ∃ j : Nat, j ≤ d.L.length ∧ iv = .int .i64 (j : Int) ∧ ∃ pn' cn' κ', Raw wr b κ' d.m d.room d.fuse (d.stage calls bytes j) d.S pn' qs cn' ks (.slice lp d.L.length lc) ∧ Fr κ (fun k => k = 2 ∨ 4 ≤ k) w wr κ') (fun iv _ => d.L.length - (intOf iv).toNat)
  case atStart => exact ⟨0, Nat.zero_le _, rfl, p1, k1, κ1, by rw [H0.out]; exact HG1.out.1, HG1.out.2⟩
  case round =>
    obtain ⟨j, hj, rfl, pn', cn', κ', hr, hf⟩ := hrel
    have HRj := Lib.hid hr; have HFj := Lib.hid hf
    clear hr hf
    by_cases hlt : j < d.L.length
    · obtain ⟨c, hc⟩ : ∃ c, d.L[j]? = some c := ⟨_, List.getElem?_eq_getElem hlt⟩
      obtain ⟨v, hv, hch⟩ := HCh.out j c hc
      obtain ⟨g, hgp, hgl, hgk, hgc, hgf⟩ := HFv.out.cell hv
      have hcell : wr.cell? ⟨g, j, none⟩ = some v := by
        rw [World.cell?_of_block (w := w) (a := ⟨g, j, none⟩) (HFj.out.other g hgl (by rw [hgk]; omega))]
        exact hgc
      have hch2 : IsChg wr κ' v c := hch.same (fun g hg e => HFj.out.other g hg (by omega)) (fun g hg e => (HFj.out.foot g hg).trans e)
      have HOkj := Lib.hid (fun hle => HOk.out.stage_ok calls bytes j c hc hle)
      have HDone := Lib.hid (fun hlt => d.stage_done calls bytes j c hc hlt)
      have HTorn := Lib.hid (fun he => d.stage_torn calls bytes j c hc he)
      have HPast := Lib.hid (fun hlt => d.stage_past calls bytes j hlt)
      clear hv hch hgc hgf hgl hgk hc
      subst hgp
      by_cases hlc : (j : Int) < calls
      · cases c with
        | wr f s =>
          obtain ⟨a, e, rfl, ka, ke, ba, be⟩ := hch2
          have HA := Lib.hid (does_any wr b κ' d.m d.room d.fuse _ d.S pn' qs cn' ks _ HRj.out hm16 f s (HOkj.out (by omega)) a e ba be ka ke)
          rw [← HDone.out hlc] at HA
          clear ba be
          go_wp2_with (go_at_call 98; refine (HA.out).mono ?_; rintro e w2 ⟨rfl, hw2⟩; have HW2 := Lib.hid hw2; clear hw2)
          go_roundw
          case rel =>
            obtain ⟨pn2, cn2, κ2, r2, f2⟩ := HW2.out
            exact ⟨j + 1, by omega, by go_num, pn2, cn2, κ2, r2, HFj.out.trans f2⟩
          case measure => simp [intOf]; omega
        | cut f n =>
          obtain ⟨a, e, rfl, ka, ke, ba, be⟩ := hch2
          have HA := Lib.hid (act_cut wr b κ' d.m d.room d.fuse _ d.S pn' qs cn' ks _ HRj.out f (by have := (HOkj.out (by omega)).1; omega) n (HOkj.out (by omega)).2 a e ba be ka ke)
          have HE : Hid (d.stage calls bytes (j + 1) = upd (d.stage calls bytes j) f ((d.stage calls bytes j f).extract 0 n)) := Lib.hid (HDone.out hlc)
          rw [← HE.out] at HA
          clear ba be
          go_wp2_with (go_at_call 111; refine (HA.out).mono ?_; rintro e w2 ⟨rfl, hw2⟩; have HW2 := Lib.hid hw2; clear hw2)
          go_roundw
          case rel =>
            obtain ⟨pn2, cn2, κ2, r2, f2⟩ := HW2.out
            exact ⟨j + 1, by omega, by go_num, pn2, cn2, κ2, r2, HFj.out.trans f2⟩
          case measure => simp [intOf]; omega
      · by_cases hec : (j : Int) = calls
        · subst hec
          have hmx := fun ts t u => run_max2 ts t bytes 0 _ rfl u
          obtain ⟨q, hq⟩ : ∃ q, max bytes 0 = q := ⟨_, rfl⟩
          rw [hq] at hmx
          have hq0 : 0 ≤ q := by omega
          have hqt : bytes.toNat = q.toNat := by omega
          have HQ := Lib.hid hqt
          clear hq hqt
          cases c with
          | wr f s =>
            obtain ⟨a, e, rfl, ka, ke, ba, be⟩ := hch2
            have HA := Lib.hid (act_wr wr b κ' d.m d.room d.fuse _ d.S pn' qs cn' ks _ HRj.out f (by have := (HOkj.out (by omega)).1; omega) s a e ba be ka ke q (min q.toNat s.size) (.inr ⟨hq0, by omega⟩) (HOkj.out (by omega)).2)
            have HE : Hid (d.stage (j : Int) bytes (j + 1) = upd (d.stage (j : Int) bytes j) f (d.stage (j : Int) bytes j f ++ s.extract 0 (min q.toNat s.size))) := Lib.hid (by rw [HTorn.out rfl, HQ.out]; rfl)
            rw [← HE.out] at HA
            clear ba be
            go_wp2_with (go_at_call 98; refine (HA.out).mono ?_; rintro e w2 ⟨rfl, hw2⟩; have HW2 := Lib.hid hw2; clear hw2)
            go_roundw
            case rel =>
              obtain ⟨pn2, cn2, κ2, r2, f2⟩ := HW2.out
              exact ⟨j + 1, by omega, by go_num, pn2, cn2, κ2, r2, HFj.out.trans f2⟩
            case measure => simp [intOf]; omega
          | cut f n =>
            obtain ⟨a, e, rfl, ka, ke, ba, be⟩ := hch2
            have HE : Hid (d.stage (j : Int) bytes (j + 1) = d.stage (j : Int) bytes j) := Lib.hid (by rw [HTorn.out rfl]; rfl)
            clear ba be
            go_wp2_with (go_at_call 111; refine (act_torn _ _ q hq0 _ _).mono ?_; rintro e w2 ⟨rfl, rfl⟩)
            go_roundw
            case rel => exact ⟨j + 1, by omega, by go_num, pn', cn', κ', by rw [HE.out]; exact HRj.out, HFj.out⟩
            case measure => simp [intOf]; omega
        · have hbe : ((j : Int) == calls) = false := by simpa using hec
          have HE := Lib.hid (HPast.out (by omega))
          go_wp2
          go_roundw
          case rel => exact ⟨j + 1, by omega, by go_num, pn', cn', κ', by rw [HE.out]; exact HRj.out, HFj.out⟩
          case measure => simp [intOf]; omega
    · obtain rfl : j = d.L.length := by omega
      have c0' := (HRj.out.cells).1
      go_wp2_with (go_at_call 49; refine (settle_any _ b κ' _ _ _ _ _ _ _ _ _ _ HRj.out).mono ?_; rintro e w2 ⟨rfl, r2, f2⟩; have HR2 := Lib.hid r2; have HF2 := Lib.hid f2; have c22 := (r2.cells).2.2.1; have fz2 := r2.blk.frozen 2; clear r2 f2)
      go_ret
      refine ⟨rfl, κ', ⟨⟨pn', pn', cn', cn', none, 0, ?_, Loose.nil _ _⟩, HFin.out⟩, ?_⟩
      · have := HR2.out.setFuse (-1)
        rw [HAll.out] at this
        exact this
      · exact ((HFj.out.mono (P' := (2 ≤ ·)) (fun k e => by show 2 ≤ k; omega)).trans (HF2.out.mono (fun k e => by show 2 ≤ k; omega))).setCell (by show 2 ≤ κ' b; rw [HR2.out.disk]; exact Nat.le_refl _) _
end Go.Proofs.YtbekdcpdfmfopaaGreat
end

section
namespace Go.Proofs.YtbekdcpdfmfopaaGreat

def ha : ByteArray := frameT (headR 1 1 1 ta)
def he : ByteArray := frameT (headR 1 2 3 te)
theorem chk_a : chkF 60 1 1 ta = (ha, 0) := by decide +kernel
theorem chk_e : chkF 60 2 3 te = (he, 0) := by decide +kernel
def d0 : DS := DS.new 3 1000
/-- Make. -/
def r1 : WS × DS × Int := doF [.wr 0 ha, .sync] (newS 3 100 60) d0
def s1 : WS := { r1.1 with g := 1, f := 1, n := 1, P := [(0, 19)] }
/-- Append of two, a sync, Append of one, a crash. -/
def r2 : WS × DS × Int := doF (addC 0 (pcs 1 [tb, tc])) s1 r1.2.1
def r3 : WS × DS × Int := doF [.sync] r2.1 r2.2.1
def r4 : WS × DS × Int := doF (addC 0 (pcs 3 [td])) r3.1 r3.2.1
def d4 : DS := r4.2.1.crash 0 3
def x4 : Seg := ⟨1, 1, 1, ta, [tb, tc], 53, false⟩
/-- Open; Checkpoint; Append; a sync. -/
def s5 : WS := takenS (newS 3 100 60) x4 0 53
def r5 : WS × DS × Int := doF (mendC x4 0 53) s5 d4
def r6 : WS × DS × Int := doF (cpC 1 he r5.1.P) r5.1 r5.2.1
def s6 : WS := { r6.1 with g := r5.1.g + 1, f := r6.1.n, n := r6.1.n, P := [(1, 19)] }
def r7 : WS × DS × Int := doF (addC 1 (pcs 3 [tf])) s6 r6.2.1
def r8 : WS × DS × Int := doF [.sync] r7.1 r7.2.1
def x8 : Seg := ⟨1, 2, 3, te, [tf], 36, true⟩
theorem e1 : r1.2.2 = 0 := by decide +kernel
theorem e2 : r2.2.2 = 0 := by decide +kernel
theorem e3 : r3.2.2 = 0 := by decide +kernel
theorem e4 : r4.2.2 = 0 := by decide +kernel
theorem e5 : r5.2.2 = 0 := by decide +kernel
theorem e6 : r6.2.2 = 0 := by decide +kernel
theorem e7 : r7.2.2 = 0 := by decide +kernel
theorem e8 : r8.2.2 = 0 := by decide +kernel
theorem he_size : he.size = 19 := by decide +kernel
theorem ha_size : ha.size = 19 := by decide +kernel
theorem files0 : filesD d0 = [⟨#[]⟩, ⟨#[]⟩, ⟨#[]⟩] := by decide +kernel
theorem files4 : filesD d4 = [(bytesT sg1).extract 0 56, ⟨#[]⟩, ⟨#[]⟩] := by decide +kernel
theorem files8 : filesD r8.2.1 = [⟨#[]⟩, bytesT sg2, ⟨#[]⟩] := by decide +kernel
theorem free5 : (freeL r5.1.P r5.2.1.now 3).take 1 = [1] := by decide +kernel
theorem s5P : r5.1.P = [(0, 53)] := by decide +kernel
theorem s5n : r5.1.n = 3 ∧ r5.1.g = 1 ∧ r5.1.e = 0 ∧ r5.1.r = 0 := by decide +kernel
theorem s7n : r8.1.n = 4 ∧ r8.1.f = 3 ∧ r8.1.e = 0 := by decide +kernel
end Go.Proofs.YtbekdcpdfmfopaaGreat
end

section
namespace Go.Proofs.YtbekdcpdfmfopaaGreat
open Go.RowKit

theorem trip (r : WS × DS × Int) (h : r.2.2 = 0) : r = (r.1, r.2.1, 0) := Prod.ext rfl (Prod.ext rfl h)
theorem ok1 : s1.Ok := ⟨by decide +kernel, by decide +kernel, by decide +kernel, by decide +kernel, by decide +kernel, by decide +kernel, by decide +kernel, by decide +kernel, by decide +kernel, by decide +kernel⟩
theorem ok3 : r3.1.Ok := ⟨by decide +kernel, by decide +kernel, by decide +kernel, by decide +kernel, by decide +kernel, by decide +kernel, by decide +kernel, by decide +kernel, by decide +kernel, by decide +kernel⟩
theorem ok5s : s5.Ok := ⟨by decide +kernel, by decide +kernel, by decide +kernel, by decide +kernel, by decide +kernel, by decide +kernel, by decide +kernel, by decide +kernel, by decide +kernel, by decide +kernel⟩
theorem ok5 : r5.1.Ok := ⟨by decide +kernel, by decide +kernel, by decide +kernel, by decide +kernel, by decide +kernel, by decide +kernel, by decide +kernel, by decide +kernel, by decide +kernel, by decide +kernel⟩
theorem ok6 : s6.Ok := ⟨by decide +kernel, by decide +kernel, by decide +kernel, by decide +kernel, by decide +kernel, by decide +kernel, by decide +kernel, by decide +kernel, by decide +kernel, by decide +kernel⟩
theorem st_make (w : World) (bd : Nat) (μ : Foot) (h : IsD w bd μ d0) : Calls Tryz.prog 19 #[.pointer (some ⟨bd, 0, none⟩), cfV 3 100 60, .string ta] w fun e w' => ∃ b κ' μ', e = .returned (.tuple #[.pointer (some ⟨b, 0, none⟩), .int .i64 0]) ∧ LS w' b bd κ' μ' s1 r1.2.1 ∧ Fr2 (fun _ => 0) μ w w' κ' μ' := by
  have k := make_free 3 100 60 (by decide) (by decide) (by decide) ta ha (by decide) chk_a (by rw [ha_size]; decide) w bd μ d0 h rfl (by decide) (by rw [files0]; decide) (by decide +kernel) (by decide) r1.1 r1.2.1 (trip r1 e1)
  rw [ha_size] at k
  exact k
theorem st_sync (w : World) (b bd : Nat) (κ μ : Foot) (h : LS w b bd κ μ r2.1 r2.2.1) : Calls Tryz.prog 11 #[.pointer (some ⟨b, 0, none⟩)] w fun e w' => e = .returned (.int .i64 0) ∧ LPost w b bd κ μ w' r3.1 r3.2.1 :=
  wSync_any w b bd κ μ _ _ h (by decide +kernel) (by decide +kernel) _ _ _ (trip r3 e3)
theorem st_sync2 (w : World) (b bd : Nat) (κ μ : Foot) (h : LS w b bd κ μ r7.1 r7.2.1) : Calls Tryz.prog 11 #[.pointer (some ⟨b, 0, none⟩)] w fun e w' => e = .returned (.int .i64 0) ∧ LPost w b bd κ μ w' r8.1 r8.2.1 :=
  wSync_any w b bd κ μ _ _ h (by decide +kernel) (by decide +kernel) _ _ _ (trip r8 e8)
theorem st_open (w : World) (bd : Nat) (μ : Foot) (h : IsD w bd μ d4) : Calls Tryz.prog 20 #[.pointer (some ⟨bd, 0, none⟩), cfV 3 100 60] w fun e w' => ∃ b κ' μ' p c, e = .returned (.tuple #[.pointer (some ⟨b, 0, none⟩), .agg #[.string ta, .int .u64 1, .slice p 2 c], .int .i64 0]) ∧ TextsP w' p [tb, tc] ∧ (∀ a : Addr, p = some a → Free κ' μ' w' a.block) ∧ LS w' b bd κ' μ' r5.1 r5.2.1 ∧ Fr2 (fun _ => 0) μ w w' κ' μ' :=
  open_one 3 100 60 (by decide) (by decide) (by decide) w bd μ d4 h rfl (by decide) (by rw [files4]; decide +kernel) 0 ((bytesT sg1).extract 0 56) (by rw [files4]; rfl) (by decide +kernel) (by
    rw [files4]
    intro i y hy hi
    rcases i with _ | _ | _ | i
    · exact absurd rfl hi
    · simpa using hy.symm
    · simpa using hy.symm
    · simp at hy) x4 parse_torn parse_none row_torn (by decide) (by decide) 53 rfl ok5s _ _ ⟨trivial, by decide +kernel, fun _ => ⟨trivial, by decide +kernel, fun _ => trivial⟩⟩ (trip r5 e5)
theorem st_open2 (w : World) (bd : Nat) (μ : Foot) (h : IsD w bd μ r8.2.1) : Calls Tryz.prog 20 #[.pointer (some ⟨bd, 0, none⟩), cfV 3 100 60] w fun e w' => ∃ b κ' μ' p c, e = .returned (.tuple #[.pointer (some ⟨b, 0, none⟩), .agg #[.string te, .int .u64 3, .slice p 1 c], .int .i64 0]) ∧ TextsP w' p [tf] ∧ (∀ a : Addr, p = some a → Free κ' μ' w' a.block) ∧ LS w' b bd κ' μ' (takenS (newS 3 100 60) x8 1 36) r8.2.1 ∧ Fr2 (fun _ => 0) μ w w' κ' μ' :=
  open_one 3 100 60 (by decide) (by decide) (by decide) w bd μ r8.2.1 h (by decide +kernel) (by decide +kernel) (by rw [files8]; decide +kernel) 1 (bytesT sg2) (by rw [files8]; rfl) (by decide +kernel) (by
    rw [files8]
    intro i y hy hi
    rcases i with _ | _ | _ | i
    · simpa using hy.symm
    · exact absurd rfl hi
    · simpa using hy.symm
    · simp at hy) x8 parse_new parse_none row_new (by decide) (by decide) 36 rfl ⟨by decide +kernel, by decide +kernel, by decide +kernel, by decide +kernel, by decide +kernel, by decide +kernel, by decide +kernel, by decide +kernel, by decide +kernel, by decide +kernel⟩ _ _ trivial rfl
theorem st_crash (w : World) (bd : Nat) (μ : Foot) (h : IsD w bd μ r4.2.1) : Calls Tryz.prog 23 #[.pointer (some ⟨bd, 0, none⟩), .int .i64 0, .int .i64 3] w fun e w' => e = .returned (.int .i64 0) ∧ Post w bd μ w' d4 :=
  Crash_any w bd μ r4.2.1 h 0 3 (by decide +kernel)
end Go.Proofs.YtbekdcpdfmfopaaGreat
end

section
namespace Go.Proofs.YtbekdcpdfmfopaaGreat
open Go.RowKit

set_option maxRecDepth 100000 in
theorem okf2 : okF (addC 0 (pcs 1 [tb, tc])) s1 r1.2.1 := ⟨⟨rfl, by decide, by decide, ⟨by decide +kernel, by decide +kernel, by decide +kernel, by decide +kernel, by decide +kernel, by decide +kernel, by decide +kernel, by decide +kernel, by decide +kernel, by decide +kernel⟩, by decide +kernel⟩, by decide +kernel, fun _ => ⟨⟨rfl, by decide, by decide, ⟨by decide +kernel, by decide +kernel, by decide +kernel, by decide +kernel, by decide +kernel, by decide +kernel, by decide +kernel, by decide +kernel, by decide +kernel, by decide +kernel⟩, by decide +kernel⟩, by decide +kernel, fun _ => trivial⟩⟩
set_option maxRecDepth 100000 in
theorem okf4 : okF (addC 0 (pcs 3 [td])) r3.1 r3.2.1 := ⟨⟨rfl, by decide, by decide, ⟨by decide +kernel, by decide +kernel, by decide +kernel, by decide +kernel, by decide +kernel, by decide +kernel, by decide +kernel, by decide +kernel, by decide +kernel, by decide +kernel⟩, by decide +kernel⟩, by decide +kernel, fun _ => trivial⟩
set_option maxRecDepth 100000 in
theorem okf7 : okF (addC 1 (pcs 3 [tf])) s6 r6.2.1 := ⟨⟨rfl, by decide, by decide, ⟨by decide +kernel, by decide +kernel, by decide +kernel, by decide +kernel, by decide +kernel, by decide +kernel, by decide +kernel, by decide +kernel, by decide +kernel, by decide +kernel⟩, by decide +kernel⟩, by decide +kernel, fun _ => trivial⟩
theorem st_app1 (w : World) (p : Option Addr) (c : Nat) (ht : TextsP w p [tb, tc]) (b bd : Nat) (κ μ : Foot) (h : LS w b bd κ μ s1 r1.2.1) : Calls Tryz.prog 13 #[.pointer (some ⟨b, 0, none⟩), .int .i64 0, .slice p 2 c] w fun e w' => e = .returned (.tuple #[.int .u64 1, .int .i64 0]) ∧ LPost w b bd κ μ w' r2.1 r2.2.1 :=
  append_any w p c [tb, tc] b bd κ μ s1 r1.2.1 h ok1 (by decide +kernel) (0, 19) (by decide +kernel) ht (by decide) (by decide) (by decide +kernel) (by decide +kernel) (by decide +kernel) r2.1 r2.2.1 (by decide +kernel) okf2 (trip r2 e2)
theorem st_app2 (w : World) (p : Option Addr) (c : Nat) (ht : TextsP w p [td]) (b bd : Nat) (κ μ : Foot) (h : LS w b bd κ μ r3.1 r3.2.1) : Calls Tryz.prog 13 #[.pointer (some ⟨b, 0, none⟩), .int .i64 0, .slice p 1 c] w fun e w' => e = .returned (.tuple #[.int .u64 3, .int .i64 0]) ∧ LPost w b bd κ μ w' r4.1 r4.2.1 := by
  have k := append_any w p c [td] b bd κ μ r3.1 r3.2.1 h ok3 (by decide +kernel) (0, 53) (by decide +kernel) ht (by decide) (by decide) (by decide +kernel) (by decide +kernel) (by decide +kernel) r4.1 r4.2.1 (by decide +kernel)
  rw [show r3.1.n = 3 by decide +kernel] at k
  exact k okf4 (trip r4 e4)
theorem st_app3 (w : World) (p : Option Addr) (c : Nat) (ht : TextsP w p [tf]) (b bd : Nat) (κ μ : Foot) (h : LS w b bd κ μ s6 r6.2.1) : Calls Tryz.prog 13 #[.pointer (some ⟨b, 0, none⟩), .int .i64 0, .slice p 1 c] w fun e w' => e = .returned (.tuple #[.int .u64 3, .int .i64 0]) ∧ LPost w b bd κ μ w' r7.1 r7.2.1 := by
  have k := append_any w p c [tf] b bd κ μ s6 r6.2.1 h ok6 (by decide +kernel) (1, 19) (by decide +kernel) ht (by decide) (by decide) (by decide +kernel) (by decide +kernel) (by decide +kernel) r7.1 r7.2.1 (by decide +kernel)
  rw [show s6.n = 3 by decide +kernel] at k
  exact k okf7 (trip r7 e7)
theorem st_chk (w : World) (b bd : Nat) (κ μ : Foot) (h : LS w b bd κ μ r5.1 r5.2.1) : Calls Tryz.prog 12 #[.pointer (some ⟨b, 0, none⟩), .string te] w fun e w' => e = .returned (.int .i64 0) ∧ LPost w b bd κ μ w' s6 r6.2.1 := by
  have k := checkpoint_any w b bd κ μ r5.1 r5.2.1 h ok5 (by decide +kernel) (by decide +kernel) te he (by decide) (by
    rw [show r5.1.ck = 60 by decide +kernel, show r5.1.g = 1 by decide +kernel, show r5.1.n = 3 by decide +kernel]
    exact chk_e) (by rw [he_size]; decide) (by decide +kernel) (by decide +kernel) 1 (by decide +kernel) (by decide +kernel) r6.1 r6.2.1 (by decide +kernel) (by rw [s5P]; exact ⟨(by show he.size ≤ _; rw [he_size]; decide), by decide +kernel, fun _ => ⟨trivial, by decide +kernel, fun _ => ⟨⟨(0, 53), by decide +kernel, rfl, by decide +kernel⟩, by decide +kernel, fun _ => ⟨trivial, by decide +kernel, fun _ => trivial⟩⟩⟩⟩) (trip r6 e6)
  rw [he_size] at k
  exact k
end Go.Proofs.YtbekdcpdfmfopaaGreat
end

section
namespace Go.Proofs.YtbekdcpdfmfopaaGreat
open Go.RowKit

theorem lists_eq {l m : List ByteArray} (hlm : l.length = m.length) (h : ∀ i, i < l.length → l[i]? = m[i]?) : l = m := by
  apply List.ext_getElem? 
  intro i
  by_cases hi : i < l.length
  · exact h i hi
  · rw [List.getElem?_eq_none (by omega), List.getElem?_eq_none (by omega)]
theorem txt_ne {x y : ByteArray} (h : ¬ x = y) : (x.toList == y.toList) = false := by
  rw [beq_eq_false_iff_ne]
  intro e
  rw [Lib.toList_data, Lib.toList_data] at e
  exact h (txt_ext e)
set_option maxRecDepth 100000 in
set_option maxHeartbeats 2000000 in
theorem same_is (w : World) (p q : Option Addr) (c d n k : Nat) (l m : List ByteArray) (hn : l.length = n) (hk : m.length = k) (hl : TextsP w p l) (hm : TextsP w q m) (hn6 : n ≤ 1000000) (hk6 : k ≤ 1000000) (b : Bool) (hb : b = true ↔ l = m) :
    Calls Tryz.prog 24 #[.slice p n c, .slice q k d] w fun e w' => e = .returned (.bool b) ∧ Ext w w' := by
  have HL := Lib.hid (fun u (hu : Ext w u) => hl.ext hu)
  have HM := Lib.hid (fun u (hu : Ext w u) => hm.ext hu)
  have HB := Lib.hid hb
  by_cases hnk : n = k
  · subst hnk
    have HE := Lib.hid (fun h => lists_eq (l := l) (m := m) (by omega) h)
    have HN := Lib.hid hn; have HK := Lib.hid hk
    clear hl hm hb hn hk
    go_enter Tryz.func24, Tryz.ntmps24
    go_wp2
    go_loopw [5] (fun i wr => ∃ j : Nat, j ≤ n ∧ i = .int .i64 (j : Int) ∧ Hid (∀ i, i < j → l[i]? = m[i]?) ∧ Hid (Ext w wr)) (fun i _ => n - (intOf i).toNat)
    case atStart => exact ⟨0, Nat.zero_le _, rfl, Lib.hid (fun i hi => by omega), Lib.hid (Ext.refl _)⟩
    case round =>
      obtain ⟨j, hj, rfl, hs, hx⟩ := hrel
      by_cases hlt : j < n
      · obtain ⟨x, hxj⟩ : ∃ x, l[j]? = some x := ⟨_, List.getElem?_eq_getElem (by have := HN.out; omega)⟩
        obtain ⟨y, hyj⟩ : ∃ y, m[j]? = some y := ⟨_, List.getElem?_eq_getElem (by have := HK.out; omega)⟩
        obtain ⟨a, rfl, _, hc1⟩ := HL.out _ hx.out j x hxj
        obtain ⟨a2, rfl, _, hc2⟩ := HM.out _ hx.out j y hyj
        have HX := Lib.hid hxj; have HY := Lib.hid hyj
        clear hxj hyj
        by_cases hxy : x = y
        · subst hxy
          go_wp2
          go_quiet (fail)
          go_wp2
          go_roundw
          case rel => 
            refine ⟨j + 1, hlt, by go_num, Lib.hid fun i hi => ?_, Lib.hid (hx.out.drewN _)⟩
            by_cases hij : i = j
            · rw [hij, HX.out, HY.out]
            · exact hs.out i (by omega)
          case measure => simp [intOf]; omega
        · have hne := txt_ne hxy
          have hbf : b = false := by
            cases b with
            | false => rfl
            | true =>
              have := HB.out.1 rfl
              subst this
              have h1 := HX.out
              rw [HY.out] at h1
              exact absurd (Option.some.inj h1).symm hxy
          subst hbf
          go_wp2
          go_quiet (fail)
          go_wp2
          go_ret
          exact ⟨rfl, hx.out.drewN _⟩
      · obtain rfl : j = n := by omega
        have hbt : b = true := HB.out.2 (HE.out (by have := HN.out; intro i hi; exact hs.out i (by omega)))
        subst hbt
        go_wp2
        go_ret
        exact ⟨rfl, hx.out⟩
  · have hbf : b = false := by
      cases b with
      | false => rfl
      | true => exact absurd (congrArg List.length (hb.1 rfl)) (by omega)
    subst hbf
    have hnk2 : ((n : Int) != (k : Int)) = true := by rw [bne_iff_ne]; omega
    clear hl hm hb hn hk
    go_enter Tryz.func24, Tryz.ntmps24
    go_wp2
    go_ret
    exact ⟨rfl, Ext.refl _⟩
theorem same_dec (w : World) (p q : Option Addr) (c d n k : Nat) (l m : List ByteArray) (hn : l.length = n) (hk : m.length = k) (hl : TextsP w p l) (hm : TextsP w q m) (hn6 : n ≤ 1000000) (hk6 : k ≤ 1000000) :
    Calls Tryz.prog 24 #[.slice p n c, .slice q k d] w fun e w' => e = .returned (.bool (decide (l = m))) ∧ Ext w w' :=
  same_is w p q c d n k l m hn hk hl hm hn6 hk6 _ (by simp)
end Go.Proofs.YtbekdcpdfmfopaaGreat
end

section
namespace Go.Proofs.YtbekdcpdfmfopaaGreat
open Go.RowKit

theorem sizeConf : (Tryz.prog.info? 46).map (·.size) = some 3 := by kernel_rfl
theorem load_conf (w : World) (g : Nat) (t : TypeId) (a b c : Value) (fr : Nat × Nat) (hg : w.heap[g]? = some (.cells #[a, b, c] t fr)) : (loadVar 46 ⟨g, 0, none⟩).run Tryz.prog w = .ok (.agg #[a, b, c]) w :=
  run_loadVar_row w g t 46 #[a, b, c] fr _ hg Tryz.underlying46 rfl sizeConf
theorem results_conf {fn : Func} {p : Tmp} (h : fn.results = #[.cell p 46]) (tmps : Array Value) (w : World) (g : Nat) (t : TypeId) (a b c : Value) (fr : Nat × Nat)
    (hp : tmps.getD p undef = .pointer (some ⟨g, 0, none⟩)) (hg : w.heap[g]? = some (.cells #[a, b, c] t fr)) :
    (results fn tmps).run Tryz.prog w = .ok (.agg #[a, b, c]) w := by
  have hp' : tmps[p]?.getD undef = .pointer (some ⟨g, 0, none⟩) := by simpa using hp
  simp [results, h, hp', asAddr, load_conf w g t a b c fr hg]
theorem texts_new (w : World) (l : List ByteArray) : TextsP (w.alloc (.cells (l.map Value.string).toArray 9)) (some ⟨w.heap.size, 0, none⟩) l := (Blk.new w (l.map Value.string) 9).vals.texts
theorem conf_any (w : World) : Calls Tryz.prog 22 #[] w fun e w' => e = .returned (cfV 3 100 60) ∧ Ext w w' := by
  have HX := Lib.hid ((Ext.refl w).alloc (.cells #[.int .i64 3, .int .i64 100, .int .i64 60] 46))
  have HB := Lib.hid (Blk.new w [.int .i64 0, .int .i64 0, .int .i64 0] 46)
  unfold cfV
  go_enter Tryz.func22, Tryz.ntmps22
  go_wp2
  exact bodyPost_ret (results_conf rfl _ _ w.heap.size 46 (.int .i64 3) (.int .i64 100) (.int .i64 60) (0, 0) rfl (Blk.new w [.int .i64 3, .int .i64 100, .int .i64 60] 46)) rfl ⟨rfl, HX.out⟩
/-- A log that is left: its disk alone goes on. -/
theorem Fr2.left {w0 w w' : World} {κ μ0 μ μ' : Foot} (f : Fr2 (fun _ => 0) μ0 w0 w κ μ) (g : Fr2 (fun _ => 0) μ w w' (fun _ => 0) μ') : Fr2 (fun _ => 0) μ0 w0 w' (fun _ => 0) μ' :=
  (⟨f.os, f.tape, f.output, f.size, f.other, fun _ _ => rfl, f.footd⟩ : Fr2 (fun _ => 0) μ0 w0 w (fun _ => 0) μ).trans g
theorem Post.fr2 {w w' : World} {bd : Nat} {μ : Foot} {d : DS} (h : Post w bd μ w' d) : ∃ μ', IsD w' bd μ' d ∧ Fr2 (fun _ => 0) μ w w' (fun _ => 0) μ' := by
  obtain ⟨μ', h1, f⟩ := h
  exact ⟨μ', h1, ⟨f.os, f.tape, f.output, f.size, fun g hg _ h2 => f.other g hg (by omega), fun _ _ => rfl, f.foot⟩⟩
/-- What Open answered stays. -/
structure Kpt (w : World) (κ μ : Foot) (kb : Nat) (cs : List Value) (p : Option Addr) (l : List ByteArray) : Prop where
  blk : Blk w kb 50 cs
  fk : Free κ μ w kb
  tx : TextsP w p l
  fp : ∀ a : Addr, p = some a → Free κ μ w a.block
theorem Kpt.fr {w w' : World} {κ μ κ' μ' : Foot} {kb : Nat} {cs : List Value} {p : Option Addr} {l : List ByteArray} (h : Kpt w κ μ kb cs p l) (f : Fr2 κ μ w w' κ' μ') : Kpt w' κ' μ' kb cs p l :=
  ⟨h.fk.blk f h.blk, h.fk.fr f, fun j y hj => by
    obtain ⟨a, e, hl, hc⟩ := h.tx j y hj
    have hf := h.fp a e
    refine ⟨a, e, Nat.lt_of_lt_of_le hl f.size, ?_⟩
    rw [World.cell?_of_block (w := w) (a := a.add j) (by rw [add_block]; exact f.other a.block hl (by rw [hf.2.1]; decide) (by rw [hf.2.2]; decide))]
    exact hc, fun a e => (h.fp a e).fr f⟩
theorem Kpt.left {w : World} {κ μ : Foot} {kb : Nat} {cs : List Value} {p : Option Addr} {l : List ByteArray} (h : Kpt w κ μ kb cs p l) : Kpt w (fun _ => 0) μ kb cs p l :=
  ⟨h.blk, ⟨h.fk.1, rfl, h.fk.2.2⟩, h.tx, fun a e => ⟨(h.fp a e).1, rfl, (h.fp a e).2.2⟩⟩
theorem LS.kept {w w' : World} {b bd : Nat} {κ μ κ' μ' : Foot} {s : WS} {d : DS} (h : LS w b bd κ μ s d) (f : Fr2 (fun _ => 0) μ w w' κ' μ') : IsW w' b bd κ s := by
  have ho : ∀ g, g < w.heap.size → κ g ≠ 0 → w'.heap[g]? = w.heap[g]? := fun g hg hk => f.other g hg (by decide) (by rw [h.apart g hk]; decide)
  obtain ⟨q, c, k1, k2⟩ := h.wal.lay
  exact ⟨⟨q, c, (ho b h.wal.lt (by rw [h.wal.kind]; decide)).trans k1, k2.same (fun g hg e => ho g hg (by rw [e]; decide)) (fun _ _ e => e)⟩, h.wal.kind, fun g hg => Nat.lt_of_lt_of_le (h.wal.ins g hg) f.size⟩
set_option maxRecDepth 100000 in
set_option maxHeartbeats 4000000 in
theorem alive_any (w : World) : Calls Tryz.prog 7 #[] w fun e w' => e = .returned (.bool true) ∧ Ext w w' := by
  have HN := Lib.hid (New_yes w 3 1000 (by decide) (by decide) (by decide))
  have HC := Lib.hid conf_any
  rw [show ((3 : Nat) : Int) = 3 from rfl, show ((1000 : Nat) : Int) = 1000 from rfl] at HN
  unfold cfV at HC
  have HMk := Lib.hid st_make; have HOp := Lib.hid st_open; have HOp2 := Lib.hid st_open2
  unfold cfV at HMk HOp HOp2
  have hta : ta = ⟨#[97]⟩ := rfl
  rw [hta] at HMk HOp
  have hte : te = ⟨#[101]⟩ := rfl
  rw [hte] at HOp2
  clear hta hte
  go_enter Tryz.func7, Tryz.ntmps7
  go_upto_region 7 with (first
    | (go_at_call 21; refine (HN.out).mono ?_; rintro e w1 ⟨rfl, i1, x1⟩; have I1 := Lib.hid i1; have X1 := Lib.hid x1; clear i1 x1)
    | (go_at_call 22; refine (HC.out _).mono ?_; rintro e w2 ⟨rfl, x2⟩; have I2 := Lib.hid (I1.out.ext x2); have X2 := Lib.hid (X1.out.trans x2); clear x2)
    | (go_at_call 19; refine (HMk.out _ _ _ I2.out).mono ?_; rintro e w3 ⟨b, κ3, μ3, rfl, l3, f3⟩; have L3 := Lib.hid l3; have F3 := Lib.hid f3; clear l3 f3))
  have HBase : Hid (Fr2 (fun _ => 0) (fun _ => 0) w w2 (fun _ => 0) (setK (fun _ => 0) w.heap.size 2)) := Lib.hid (by
    have hx := X2.out
    exact ⟨hx.os, hx.tape, hx.output, hx.size, fun g hg _ _ => hx.block g hg, fun _ _ => rfl, fun g hg => setK_other _ _ (by omega)⟩)
  have FB3 := Lib.hid (HBase.out.trans F3.out)
  clear HBase F3 I1 I2 HN HMk
  go_upto_region 8 with (go_at_call 13; refine (st_app1 _ (some ⟨w3.heap.size, 0, none⟩) 2 (texts_new w3 [tb, tc]) b w.heap.size κ3 μ3 (L3.out.ext ((Ext.refl w3).alloc _))).mono ?_; rintro e w4 ⟨rfl, κ4, μ4, l4, f4⟩; have L4 := Lib.hid l4; have FB4 := Lib.hid (FB3.out.trans ((((Ext.refl w3).alloc _).fr2 κ3 μ3).trans f4)); clear l4 f4)
  go_upto_region 9 with (go_at_call 11; refine (st_sync _ b w.heap.size κ4 μ4 L4.out).mono ?_; rintro e w5 ⟨rfl, κ5, μ5, l5, f5⟩; have L5 := Lib.hid l5; have FB5 := Lib.hid (FB4.out.trans f5); clear l5 f5)
  go_upto_region 10 with (go_at_call 13; refine (st_app2 _ (some ⟨w5.heap.size, 0, none⟩) 1 (texts_new w5 [td]) b w.heap.size κ5 μ5 (L5.out.ext ((Ext.refl w5).alloc _))).mono ?_; rintro e w6 ⟨rfl, κ6, μ6, l6, f6⟩; have D6 := Lib.hid l6.disk; have FB6 := Lib.hid (FB5.out.trans ((((Ext.refl w5).alloc _).fr2 κ5 μ5).trans f6)); clear l6 f6)
  go_upto_region 11 with (go_at_call 23; refine (st_crash _ w.heap.size μ6 D6.out).mono ?_; rintro e w7 ⟨rfl, p7⟩; obtain ⟨μ7, d7, f7⟩ := p7.fr2; have D7 := Lib.hid d7; have FB7 := Lib.hid (FB6.out.left f7); clear p7 d7 f7)
  go_upto_region 14 with (first
    | (go_at_call 22; refine (HC.out _).mono ?_; rintro e w8 ⟨rfl, x8⟩; have D8 := Lib.hid (D7.out.ext x8); have FB8 := Lib.hid (FB7.out.trans (x8.fr2 (fun _ => 0) μ7)); clear x8)
    | (go_at_call 20; refine (HOp.out _ _ _ D8.out).mono ?_; rintro e w9 ⟨b9, κ9, μ9, p9, c9, rfl, t9, u9, l9, f9⟩; have T9 := Lib.hid t9; have U9 := Lib.hid u9; have L9 := Lib.hid l9; have FB9 := Lib.hid (FB8.out.trans f9); clear t9 u9 l9 f9))
  have hx10 : Ext w9 (w9.alloc (.cells #[.string ⟨#[97]⟩, .int .u64 1, .slice p9 2 c9] 50)) := (Ext.refl w9).alloc _
  have L10 := Lib.hid (L9.out.ext hx10)
  have FB10 := Lib.hid (FB9.out.trans (hx10.fr2 κ9 μ9))
  have K10 : Hid (Kpt (w9.alloc (.cells #[.string ⟨#[97]⟩, .int .u64 1, .slice p9 2 c9] 50)) κ9 μ9 w9.heap.size [.string ⟨#[97]⟩, .int .u64 1, .slice p9 2 c9] p9 [tb, tc]) := Lib.hid ⟨Blk.new w9 _ _, Free.new L9.out (Nat.le_refl _) (by simp), T9.out.ext hx10, fun a e => (U9.out a e).fr (hx10.fr2 κ9 μ9)⟩
  obtain ⟨kb, hkb⟩ : ∃ kb, kb = w9.heap.size := ⟨_, rfl⟩
  rw [← hkb] at K10 ⊢
  clear hkb hx10 T9 U9 L9 FB9 FB8 FB7 FB6 FB5 FB4 FB3 D6 D7 D8 L3 L4 L5
  generalize w9.alloc (.cells #[.string ⟨#[97]⟩, .int .u64 1, .slice p9 2 c9] 50) = w10 at *
  go_upto_region 15 with (go_at_call 12; refine (st_chk _ b9 w.heap.size κ9 μ9 L10.out).mono ?_; rintro e w11 ⟨rfl, κ11, μ11, l11, f11⟩; have L11 := Lib.hid l11; have K11 := Lib.hid (K10.out.fr f11); have FB11 := Lib.hid (FB10.out.trans f11); clear l11 f11)
  go_upto_region 16 with (go_at_call 13; refine (st_app3 _ (some ⟨w11.heap.size, 0, none⟩) 1 (texts_new w11 [tf]) b9 w.heap.size κ11 μ11 (L11.out.ext ((Ext.refl w11).alloc _))).mono ?_; rintro e w12 ⟨rfl, κ12, μ12, l12, f12⟩; have L12 := Lib.hid l12; have K12 := Lib.hid (K11.out.fr ((((Ext.refl w11).alloc _).fr2 κ11 μ11).trans f12)); have FB12 := Lib.hid (FB11.out.trans ((((Ext.refl w11).alloc _).fr2 κ11 μ11).trans f12)); clear l12 f12)
  go_upto_region 17 with (go_at_call 11; refine (st_sync2 _ b9 w.heap.size κ12 μ12 L12.out).mono ?_; rintro e w13 ⟨rfl, κ13, μ13, l13, f13⟩; have L13 := Lib.hid l13; have K13 := Lib.hid (K12.out.fr f13); have FB13 := Lib.hid (FB12.out.trans f13); clear l13 f13)
  go_upto_region 18 with (first
    | (go_at_call 22; refine (HC.out _).mono ?_; rintro e w14 ⟨rfl, x14⟩; have L14 := Lib.hid (L13.out.ext x14); have K14 := Lib.hid (K13.out.fr (x14.fr2 κ13 μ13)); have FB14 := Lib.hid (FB13.out.trans (x14.fr2 κ13 μ13)); clear x14)
    | (go_at_call 20; refine (HOp2.out _ _ _ L14.out.disk).mono ?_; rintro e w15 ⟨b15, κ15, μ15, p15, c15, rfl, t15, u15, l15, f15⟩; have T15 := Lib.hid t15; have W15 := Lib.hid (L14.out.kept f15); have K15 := Lib.hid (K14.out.left.fr f15); have FB15 := Lib.hid ((⟨FB14.out.os, FB14.out.tape, FB14.out.output, FB14.out.size, FB14.out.other, fun _ _ => rfl, FB14.out.footd⟩ : Fr2 (fun _ => 0) (fun _ => 0) w w14 (fun _ => 0) μ13).trans f15); clear t15 u15 l15 f15))
  have hx16 : Ext w15 (w15.alloc (.cells #[.string ⟨#[101]⟩, .int .u64 3, .slice p15 1 c15] 50)) := (Ext.refl w15).alloc _
  have T16 := Lib.hid (T15.out.ext hx16)
  have W16 := Lib.hid (W15.out.ext hx16)
  have TK16 := Lib.hid (K15.out.tx.ext hx16)
  have HB16 := Lib.hid (K15.out.blk.ext hx16)
  have HQ16 := Lib.hid (Blk.new w15 [.string ⟨#[101]⟩, .int .u64 3, .slice p15 1 c15] 50)
  have FB16 := Lib.hid (FB15.out.trans (hx16.fr2 κ15 μ15))
  simp only [List.toArray] at HQ16
  obtain ⟨kq, hkq⟩ : ∃ kq, kq = w15.heap.size := ⟨_, rfl⟩
  rw [← hkq] at HQ16 ⊢
  clear hkq hx16 T15 W15 K15 FB15 FB14 FB13 FB12 FB11 FB10 K10 K11 K12 K13 K14 L10 L11 L12 L13 L14
  generalize w15.alloc (.cells #[.string ⟨#[101]⟩, .int .u64 3, .slice p15 1 c15] 50) = V at *
  have HNx := Lib.hid (fun u (hu : Ext V u) => wNext_any u b9 w.heap.size κ13 r8.1 (W16.out.ext hu))
  have HFi := Lib.hid (fun u (hu : Ext V u) => wFirst_any u b9 w.heap.size κ13 r8.1 (W16.out.ext hu))
  rw [s7n.1] at HNx
  rw [s7n.2.1] at HFi
  have HS1 := Lib.hid (same_is (V.alloc (.cells ([tb, tc].map Value.string).toArray 9)) p9 (some ⟨V.heap.size, 0, none⟩) c9 2 2 2 [tb, tc] [tb, tc] rfl rfl (TK16.out.ext ((Ext.refl V).alloc _)) (texts_new V [tb, tc]) (by decide) (by decide) true ⟨fun _ => rfl, fun _ => rfl⟩)
  have HS2 := Lib.hid (fun u (hu : Ext V u) => same_is (u.alloc (.cells ([tf].map Value.string).toArray 9)) p15 (some ⟨u.heap.size, 0, none⟩) c15 1 1 1 [tf] [tf] rfl rfl ((T16.out.ext hu).ext ((Ext.refl u).alloc _)) (texts_new u [tf]) (by decide) (by decide) true ⟨fun _ => rfl, fun _ => rfl⟩)
  have z0 := HB16.out.cell 0 _ rfl
  have z1 := HB16.out.cell 1 _ rfl
  have z2 := HB16.out.cell 2 _ rfl
  clear HOp HOp2 HC T16 TK16 W16
  go_wp2_with (first
    | (go_at_call 24; refine (HS1.out).mono ?_; rintro e v1 ⟨rfl, x1⟩; have XV1 := Lib.hid (((Ext.refl V).alloc _).trans x1); have q0 := (HQ16.out.ext XV1.out).cell 0 _ rfl; have q1 := (HQ16.out.ext XV1.out).cell 1 _ rfl; have q2 := (HQ16.out.ext XV1.out).cell 2 _ rfl; clear x1 HS1)
    | (go_at_call 24; refine (HS2.out _ XV1.out).mono ?_; rintro e v2 ⟨rfl, x2⟩; have XV2 := Lib.hid ((XV1.out.alloc _).trans x2); clear x2 HS2)
    | (go_at_call 16; refine (HNx.out _ XV2.out).mono ?_; rintro e v3 ⟨rfl, rfl⟩)
    | (go_at_call 17; refine (HFi.out _ XV2.out).mono ?_; rintro e v4 ⟨rfl, rfl⟩))
  go_ret
  have F := FB16.out.trans (XV2.out.fr2 κ15 μ15)
  exact ⟨rfl, ⟨F.os, F.tape, F.output, F.size, fun g hg => F.other g hg (by decide) (by decide)⟩⟩
end Go.Proofs.YtbekdcpdfmfopaaGreat
end

section
namespace Go.Proofs.YtbekdcpdfmfopaaGreat
open Go.RowKit

theorem make_nil (x y z : Int) (s : ByteArray) (w : World) : Calls Tryz.prog 19 #[.pointer none, cfV x y z, .string s] w fun e w' => e = .returned (.tuple #[.pointer none, .int .i64 1]) ∧ Ext w w' := by
  have HF := Lib.hid (fun u => fits_nil x y z u)
  have HX := Lib.hid ((Ext.refl w).alloc (.cells #[.int .i64 x, .int .i64 y, .int .i64 z] 46))
  unfold cfV at HF ⊢
  go_enter Tryz.func19, Tryz.ntmps19
  go_wp2_with (go_at_call 41; refine (HF.out _).mono ?_; rintro e w1 ⟨rfl, x1⟩; have X1 := Lib.hid x1; clear x1)
  go_ret2
  exact ⟨rfl, HX.out.trans X1.out⟩
theorem open_nil (x y z : Int) (w : World) : Calls Tryz.prog 20 #[.pointer none, cfV x y z] w fun e w' => e = .returned (.tuple #[.pointer none, .agg #[.string ⟨#[]⟩, .int .u64 0, .slice none 0 0], .int .i64 1]) ∧ Ext w w' := by
  have HF := Lib.hid (fun u => fits_nil x y z u)
  have hx0 := ((Ext.refl w).alloc (.cells #[.int .i64 x, .int .i64 y, .int .i64 z] 46)).alloc (.cells #[.string ⟨#[]⟩, .int .u64 0, .slice none 0 0] 50)
  have HX := Lib.hid hx0
  have HR := Lib.hid (Blk.new1 w (.cells #[.int .i64 x, .int .i64 y, .int .i64 z] 46) [.string ⟨#[]⟩, .int .u64 0, .slice none 0 0] 50)
  clear hx0
  unfold cfV at HF ⊢
  go_enter Tryz.func20, Tryz.ntmps20
  go_wp2_with (go_at_call 41; refine (HF.out _).mono ?_; rintro e w1 ⟨rfl, x1⟩; have X1 := Lib.hid x1; have R1 := Lib.hid (HR.out.ext x1); have r0 := (HR.out.ext x1).cell 0 _ rfl; have r1 := (HR.out.ext x1).cell 1 _ rfl; have r2 := (HR.out.ext x1).cell 2 _ rfl; have g0 := (HR.out.ext x1).frozen 0; have g1 := (HR.out.ext x1).frozen 1; have g2 := (HR.out.ext x1).frozen 2; clear x1)
  refine bodyPost_ret (results_open rfl _ _ (w.heap.size + 1) 50 (.string ⟨#[]⟩) (.int .u64 0) (.slice none 0 0) (0, 0) rfl (((R1.out.set_ 0 (.string ⟨#[]⟩)).set_ 1 (.int .u64 0)).set_ 2 (.slice none 0 0))) rfl ⟨rfl, (((HX.out.trans X1.out).setCell (p := ⟨w.heap.size + 1, 0, none⟩) (show w.heap.size ≤ w.heap.size + 1 by omega) _).setCell (p := ⟨w.heap.size + 1, 1, none⟩) (show w.heap.size ≤ w.heap.size + 1 by omega) _).setCell (p := ⟨w.heap.size + 1, 2, none⟩) (show w.heap.size ≤ w.heap.size + 1 by omega) _⟩
set_option maxRecDepth 100000 in
set_option maxHeartbeats 4000000 in
theorem walNil_any (x y z : Int) (s : ByteArray) (n : Int) (w : World) : Calls Tryz.prog 5 #[cfV x y z, .string s, .int .i64 n] w fun e w' => e = .returned (.bool true) ∧ Ext w w' := by
  have HA := Lib.hid alive_any
  have HM := Lib.hid (make_nil x y z s)
  have HO := Lib.hid (open_nil x y z)
  have hx0 : Ext w (w.alloc (.cells #[.int .i64 x, .int .i64 y, .int .i64 z] 46)) := (Ext.refl w).alloc _
  have hb := Blk.new w [.int .i64 x, .int .i64 y, .int .i64 z] 46
  have HX := Lib.hid hx0
  have HB := Lib.hid hb
  clear hx0 hb
  unfold cfV at HM HO ⊢
  go_enter Tryz.func5, Tryz.ntmps5
  by_cases hl : 1024 < s.size
  · go_wp2_with (go_at_call 7; refine (HA.out _).mono ?_; rintro e w1 ⟨rfl, x1⟩; have X1 := Lib.hid x1; clear x1)
    go_ret
    exact ⟨rfl, HX.out.trans X1.out⟩
  · go_upto_region 7 with (first
      | (go_at_call 13; refine (wAppend_nil _ _ _).mono ?_; rintro e w1 ⟨rfl, x1⟩; have hx := ((HX.out.alloc (.cells #[.string s] 9)).trans x1); have hb := ((HB.out.alloc (.cells #[.string s] 9)).ext x1); have c0 := hb.cell 0 _ rfl; have c1 := hb.cell 1 _ rfl; have c2 := hb.cell 2 _ rfl; have X1 := Lib.hid hx; have B1 := Lib.hid hb; clear x1 hx hb)
      | (go_at_call 19; refine (HM.out _).mono ?_; rintro e w2 ⟨rfl, x2⟩; have hb := B1.out.ext x2; have d0 := hb.cell 0 _ rfl; have d1 := hb.cell 1 _ rfl; have d2 := hb.cell 2 _ rfl; have X2 := Lib.hid (X1.out.trans x2); clear x2 hb)
      | (go_at_call 20; refine (HO.out _).mono ?_; rintro e w3 ⟨rfl, x3⟩; have X3 := Lib.hid (X2.out.trans x3); clear x3))
    have X4 := Lib.hid (X3.out.alloc (.cells #[.string ⟨#[]⟩, .int .u64 0, .slice none 0 0] 50))
    generalize w3.alloc (.cells #[.string ⟨#[]⟩, .int .u64 0, .slice none 0 0] 50) = w4 at *
    go_wp2_with (first
      | (go_at_call 11; refine (wSync_nil _).mono ?_; rintro e w5 ⟨rfl, rfl⟩)
      | (go_at_call 12; refine (wCheckpoint_nil _ _).mono ?_; rintro e w6 ⟨rfl, x6⟩; have X6 := Lib.hid (X4.out.trans x6); clear x6)
      | (go_at_call 9; refine (wReserve_nil _ _).mono ?_; rintro e w7 ⟨rfl, rfl⟩)
      | (go_at_call 15; refine (wDown_nil _).mono ?_; rintro e w8 ⟨rfl, rfl⟩)
      | (go_at_call 17; refine (wFirst_nil _).mono ?_; rintro e w9 ⟨rfl, rfl⟩)
      | (go_at_call 16; refine (wNext_nil _).mono ?_; rintro e w10 ⟨rfl, rfl⟩)
      | (go_at_call 10; refine (wRoom_nil _).mono ?_; rintro e w11 ⟨rfl, rfl⟩)
      | (go_at_call 14; refine (wReserved_nil _).mono ?_; rintro e w12 ⟨rfl, rfl⟩)
      | (go_at_call 7; refine (HA.out _).mono ?_; rintro e w13 ⟨rfl, x13⟩; have X13 := Lib.hid (X6.out.trans x13); clear x13))
    go_ret
    exact ⟨rfl, X13.out⟩
end Go.Proofs.YtbekdcpdfmfopaaGreat
end

section
namespace Go.Proofs.YtbekdcpdfmfopaaGreat
open Go.RowKit

theorem make_mis (w : World) (bd : Nat) (μ : Foot) (d : DS) (h : IsD w bd μ d) (hm : d.m = 4) (s : ByteArray) : Calls Tryz.prog 19 #[.pointer (some ⟨bd, 0, none⟩), cfV 3 100 60, .string s] w fun e w' => e = .returned (.tuple #[.pointer none, .int .i64 2]) ∧ Ext w w' := by
  have HF := Lib.hid (fun u (hu : Ext w u) => fits_any 3 100 60 (by decide) (by decide) (by decide) u bd μ d (h.ext hu))
  rw [if_neg (by rw [hm]; decide)] at HF
  have HX := Lib.hid ((Ext.refl w).alloc (.cells #[.int .i64 3, .int .i64 100, .int .i64 60] 46))
  clear h hm
  unfold cfV at HF ⊢
  go_enter Tryz.func19, Tryz.ntmps19
  go_wp2_with (go_at_call 41; refine (HF.out _ HX.out).mono ?_; rintro e w1 ⟨rfl, x1⟩; have X1 := Lib.hid x1; clear x1)
  go_ret2
  exact ⟨rfl, HX.out.trans X1.out⟩
theorem made_nil (w : World) (room : Nat) (hr : room < 900) : Calls Tryz.prog 8 #[.int .i64 (room : Int)] w fun e w' => e = .returned (.tuple #[.pointer none, .pointer none]) ∧ Ext w w' := by
  have HN := Lib.hid (New_yes w 4 (400 + room) (by decide) (by decide) (by omega))
  have HC := Lib.hid conf_any
  have HM := Lib.hid make_mis
  unfold cfV at HC HM
  have hw : IntKind.i64.wrap (400 + (room : Int)) = ((400 + room : Nat) : Int) := by rw [IntWalk.i64_in _ ⟨by omega, by omega⟩]; omega
  rw [show ((4 : Nat) : Int) = 4 from rfl] at HN
  obtain ⟨z, hz⟩ : ∃ z : Int, z = ((400 + room : Nat) : Int) := ⟨_, rfl⟩
  rw [← hz] at HN hw
  have hz2 : z = 400 + (room : Int) := by omega
  clear hz
  go_enter Tryz.func8, Tryz.ntmps8
  subst hz2
  go_wp2_with (first
    | (go_at_call 21; refine (HN.out).mono ?_; rintro e w1 ⟨rfl, i1, x1⟩; have I1 := Lib.hid i1; have X1 := Lib.hid x1; clear i1 x1)
    | (go_at_call 22; refine (HC.out _).mono ?_; rintro e w2 ⟨rfl, x2⟩; have I2 := Lib.hid (I1.out.ext x2); have X2 := Lib.hid (X1.out.trans x2); clear x2)
    | (go_at_call 19; refine (HM.out _ _ _ _ I2.out rfl _).mono ?_; rintro e w3 ⟨rfl, x3⟩; have X3 := Lib.hid (X2.out.trans x3); clear x3))
  go_ret2
  exact ⟨rfl, X3.out⟩
end Go.Proofs.YtbekdcpdfmfopaaGreat
end

section
namespace Go.Proofs.YtbekdcpdfmfopaaGreat
open Go.RowKit

set_option maxRecDepth 100000 in
set_option maxHeartbeats 4000000 in
theorem WalReserve_walk (p : Option Addr) (c : Nat) (L : List Stp12) (n room : Int) (W : World) (f : Stp12sP W p L) (y : ∀ x ∈ L, x.Ok) (z : L.length ≤ 140737488355328) (_ : 0 ≤ n ∧ n ≤ 255) (hr : 0 ≤ room ∧ room ≤ 65535) :
    Calls Tryz.prog 3 #[.slice p L.length c, .int .u8 n, .int .u16 room] W fun e W' => e = .returned (.bool true) ∧ Ext W W' := by
  have HA := Lib.hid alive_any
  have HM := Lib.hid made_nil
  have HV := Lib.hid (wheavy_any W p c L f y z)
  clear f y
  obtain ⟨r, rfl⟩ : ∃ r : Nat, room = (r : Int) := ⟨room.toNat, by omega⟩
  have e0 : ((r : Int)).tmod 600 = ((r % 600 : Nat) : Int) := by rw [Int.tmod_eq_emod_of_nonneg (by omega)]; omega
  have h6 : r % 600 < 900 := by omega
  generalize r % 600 = q at *
  go_enter Tryz.func3, Tryz.ntmps3
  go_wp2_with (first
    | (go_at_call 6; refine (HV.out).mono ?_; rintro e w1 ⟨b, rfl, rfl⟩; cases b)
    | (go_at_call 7; refine (HA.out _).mono ?_; rintro e w2 ⟨rfl, x2⟩; have X2 := Lib.hid x2; clear x2)
    | (go_at_call 8; refine (HM.out _ _ h6).mono ?_; rintro e w3 ⟨rfl, x3⟩; have X3 := Lib.hid x3; clear x3))
  all_goals first
    | (go_ret; exact ⟨rfl, X3.out.trans X2.out⟩)
    | (go_ret; exact ⟨rfl, X2.out⟩)
end Go.Proofs.YtbekdcpdfmfopaaGreat
end

section
namespace Go.Proofs.YtbekdcpdfmfopaaGreat
open Go.RowKit

set_option maxRecDepth 100000 in
set_option maxHeartbeats 4000000 in
theorem WalRoom_walk (p : Option Addr) (c : Nat) (L : List Stp12) (room : Int) (W : World) (f : Stp12sP W p L) (y : ∀ x ∈ L, x.Ok) (z : L.length ≤ 140737488355328) (hr : 0 ≤ room ∧ room ≤ 65535) :
    Calls Tryz.prog 4 #[.slice p L.length c, .int .u16 room] W fun e W' => e = .returned (.bool true) ∧ Ext W W' := by
  have HA := Lib.hid alive_any
  have HM := Lib.hid made_nil
  have HV := Lib.hid (wheavy_any W p c L f y z)
  clear f y
  obtain ⟨r, rfl⟩ : ∃ r : Nat, room = (r : Int) := ⟨room.toNat, by omega⟩
  have e0 : ((r : Int)).tmod 900 = ((r % 900 : Nat) : Int) := by rw [Int.tmod_eq_emod_of_nonneg (by omega)]; omega
  have h6 : r % 900 < 900 := by omega
  generalize r % 900 = q at *
  go_enter Tryz.func4, Tryz.ntmps4
  go_wp2_with (first
    | (go_at_call 6; refine (HV.out).mono ?_; rintro e w1 ⟨b, rfl, rfl⟩; cases b)
    | (go_at_call 7; refine (HA.out _).mono ?_; rintro e w2 ⟨rfl, x2⟩; have X2 := Lib.hid x2; clear x2)
    | (go_at_call 8; refine (HM.out _ _ h6).mono ?_; rintro e w3 ⟨rfl, x3⟩; have X3 := Lib.hid x3; clear x3))
  all_goals first
    | (go_ret; exact ⟨rfl, X3.out.trans X2.out⟩)
    | (go_ret; exact ⟨rfl, X2.out⟩)
end Go.Proofs.YtbekdcpdfmfopaaGreat
end

section
namespace Go.Proofs.YtbekdcpdfmfopaaGreat
open Go.ChangeShapes Go.WideShapes Go.ChangeAt Go.RowKit
structure ConfV where
  f : Int
  s : Int
  c : Int
def ConfV.cells (x : ConfV) : List Value := [.int .i64 x.f, .int .i64 x.s, .int .i64 x.c]
structure ConfV.Ok (x : ConfV) : Prop where
  f : -9223372036854775808 ≤ x.f ∧ x.f ≤ 9223372036854775807
  s : -9223372036854775808 ≤ x.s ∧ x.s ≤ 9223372036854775807
  c : -9223372036854775808 ≤ x.c ∧ x.c ≤ 9223372036854775807
/-- The cells from the address on, if there are any, are these. -/
def ConfVsP (w : World) (p : Option Addr) (L : List ConfV) : Prop := ∀ (k : Nat) (x : ConfV), L[k]? = some x → ∃ a, p = some a ∧ a.block < w.heap.size ∧ ∀ (j : Nat) (v : Value), (x.cells)[j]? = some v → w.cell? (a.add (k * 3 + j)) = some v
theorem ConfVsP.ext {w w' : World} {p : Option Addr} {L : List ConfV} (h : ConfVsP w p L) (hx : Ext w w') : ConfVsP w' p L := fun k x hk => by
  obtain ⟨a, h1, h2, h4⟩ := h k x hk
  exact ⟨a, h1, Nat.lt_of_lt_of_le h2 hx.size, fun j v hv => by rw [hx.below.cell (p := a.add (k * 3 + j)) (by rw [add_block]; omega)]; exact h4 j v hv⟩
theorem confv_at {w : World} {a : Addr} {j k : Nat} {v : Option Value} (h : w.cell? (a.add (j * 3 + (k + 1))) = v) : w.cell? ⟨(a.add (j * 3)).block, (a.add (j * 3)).off + (k + 1), none⟩ = v := by
  rw [← Deep.add_add] at h
  exact h
theorem cells_confv : Tryz.prog.cellsOf 46 = 3 := by kernel_rfl
section
variable {H : Type} {enc : TypeId × Value → H} {W : World} {base : Nat} {v : Value} {d : DataW H} {p : List MemPlace}
def confvTs : List TypeId := [3, 3, 3]
theorem confv_list {cs : List Value} {v0 v1 v2 : Value} (hl : cs.length = 3) (e0 : cs[0]? = some v0) (e1 : cs[1]? = some v1) (e2 : cs[2]? = some v2) : cs = [v0, v1, v2] := by
  apply List.ext_getElem?
  intro i
  rcases (show i = 0 ∨ i = 1 ∨ i = 2 ∨ 3 ≤ i by omega) with rfl | rfl | rfl | h
  · exact e0
  · exact e1
  · exact e2
  · rw [List.getElem?_eq_none (by omega), List.getElem?_eq_none (by simpa using h)]
theorem open_confv_cells {fuel : Nat} {cs : List Value} (htr : DataW.trod enc Tryz.prog W 0 (fun _ => true) true fuel 46 cs = some (d, p)) (hlt : ∀ x ∈ p, x.block < W.heap.size) (hw : ∀ w ∈ d.weights Tryz.prog 46, w ≤ reachBytes) :
    ∃ (x : ConfV), cs = x.cells ∧ x.Ok := by
  obtain ⟨xs, n', _, hD, hcl, hlen, hfl⟩ := DataW.trod_struct Tryz.underlying46 htr
  have hlenN : xs.length = 3 := hlen
  simp only [Prod.mk.injEq] at hD
  obtain ⟨rfl, rfl⟩ := hD
  rw [cells_confv] at hcl
  have g0 : DataW.trod enc Tryz.prog W 0 (fun _ => true) true n' 3 ((cs.drop 0).take (Tryz.prog.cellsOf 3)) = xs[0]? := hfl 0 _ rfl
  rw [show Tryz.prog.cellsOf 3 = 1 from by kernel_rfl] at g0
  have g1 : DataW.trod enc Tryz.prog W 0 (fun _ => true) true n' 3 ((cs.drop 1).take (Tryz.prog.cellsOf 3)) = xs[1]? := hfl 1 _ rfl
  rw [show Tryz.prog.cellsOf 3 = 1 from by kernel_rfl] at g1
  have g2 : DataW.trod enc Tryz.prog W 0 (fun _ => true) true n' 3 ((cs.drop 2).take (Tryz.prog.cellsOf 3)) = xs[2]? := hfl 2 _ rfl
  rw [show Tryz.prog.cellsOf 3 = 1 from by kernel_rfl] at g2
  have hwe : ∀ w ∈ DataW.weightsEach Tryz.prog confvTs (xs.map (·.1)), w ≤ reachBytes := fun w hw1 => hw w (by
    simp only [DataW.weights, Tryz.underlying46]
    exact hw1)
  have hwb : (DataW.weightsEach Tryz.prog confvTs (xs.map (·.1))).all (· ≤ reachBytes) = true := List.all_eq_true.2 (fun w hw1 => by simpa using hwe w hw1)
  obtain ⟨d0, e0, w0⟩ := field_at (k := .i64) (by omega) Tryz.underlying3 g0
  obtain ⟨d1, e1, w1⟩ := field_at (k := .i64) (by omega) Tryz.underlying3 g1
  obtain ⟨d2, e2, w2⟩ := field_at (k := .i64) (by omega) Tryz.underlying3 g2
  simp [Lit.wf, IntKind.min, IntKind.max, IntKind.signed, IntKind.bits] at w0 w1 w2
  refine ⟨⟨d0, d1, d2⟩, ?_, ⟨by show _ ∧ _; omega, by show _ ∧ _; omega, by show _ ∧ _; omega⟩⟩
  unfold ConfV.cells
  dsimp only
  exact confv_list hcl e0 e1 e2
set_option maxRecDepth 100000 in
theorem open_confv_v (hval : Value.okWide Tryz.prog W .any base 46 v) (h : DataW.Trod enc Tryz.prog W 0 (fun _ => true) true 46 v d p) (hlt : ∀ x ∈ p, x.block < W.heap.size)
    {ts : List TypeId} {ds : List (DataW H)} {j : Nat} (hsz : (DataW.weightsEach Tryz.prog ts ds).all (· ≤ reachBytes) = true) (ht : ts[j]? = some 46) (hd : ds[j]? = some d) :
    ∃ (x : ConfV), v = .agg (x.cells).toArray ∧ x.Ok := by
  obtain ⟨cs, rfl, _⟩ := okWide_struct Tryz.underlying46 hval
  obtain ⟨fuel, hf⟩ := h
  obtain ⟨x, hcs, h1⟩ := open_confv_cells hf hlt (fun w hw => by
    have := List.all_eq_true.1 hsz _ (DataW.weights_mem_each (P := Tryz.prog) ht hd w hw)
    simpa using this)
  refine ⟨x, ?_, h1⟩
  have e : cs.toList = x.cells := by simpa [Value.cells] using hcs
  rw [← e]
end
end Go.Proofs.YtbekdcpdfmfopaaGreat
end

section
namespace Go.Proofs.YtbekdcpdfmfopaaGreat
open Go.RowKit
theorem WalNil_walk (c : ConfV) (s : ByteArray) (n : Int) (W : World) (_ : c.Ok) (_ : s.size ≤ 140737488351232) (_ : -9223372036854775808 ≤ n ∧ n ≤ 9223372036854775807) :
    Calls Tryz.prog 5 #[.agg c.cells.toArray, .string s, .int .i64 n] W fun e W' => e = .returned (.bool true) ∧ Ext W W' := walNil_any c.f c.s c.c s n W
end Go.Proofs.YtbekdcpdfmfopaaGreat
end
