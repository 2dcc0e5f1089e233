/- Contract: the first bytes of blocks, by the program. Plain words: the words of the round keys. Contracts: a word, each byte of it boxed, by the program. Contracts: the words of all round keys, by the program. -/
import Derived.Test.YtobhbppogeghnaaGreatDoorM20
import Derived.Test.YtobhbppogeghnaaGreatDoorM18
import Derived.Test.YtobhbppogeghnaaGreatDoorM01
import Derived.Test.YtobhbppogeghnaaGreatDoorM00
import Derived.Test.YtobhbppogeghnaaGreatDoorM19
import Derived.Outline
import Derived.Deep.RegionWith
section
namespace Go.Proofs.YtobhbppogeghnaaGreatDoor
open Go.RowKit Go.Shelf
attribute [local go_sem] Oper.semAt_some
attribute [local irreducible] rkey expand enc dec ctrB ctrC ctrL

/-- A piece of a block, as it is put behind. -/
theorem pieceB (pre : List T16) (x : T16) (n c : Nat) (hc : c = min 16 (n - 16 * pre.length)) (hn : 16 * pre.length ≤ n) :
    Lib.byteCells (flatB pre) ++ Lib.strCells (x.1.extract 0 c) = Lib.byteCells ((flatB (pre ++ [x])).take n) := by
  have hx : x.1.data.toList.length = 16 := by rw [size_list]; exact x.2
  have hl := flatB_length pre
  have e1 : (x.1.extract 0 c).data.toList = x.1.data.toList.take c := by rw [Lib.extract_data]; simp
  have e2 : Lib.strCells (x.1.extract 0 c) = Lib.byteCells (x.1.data.toList.take c) := by rw [← e1]; rfl
  have e3 : x.1.data.toList.take c = x.1.data.toList.take (n - 16 * pre.length) := by
    by_cases h : 16 ≤ n - 16 * pre.length
    · rw [List.take_of_length_le (by omega), List.take_of_length_le (by omega)]
    · have : c = n - 16 * pre.length := by omega
      rw [this]
  rw [e2, e3, ← Lib.byteCells_append, flatB_snoc, List.take_append, hl]
  rw [List.take_of_length_le (l := flatB pre) (by omega)]
set_option maxRecDepth 100000 in
set_option maxHeartbeats 8000000 in
theorem first_any (bf bc bo c : Nat) (key : List UInt8) (hk : key.length = 16) (nonce : ByteArray) (f m n : Nat) (w : World)
    (hbf : bf < w.heap.size) (hbc : bc < w.heap.size) (hbo : bo < w.heap.size) (hno : nonce.size = 12) (hfm : f + m = 4294967296) (hm1 : 1 ≤ m) (hn2 : n ≤ 1048576) (hnm : n ≤ 16 * m)
    (hB1 : IsCipher w c key) (h1 : w.cell? ⟨bf, 0, none⟩ = some (.int .u32 (f : Int))) (h2 : w.cell? ⟨bc, 0, none⟩ = some (.pointer (some ⟨c, 0, none⟩))) (h3 : w.cell? ⟨bo, 0, none⟩ = some (.string nonce)) :
    Calls Tryz.prog 136 #[.func (.func 161) #[] #[.pointer (some ⟨bf, 0, none⟩), .pointer (some ⟨bc, 0, none⟩), .pointer (some ⟨bo, 0, none⟩)], .int .i64 (n : Int)] w
      fun e w' => e = .returned (.string ⟨(ctrL key nonce.data.toList f n).toArray⟩) ∧ Ext w w' := by
  have hcl := hB1.lt
  refine (callsIn_wide (n := 9)).1 ?_
  refine callsIn_of_wp_marks Tryz.func136 rfl trivial ?_ rfl
  simp only [Tryz.ntmps136, List.size_toArray, List.length_cons, List.length_nil, Nat.reduceAdd, Nat.reduceSub, Array.replicate_succ, Array.replicate_zero, List.push_toArray, List.append_toArray, List.nil_append, List.cons_append]
  gi_wp2
  obtain ⟨W0, hW0⟩ : ∃ W0, (w.alloc (.cells #[.int .i64 (n : Int)] 3)).alloc (.cells #[.pointer none, .slice none 0 0] 151) = W0 := ⟨_, rfl⟩
  have hb0 : Lib.IsBuilderF 151 5 (w.heap.size + 1) (w.heap.size + 1) [] W0 := by
    have hzs : (w.alloc (.cells #[.int .i64 (n : Int)] 3)).heap.size = w.heap.size + 1 := by simp
    have := IsB.new (w.alloc (.cells #[.int .i64 (n : Int)] 3)) (w.heap.size + 1) (by simp)
    rw [hzs] at this
    rw [← hW0]
    exact this
  have hn0 : Blk W0 w.heap.size 3 [.int .i64 (n : Int)] := by rw [← hW0]; exact (Blk.new w _ _).alloc _
  have hx0 : Ext w W0 := by rw [← hW0]; exact ((Ext.refl w).alloc _).alloc _
  have hz0 : W0.heap.size = w.heap.size + 2 := by rw [← hW0]; simp
  rw [hW0]
  clear hW0
  refine wpIn_rangeFunc_ownF rfl (by omega) (gf := 161) (lb := #[.pointer (some ⟨bf, 0, none⟩), .pointer (some ⟨bc, 0, none⟩), .pointer (some ⟨bo, 0, none⟩)]) rfl trivial (enters_of Tryz.func161 (by kernel_rfl) rfl)
    (blocks_stops (9 - 1) (by omega) bf bc bo c (w.heap.size + 1) key hk nonce f m W0 (by omega) (by omega) (by omega) (by omega) (by omega) hno hfm (hB1.ext hx0) ((hx0.cell (p := ⟨bf, 0, none⟩) hbf).trans h1) ((hx0.cell (p := ⟨bc, 0, none⟩) hbc).trans h2) ((hx0.cell (p := ⟨bo, 0, none⟩) hbo).trans h3)) belowK_t (belowK_b (by omega)) (Below.refl _ _) (fun _ => rfl)
    (fun pre W => (W.cell? ⟨w.heap.size, 0, none⟩ = some (.int .i64 (n : Int)) ∧ Lib.IsBuilderF 151 5 (w.heap.size + 1) (w.heap.size + 1) (Lib.byteCells (flatB pre)) W ∧ (16 * pre.length < n ∨ pre.length = 0)) ∧ Below w.heap.size w W)
    (fun c pre W => (c = .exit 0 ∧ Lib.IsBuilderF 151 5 (w.heap.size + 1) (w.heap.size + 1) (Lib.byteCells ((flatB pre).take n)) W ∧ n ≤ 16 * pre.length) ∧ Below w.heap.size w W)
    (OwnFrom.and (Own.from (fun s A B row hs hg hr => ⟨cell_kept hs.1 hg hr, bd_grown hs.2.1 hg hr, hs.2.2⟩) _) (ownFrom_below (Nat.le_refl _) (by omega)))
    (fun c => OwnFrom.and (Own.from (fun s A B row hs hg hr => ⟨hs.1, bd_grown hs.2.1 hg hr, hs.2.2⟩) _) (ownFrom_below (Nat.le_refl _) (by omega)))
    ⟨⟨hn0.cell 0 _ rfl, hb0, .inr rfl⟩, hx0⟩
    (fun x => { tmps := #[.func (.func 161) #[] #[.pointer (some ⟨bf, 0, none⟩), .pointer (some ⟨bc, 0, none⟩), .pointer (some ⟨bo, 0, none⟩)], .int .i64 (n : Int), undef, .pointer (some ⟨w.heap.size, 0, none⟩), .string ⟨#[]⟩, .pointer (some ⟨w.heap.size + 1, 0, none⟩), .string x.1, .func (.func 161) #[] #[.pointer (some ⟨bf, 0, none⟩), .pointer (some ⟨bc, 0, none⟩), .pointer (some ⟨bo, 0, none⟩)], .string x.1, undef, undef, undef, undef, undef, undef, undef, undef, undef, undef, undef, undef, undef], defers := [] }) ?assign ?body ?done ?stop
  case assign =>
    intro l x W K hK
    gi_wp2
    exact hK
  case body =>
    rintro l pre x W ⟨⟨hc, hb, hlt⟩, hB⟩ _
    have hmx : Tryz.prog.follows .mixedOrders = true := by kernel_rfl
    obtain ⟨p, hp⟩ : ∃ p, p = 16 * pre.length := ⟨_, rfl⟩
    obtain ⟨c, hcc⟩ : ∃ c, c = min 16 (n - 16 * pre.length) := ⟨_, rfl⟩
    have hpn : p ≤ n := by omega
    have hmin : ∀ (ts : Array TypeId) (t : TypeId) (u : World), (Builtin.min_ ts t #[.int .i64 16, .int .i64 ((n : Int) - (p : Int))]).run Tryz.prog u = .ok (.int .i64 (c : Int)) u := fun ts t u => by
      have := run_min_int2 (P := Tryz.prog) (w := u) ts t .i64 .i64 16 ((n : Int) - (p : Int))
      rw [this]
      congr 2
      omega
    have hx : x.1.size = 16 := x.2
    have hc32 : c ≤ 16 := by omega
    have hc33 : ¬ 16 < c := by omega
    have hc34 : (c : Int) ≤ 16 := by omega
    have hc35 : ¬ (16 : Int) < (c : Int) := by omega
    have hc36 : (0 : Int) ≤ (c : Int) := by omega
    have hc37 : ¬ (c : Int) < 0 := by omega
    have hbl : (Lib.byteCells (flatB pre)).length = p := by rw [Lib.byteCells_length, flatB_length, hp]
    have HLen := Lib.hid (fun u (hu : Lib.IsBuilderF 151 5 (w.heap.size + 1) (w.heap.size + 1) (Lib.byteCells (flatB pre)) u) => bd_len (w.heap.size + 1) (w.heap.size + 1) (Lib.byteCells (flatB pre)) u hu)
    rw [hbl] at HLen
    have HW := Lib.hid (fun u (hu : Lib.IsBuilderF 151 5 (w.heap.size + 1) (w.heap.size + 1) (Lib.byteCells (flatB pre)) u) (hz : w.heap.size + 1 ≤ u.heap.size) => bd_write (w.heap.size + 1) (w.heap.size + 1) (Lib.byteCells (flatB pre)) (x.1.extract 0 c) u hu (by rw [hbl, ByteArray.size_extract]; omega) hz)
    rw [pieceB pre x n c hcc (by omega)] at HW
    have hzW : w.heap.size + 1 ≤ W.heap.size := by obtain ⟨o, ho, _⟩ := bd_cells hb; have := heap_lt ho; omega
    have Hb := Lib.hid hb; have HB := Lib.hid hB; have Hp := Lib.hid hp; have HzW := Lib.hid hzW
    clear hb hB hlt hp hcc hbl hzW hx0 hb0 hn0 h1 h2 h3
    generalize x.1 = X at *
    have hsl : ∀ u : World, (Instr.slice 9 (.string X) none (some (.int .i64 (c : Int))) none).run Tryz.prog u = .ok (.string (X.extract 0 c)) u := fun u => by
      have hj : (0 : Int) ≤ (c : Int) ∧ (c : Int) ≤ (X.size : Int) := by omega
      simp [Instr.slice, Instr.sliceBounds, Instr.sliceBound, asIntOf, run_underlying Tryz.underlying9, hj]
      intro hgt
      omega
    have hwr : wrap64 ((n : Int) - (p : Int)) = (n : Int) - (p : Int) := by unfold wrap64; omega
    have hwr2 : IntKind.i64.wrap ((n : Int) - (p : Int)) = (n : Int) - (p : Int) := IntWalk.i64_in _ ⟨by omega, by omega⟩
    gi_wp2
    refine wpIn_mono (Q := fun e a W' => e = .normal ∧ a = { tmps := #[.func (.func 161) #[] #[.pointer (some ⟨bf, 0, none⟩), .pointer (some ⟨bc, 0, none⟩), .pointer (some ⟨bo, 0, none⟩)], .int .i64 (n : Int), undef, .pointer (some ⟨w.heap.size, 0, none⟩), .string ⟨#[]⟩, .pointer (some ⟨w.heap.size + 1, 0, none⟩), .string X, .func (.func 161) #[] #[.pointer (some ⟨bf, 0, none⟩), .pointer (some ⟨bc, 0, none⟩), .pointer (some ⟨bo, 0, none⟩)], .string X, .string X, .string X, .int .i64 16, .int .i64 (n : Int), .int .i64 (p : Int), .int .i64 ((n : Int) - (p : Int)), .int .i64 (c : Int), .string (X.extract 0 c), .tuple #[.int .i64 (c : Int), .nilIface], undef, undef, undef, undef], defers := [] } ∧ (Lib.IsBuilderF 151 5 (w.heap.size + 1) (w.heap.size + 1) (Lib.byteCells ((flatB (pre ++ [x])).take n)) W' ∧ Below (w.heap.size + 1) W W' ∧ Lib.OthersKept 5 (some (w.heap.size + 1)) W W')) ?_ ?_
    · clear hk hbf hbc hbo hno hfm hm1 hn2 hnm hB1 hcl hz0 hpn HB Hp
      gi_region_with_o (first
        | (refine ⟨trivial, ?_⟩; gi_at_call 158; refine (CallsIn.inRound l (callsIn_wide.2 (HLen.out _ (by exact Hb.out)))).mono ?_; rintro e w3 ⟨rfl, rfl⟩)
        | (refine ⟨trivial, ?_⟩; gi_at_call 110; refine (CallsIn.inRound l (callsIn_wide.2 (HW.out _ (by exact Hb.out) (by exact HzW.out)))).mono ?_; rintro e w4 ⟨rfl, h4, b4, k4⟩))
      all_goals exact ⟨rfl, rfl, h4, ⟨b4.os, b4.tape, b4.output, b4.size, b4.block⟩, k4⟩
    rintro e a w4 ⟨rfl, rfl, h4, b4, k4⟩
    all_goals
      have hc4 : w4.cell? ⟨w.heap.size, 0, none⟩ = some (.int .i64 (n : Int)) := (b4.cell (p := ⟨w.heap.size, 0, none⟩) (Nat.lt_succ_self _)).trans hc
      have b5 : Below (w.heap.size + 1) W w4 := ⟨b4.os, b4.tape, b4.output, b4.size, b4.block⟩
      have hs4 : W.heap.size ≤ w4.heap.size := b4.size
      have hk4 : KeepsOthers W w4.drew := (bd_others (W := W) k4 hs4 (bd_cells Hb.out)).trans (KeepsOthers.drew w4)
      have hB4 : Below w.heap.size w w4.drew := (HB.out.trans (Below.mono b5 (Nat.le_succ _))).drew
      have hK4 : Below (w.heap.size + 1) W w4.drew := ⟨b4.os, b4.tape, b4.output, b4.size, b4.block⟩
      have hl5 : (flatB (pre ++ [x])).length = p + 16 := by rw [flatB_length, List.length_append, List.length_singleton, Hp.out]; omega
      have hln := bd_len (w.heap.size + 1) (w.heap.size + 1) (Lib.byteCells ((flatB (pre ++ [x])).take n)) w4.drew h4
      rw [Lib.byteCells_length, List.length_take, hl5] at hln
      have hlen5 : 16 * (pre ++ [x]).length = p + 16 := by rw [List.length_append, List.length_singleton, Hp.out]; omega
      have h4b : Lib.IsBuilderF 151 5 (w.heap.size + 1) (w.heap.size + 1) (Lib.byteCells ((flatB (pre ++ [x])).take n)) w4.drew := h4
      have HN := Lib.hid hln; have H1 := Lib.hid hk4; have H2 := Lib.hid hK4; have H5 := Lib.hid hl5; have H6 := Lib.hid hB4; have H7 := Lib.hid h4b; have H8 := Lib.hid hlen5
      clear b5 hs4 hk4 hB4 hK4 hl5 hln h4 b4 k4 hlen5 h4b
      by_cases hq : n ≤ p + 16
      · have HN2 := HN.out
        rw [Nat.min_eq_left hq] at HN2
        have HN3 := Lib.hid HN2
        clear HN2
        gi_wp2
        gi_region_with_o (refine ⟨trivial, ?_⟩; gi_at_call 158; refine (CallsIn.inRound l (callsIn_wide.2 HN3.out)).mono ?_; rintro e w6 ⟨rfl, rfl⟩)
        all_goals gi_wp2
        all_goals exact ⟨H1.out, ⟨rfl, H7.out, by rw [H8.out]; exact hq⟩, H6.out⟩
      · have HN2 := HN.out
        have e5 : (flatB (pre ++ [x])).take n = flatB (pre ++ [x]) := List.take_of_length_le (by rw [H5.out]; omega)
        have H7b := H7.out
        rw [e5] at H7b
        rw [Nat.min_eq_right (by omega)] at HN2
        have HN3 := Lib.hid HN2
        have hne : ¬ (p : Int) + 16 = (n : Int) := by omega
        have HB7 := Lib.hid H7b
        clear HN2 H7b e5
        gi_wp2
        gi_region_with_o (refine ⟨trivial, ?_⟩; gi_at_call 158; refine (CallsIn.inRound l (callsIn_wide.2 HN3.out)).mono ?_; rintro e w6 ⟨rfl, rfl⟩)
        all_goals gi_wp2
        all_goals exact ⟨H1.out, H2.out, ⟨hc4, HB7.out, .inl (by rw [H8.out]; omega)⟩, H6.out⟩
  case done =>
    rintro D ys W hD rfl ⟨⟨_, _, hlt⟩, _⟩ _
    rw [seqB_length] at hlt
    omega
  case stop =>
    rintro D c pre W hD ⟨k, hm, rfl⟩ ⟨⟨rfl, hb, hle⟩, hB⟩ hK
    rw [seqB_length] at hle
    rw [flatB_seq, ctrL_of hk _ _ _ _ hle] at hb
    gi_wp2_with (refine ⟨trivial, ?_⟩; gi_at_call 111; refine (callsIn_wide.2 (bd_string (w.heap.size + 1) (w.heap.size + 1) _ W hb (by have := heap_lt hK; omega))).mono ?_; rintro e w5 ⟨rfl, h5, k5⟩)
    have hK5 := k5 D _ hK (by intro e; have := Option.some.inj e; omega) (fun c fz e => by cases e)
    refine ⟨by simp, .inl ⟨_, _, rfl, run_takeDeferred hK5, ?_⟩⟩
    refine ⟨_, results_tmp rfl _ _ _, rfl, ?_⟩
    exact (hB.trans (Below.mono h5 (by omega))).trans (belowK_b (w := w) (Nat.le_refl _) _ D _ _ (by omega) hK5 rfl rfl)
end Go.Proofs.YtobhbppogeghnaaGreatDoor
end

section
namespace Go.Proofs.YtobhbppogeghnaaGreatDoor

/-- Four bytes as a number. -/
def w4 (a b c d : UInt8) : Nat := ((a.toNat * 256 + b.toNat) * 256 + c.toNat) * 256 + d.toNat
theorem w4_lt (a b c d : UInt8) : w4 a b c d < 4294967296 := by
  have := a.toNat_lt; have := b.toNat_lt; have := c.toNat_lt; have := d.toNat_lt
  unfold w4; omega
theorem xor_cat (A B a b : Nat) (ha : a < 256) (hb : b < 256) : (A * 256 + a) ^^^ (B * 256 + b) = (A ^^^ B) * 256 + (a ^^^ b) := by
  have e1 : (A * 256 + a) % 256 = a := by rw [Nat.add_comm, Nat.add_mul_mod_self_right, Nat.mod_eq_of_lt ha]
  have e2 : (B * 256 + b) % 256 = b := by rw [Nat.add_comm, Nat.add_mul_mod_self_right, Nat.mod_eq_of_lt hb]
  have e3 : (A * 256 + a) / 256 = A := by rw [Nat.add_comm, Nat.add_mul_div_right _ _ (by decide), Nat.div_eq_of_lt ha, Nat.zero_add]
  have e4 : (B * 256 + b) / 256 = B := by rw [Nat.add_comm, Nat.add_mul_div_right _ _ (by decide), Nat.div_eq_of_lt hb, Nat.zero_add]
  have h1 : ((A * 256 + a) ^^^ (B * 256 + b)) % 256 = (A * 256 + a) % 256 ^^^ (B * 256 + b) % 256 := Nat.xor_mod_two_pow (n := 8)
  have h2 : ((A * 256 + a) ^^^ (B * 256 + b)) / 256 = (A * 256 + a) / 256 ^^^ (B * 256 + b) / 256 := Nat.xor_div_two_pow (n := 8)
  rw [e1, e2] at h1; rw [e3, e4] at h2
  rw [← h1, ← h2]
  omega
theorem w4_xor (a b c d e f g h : UInt8) : w4 a b c d ^^^ w4 e f g h = w4 (a ^^^ e) (b ^^^ f) (c ^^^ g) (d ^^^ h) := by
  unfold w4
  rw [xor_cat _ _ _ _ d.toNat_lt h.toNat_lt, xor_cat _ _ _ _ c.toNat_lt g.toNat_lt, xor_cat _ _ _ _ b.toNat_lt f.toNat_lt]
  simp only [UInt8.toNat_xor]
theorem w4_rot (a b c d : UInt8) : rot (w4 a b c d) 24 = w4 b c d a := by
  have := a.toNat_lt; have := b.toNat_lt; have := c.toNat_lt; have := d.toNat_lt
  unfold rot
  have e1 : w4 a b c d / 2 ^ 24 = a.toNat := by unfold w4; omega
  have e2 : w4 a b c d * 2 ^ (32 - 24) % 4294967296 = w4 b c d 0 := by unfold w4; simp; omega
  rw [e1, e2]
  have h := or_add ((b.toNat * 256 + c.toNat) * 256 + d.toNat) a.toNat a.toNat_lt
  have e3 : w4 b c d 0 = ((b.toNat * 256 + c.toNat) * 256 + d.toNat) * 256 := by unfold w4; simp
  rw [e3, Nat.or_comm, h]
  rfl
theorem w4_high (a : UInt8) : w4 a 0 0 0 = a.toNat * 16777216 := by unfold w4; simp; omega
theorem w4_num (a b c d : UInt8) : num [a, b, c, d] = w4 a b c d := by simp [num, w4]
theorem be_w4 (a b c d : UInt8) : be 4 (w4 a b c d) = [a, b, c, d] := by
  have := a.toNat_lt; have := b.toNat_lt; have := c.toNat_lt; have := d.toNat_lt
  have key : ∀ (n : Nat) (x : UInt8), n % 256 = x.toNat → UInt8.ofNat n = x := fun n x h => UInt8.toNat_inj.1 (by rw [UInt8.toNat_ofNat']; exact h)
  simp only [be]
  rw [key _ a (by unfold w4; omega), key _ b (by unfold w4; omega), key _ c (by unfold w4; omega), key _ d (by unfold w4; omega)]
/-- Each byte of a word boxed, j of them, the lowest first. -/
def bw (n : Nat) : Nat → Nat
  | 0 => 0
  | j + 1 => bw n j ||| (boxB (UInt8.ofNat (n / 2 ^ (8 * j)))).toNat * 2 ^ (8 * j)
theorem bw_lt (n : Nat) : ∀ j, bw n j < 2 ^ (8 * j)
  | 0 => by simp [bw]
  | j + 1 => by
    have ih := bw_lt n j
    have hb := (boxB (UInt8.ofNat (n / 2 ^ (8 * j)))).toNat_lt
    have e : 2 ^ (8 * (j + 1)) = 256 * 2 ^ (8 * j) := by rw [show 8 * (j + 1) = 8 * j + 8 by omega, Nat.pow_add]; omega
    rw [bw, Nat.or_comm, Nat.mul_comm, ← Nat.two_pow_add_eq_or_of_lt ih, e]
    have : 2 ^ (8 * j) * (boxB (UInt8.ofNat (n / 2 ^ (8 * j)))).toNat ≤ 2 ^ (8 * j) * 255 := Nat.mul_le_mul_left _ (by omega)
    omega
theorem bw_add (n j : Nat) : bw n (j + 1) = (boxB (UInt8.ofNat (n / 2 ^ (8 * j)))).toNat * 2 ^ (8 * j) + bw n j := by
  rw [bw, Nat.or_comm, Nat.mul_comm, ← Nat.two_pow_add_eq_or_of_lt (bw_lt n j)]
theorem bw_w4 (a b c d : UInt8) : bw (w4 a b c d) 4 = w4 (boxB a) (boxB b) (boxB c) (boxB d) := by
  have := a.toNat_lt; have := b.toNat_lt; have := c.toNat_lt; have := d.toNat_lt
  have key : ∀ (n : Nat) (x : UInt8), n % 256 = x.toNat → UInt8.ofNat n = x := fun n x h => UInt8.toNat_inj.1 (by rw [UInt8.toNat_ofNat']; exact h)
  rw [bw_add, bw_add, bw_add, bw_add, key _ a (by unfold w4; omega), key _ b (by unfold w4; omega), key _ c (by unfold w4; omega), key _ d (by unfold w4; omega)]
  simp only [bw]
  unfold w4
  omega
/-- All bytes of the words of a key. -/
def eB (key : List UInt8) (i : Nat) : UInt8 := (expand key 40).getD i 0
def gB (key : List UInt8) (i k : Nat) : UInt8 := (if i % 4 = 0 then [boxB (eB key (4 * i - 3)) ^^^ rcon (i / 4 - 1), boxB (eB key (4 * i - 2)), boxB (eB key (4 * i - 1)), boxB (eB key (4 * i - 4))] else [eB key (4 * i - 4), eB key (4 * i - 3), eB key (4 * i - 2), eB key (4 * i - 1)]).getD k 0
theorem eB_step {key : List UInt8} (h : key.length = 16) (i : Nat) (h4 : 4 ≤ i) (hi : i < 44) (k : Nat) (hk : k < 4) : eB key (4 * i + k) = eB key (4 * i - 16 + k) ^^^ gB key i k := by
  obtain ⟨m, rfl⟩ : ∃ m, i = m + 4 := ⟨i - 4, by omega⟩
  have hat : ∀ j, j < 16 + 4 * m → (expand key m).getD j 0 = eB key j := fun j hj => by
    have := expand_at h m (40 - m) j hj
    rw [show m + (40 - m) = 40 by omega] at this
    exact this.symm
  have h1 : eB key (4 * (m + 4) + k) = (expand key (m + 1)).getD (4 * (m + 4) + k) 0 := by
    have := expand_at h (m + 1) (40 - (m + 1)) (4 * (m + 4) + k) (by omega)
    rw [show m + 1 + (40 - (m + 1)) = 40 by omega] at this
    exact this
  have hl := expand_length h m
  rw [h1, expand, List.getD_eq_getElem?_getD, List.getElem?_append_right (by omega), hl, show 4 * (m + 4) + k - (16 + 4 * m) = k by omega]
  unfold nextW gB
  simp only [List.getElem?_map, List.getElem?_range hk, Option.map_some, Option.getD_some]
  rw [hat _ (by omega), hat _ (by omega), hat _ (by omega), hat _ (by omega), hat _ (by omega)]
  rw [show 4 * (m + 4) - 4 + 1 = 4 * (m + 4) - 3 by omega, show 4 * (m + 4) - 4 + 2 = 4 * (m + 4) - 2 by omega, show 4 * (m + 4) - 4 + 3 = 4 * (m + 4) - 1 by omega]
  simp only [Nat.add_zero]
/-- Word i of the round keys. -/
def kw (key : List UInt8) (i : Nat) : Nat := w4 (eB key (4 * i)) (eB key (4 * i + 1)) (eB key (4 * i + 2)) (eB key (4 * i + 3))
theorem kw_lt (key : List UInt8) (i : Nat) : kw key i < 4294967296 := w4_lt _ _ _ _
section
variable {key : List UInt8} (h : key.length = 16) (i : Nat) (h4 : 4 ≤ i) (hi : i < 44)
include h h4 hi
theorem kw_plain (hm : ¬ i % 4 = 0) : kw key i = kw key (i - 4) ^^^ kw key (i - 1) := by
  have e := fun k hk => eB_step h i h4 hi k hk
  unfold kw
  rw [w4_xor, e 1 (by omega), e 2 (by omega), e 3 (by omega)]
  have e0 := e 0 (by omega)
  rw [Nat.add_zero, Nat.add_zero] at e0
  rw [e0]
  unfold gB
  simp only [if_neg hm, List.getD_cons_zero, List.getD_cons_succ]
  rw [show 4 * (i - 4) = 4 * i - 16 by omega, show 4 * (i - 1) = 4 * i - 4 by omega, show 4 * i - 4 + 1 = 4 * i - 3 by omega, show 4 * i - 4 + 2 = 4 * i - 2 by omega, show 4 * i - 4 + 3 = 4 * i - 1 by omega]
theorem kw_four (hm : i % 4 = 0) : kw key i = (kw key (i - 4) ^^^ bw (rot (kw key (i - 1)) 24) 4) ^^^ (rcon ((i - 1) / 4)).toNat * 16777216 := by
  have e := fun k hk => eB_step h i h4 hi k hk
  unfold kw
  rw [w4_rot, bw_w4, ← w4_high, w4_xor, w4_xor, e 1 (by omega), e 2 (by omega), e 3 (by omega)]
  have e0 := e 0 (by omega)
  rw [Nat.add_zero, Nat.add_zero] at e0
  rw [e0]
  unfold gB
  simp only [if_pos hm, List.getD_cons_zero, List.getD_cons_succ]
  rw [show 4 * (i - 4) = 4 * i - 16 by omega, show 4 * (i - 1) = 4 * i - 4 by omega, show 4 * i - 4 + 1 = 4 * i - 3 by omega, show 4 * i - 4 + 2 = 4 * i - 2 by omega, show 4 * i - 4 + 3 = 4 * i - 1 by omega, show i / 4 - 1 = (i - 1) / 4 by omega]
  simp only [UInt8.xor_zero, UInt8.xor_assoc]
end
theorem kw_key {key : List UInt8} (h : key.length = 16) (i : Nat) (hi : i < 4) : num ((key.drop (4 * i)).take 4) = kw key i := by
  have e : ∀ j, j < 16 → eB key j = key.getD j 0 := fun j hj => by
    have := expand_at h 0 40 j (by omega)
    rw [Nat.zero_add] at this
    exact this
  unfold kw
  rw [e _ (by omega), e _ (by omega), e _ (by omega), e _ (by omega), ← w4_num]
  obtain ⟨a0, a1, a2, a3, a4, a5, a6, a7, a8, a9, a10, a11, a12, a13, a14, a15, rfl⟩ := sixteen h
  rcases (show i = 0 ∨ i = 1 ∨ i = 2 ∨ i = 3 by omega) with rfl | rfl | rfl | rfl
  all_goals rfl
theorem rcon_double (n : Nat) : (rcon (n + 1)).toNat = tm (rcon n).toNat 2 := by rw [rcon, mulB_nat]; rfl
end Go.Proofs.YtobhbppogeghnaaGreatDoor
end

section
namespace Go.Proofs.YtobhbppogeghnaaGreatDoor
open Go.RowKit
theorem pow8_le {j : Nat} (h : j < 4) : 2 ^ (8 * j) ≤ 16777216 := by
  have : 2 ^ (8 * j) ≤ 2 ^ 24 := Nat.pow_le_pow_right (by decide) (by omega)
  simpa using this
set_option maxRecDepth 100000 in
set_option maxHeartbeats 1000000 in
theorem boxedWord_any (w : World) (k o n : Nat) (_hn : n < 4294967296) (hb : Bytes w k o boxT) :
    Calls Tryz.prog 212 #[.pointer (some ⟨k, o, none⟩), .int .u32 (n : Int)] w fun e w' => e = .returned (.int .u32 (bw n 4 : Nat)) ∧ ∃ q, w' = w.drewN q := by
  have HB := Lib.hid hb
  clear hb
  go_enter Tryz.func212, Tryz.ntmps212
  go_wp2
  go_loopw [7, 5] (fun i r wr => ∃ j : Nat, j ≤ 4 ∧ i = .int .i64 j ∧ r = .int .u32 (bw n j : Nat) ∧ (∃ q, wr = w.drewN q)) (fun i _ _ => 4 - (intOf i).toNat)
  case atStart => exact ⟨0, Nat.zero_le _, rfl, rfl, 0, rfl⟩
  case round =>
    obtain ⟨j, hj, rfl, rfl, q, rfl⟩ := hrel
    by_cases hlt : j < 4
    · obtain ⟨m, hm⟩ : ∃ m : Nat, 8 * (j : Int) = (m : Int) := ⟨8 * j, by omega⟩
      have hm2 : 8 * j = m := by omega
      have hm3 : m ≤ 24 := by omega
      have hmi : (m : Int) < 32 := by omega
      have hp := pow8_le hlt
      have hbl := bw_lt n j
      have hsucc : bw n (j + 1) = bw n j ||| (boxB (UInt8.ofNat (n / 2 ^ (8 * j)))).toNat * 2 ^ (8 * j) := rfl
      rw [hm2] at hp hbl hsucc
      have hwm : IntKind.i64.wrap (m : Int) = (m : Int) := IntWalk.i64_in _ ⟨by omega, by omega⟩
      obtain ⟨t, ht⟩ : ∃ t : Nat, t = n / 2 ^ m % 256 := ⟨_, rfl⟩
      have htl : t < 256 := by omega
      have hti : (t : Int) < 256 := by omega
      have hcell : w.cell? ⟨k, o + t, none⟩ = some (.int .u8 ((boxB (UInt8.ofNat (n / 2 ^ m))).toNat : Int)) := by
        have h1 := HB.out t _ (boxT_at _ htl)
        have e : UInt8.ofNat t = UInt8.ofNat (n / 2 ^ m) := UInt8.toNat_inj.1 (by rw [UInt8.toNat_ofNat', UInt8.toNat_ofNat']; omega)
        rw [e] at h1
        exact h1
      have hx := (boxB (UInt8.ofNat (n / 2 ^ m))).toNat_lt
      generalize (boxB (UInt8.ofNat (n / 2 ^ m))).toNat = x at *
      have hd : (n : Int) / 2 ^ m = ((n / 2 ^ m : Nat) : Int) := by simp
      have hw8 : IntKind.u8.wrap ((n : Int) / 2 ^ m) = (t : Int) := by rw [hd, IntKind.wrap_u8]; omega
      have hm8 : ((n : Int) / 2 ^ m) % 256 = (t : Int) := by rw [hd]; omega
      clear hd
      have hxw : IntKind.u32.wrap (x : Int) = (x : Int) := IntWalk.u32_in _ ⟨by omega, by omega⟩
      have hxm : x * 2 ^ m < 4294967296 := by
        have : x * 2 ^ m ≤ 255 * 16777216 := Nat.mul_le_mul (by omega) hp
        omega
      have hxs : ((x : Int) * 2 ^ m) % 4294967296 = ((x * 2 ^ m : Nat) : Int) := by
        have e : (x : Int) * 2 ^ m = ((x * 2 ^ m : Nat) : Int) := by simp
        rw [e]; omega
      have hor := u32_or_nat (bw n j) (x * 2 ^ m) (by omega) hxm
      have HS := Lib.hid hsucc; have HM := Lib.hid hm2; have HT := Lib.hid ht
      clear hsucc hm2 ht hp
      go_wp2
      go_quiet (fail)
      go_wp2
      go_roundw
      case rel => exact ⟨j + 1, by omega, by go_num, by rw [HS.out]; first | rfl | exact int_eq hor, _, rfl⟩
      case measure => simp [intOf]; omega
    · obtain rfl : j = 4 := by omega
      go_wp2
      go_ret
      exact ⟨rfl, q, rfl⟩
end Go.Proofs.YtobhbppogeghnaaGreatDoor
end

section
namespace Go.Proofs.YtobhbppogeghnaaGreatDoor
open Go.RowKit
attribute [local irreducible] rkey expand enc dec
def zc44 : Array Value := ((List.replicate 44 0).map cell32).toArray
theorem zero44 : (Tryz.prog.info? 237).bind (·.zero) = some (.agg zc44) := by kernel_rfl
theorem Row32.zero (w : World) (t : TypeId) : Row32 (w.alloc (.cells zc44 t)) w.heap.size t (List.replicate 44 0) := heap_alloc_new w _
theorem size44 : (Tryz.prog.info? 237).map (·.size) = some 44 := by kernel_rfl
theorem sized32 {t n : Nat} {l : List Nat} (h : (Tryz.prog.info? t).map (·.size) = some n) (hl : l.length = n) : (Tryz.prog.info? t).map (·.size) = some ((l.map cell32).toArray).size := by simp [h, hl]
def kws (key : List UInt8) (j : Nat) : List Nat := (List.range j).map (kw key)
theorem kws_length (key : List UInt8) (j : Nat) : (kws key j).length = j := by simp [kws]
theorem kws_succ (key : List UInt8) (j : Nat) : kws key (j + 1) = kws key j ++ [kw key j] := by simp [kws, List.range_succ]
theorem kws_at (key : List UInt8) (j i : Nat) (h : i < j) : (kws key j).getD i 0 = kw key i := by simp [kws, h]
def kwsZ (key : List UInt8) (j : Nat) : List Nat := kws key j ++ List.replicate (44 - j) 0
theorem kwsZ_length (key : List UInt8) (j : Nat) (h : j ≤ 44) : (kwsZ key j).length = 44 := by unfold kwsZ; rw [List.length_append, kws_length, List.length_replicate]; omega
theorem kwsZ_at (key : List UInt8) (j i : Nat) (h : i < j) : (kwsZ key j).getD i 0 = kw key i := by
  unfold kwsZ
  rw [List.getD_eq_getElem?_getD, List.getElem?_append_left (by rw [kws_length]; exact h), ← List.getD_eq_getElem?_getD, kws_at key j i h]
theorem kwsZ_set (key : List UInt8) (j : Nat) (h : j < 44) : (kwsZ key j).set j (kw key j) = kwsZ key (j + 1) := by
  unfold kwsZ
  have := set_zero32 (kws key j) 44 (kw key j) (by rw [kws_length]; exact h)
  rw [kws_length] at this
  rw [this, kws_succ]
theorem kwsZ_all (key : List UInt8) : kwsZ key 44 = kws key 44 := by simp [kwsZ]
theorem kwsZ_zero (key : List UInt8) : kwsZ key 0 = List.replicate 44 0 := by simp [kwsZ, kws]
attribute [irreducible] kws kwsZ
attribute [local irreducible] kw
theorem kwsZ_step {w : World} {g : Nat} {t : TypeId} {key : List UInt8} {j : Nat} (hj : j < 44) (h : Row32 w g t (kwsZ key j)) (x : Int) (hx : x = (kw key j : Nat)) : Row32 (w.setCell ⟨g, j, none⟩ (.int .u32 x)) g t (kwsZ key (j + 1)) := by
  have := h.set_ j x _ hx
  rw [kwsZ_set key j hj] at this
  exact this
theorem tm_two_right : ∀ x, x < 256 → tm x 2 = xt x := by decide +kernel
set_option maxRecDepth 100000 in
set_option maxHeartbeats 2000000 in
theorem keyWords_any (w : World) (k o : Nat) (s : ByteArray) (hs : s.size = 16) (hb : Bytes w k o boxT) (hk : k < w.heap.size) :
    Calls Tryz.prog 189 #[.pointer (some ⟨k, o, none⟩), .string s] w fun e w' => e = .returned (.agg ((kws s.data.toList 44).map cell32).toArray) ∧ Ext w w' := by
  have hz := zero_run zero44
  have hsl : s.data.toList.length = 16 := by rw [size_list]; exact hs
  have HG : Hid (∀ (i m : Nat), i < 4 → m = 4 * i → ∀ u, Calls Tryz.prog 120 #[.string s, .int .i64 (m : Int)] u fun e w' => e = .returned (.tuple #[.int .u32 (kw s.data.toList i : Nat), .bool true]) ∧ u = w') := Lib.hid (fun i m hi hm u => by
    have h := Get32_any s (m : Int) (by omega) u
    rw [getv_yes (by omega), gets_yes (by omega)] at h
    have e : num (Go.Proofs.YtobhbppogeghnaaGreatDoor.sub s m 4) = kw s.data.toList i := by unfold Go.Proofs.YtobhbppogeghnaaGreatDoor.sub; rw [hm]; exact kw_key hsl i hi
    rw [e] at h
    exact h)
  have HB := Lib.hid (fun u (hu : Ext w u) => hb.below hu hk)
  have HP := Lib.hid (fun i (h4 : 4 ≤ i) (hi : i < 44) => kw_plain hsl i h4 hi)
  have HF := Lib.hid (fun i (h4 : 4 ≤ i) (hi : i < 44) => kw_four hsl i h4 hi)
  have HL := Lib.hid (kw_lt s.data.toList)
  clear hs hb hk hsl
  generalize s.data.toList = key at *
  go_enter Tryz.func189, Tryz.ntmps189
  go_wp2
  go_loopw [8, 6] (fun i r wr => ∃ j : Nat, j ≤ 44 ∧ i = .int .i64 j ∧ r = .int .u8 ((rcon ((j - 1) / 4)).toNat : Int) ∧ Row32 wr (w.heap.size + 1) 237 (kwsZ key j) ∧ Row32 wr w.heap.size 237 (List.replicate 44 0) ∧ Ext w wr) (fun i _ _ => 44 - (intOf i).toNat)
  case atStart => exact ⟨0, Nat.zero_le _, rfl, rfl, by rw [kwsZ_zero]; simpa using Row32.zero (w.alloc _) 237, (Row32.zero w _).alloc _, ((Ext.refl w).alloc _).alloc _⟩
  case round =>
    obtain ⟨j, hj, rfl, rfl, hrow, hres, hext⟩ := hrel
    by_cases hlt : j < 44
    · have hc := hrow.cell j (by rw [kwsZ_length key j hj]; exact hlt)
      have hf := hrow.frozen j
      generalize (kwsZ key j).getD j 0 = old at *
      have HS := Lib.hid (fun q x hx => kwsZ_step hlt (hrow.drewN q) x hx)
      have HRes := Lib.hid hres; have HE := Lib.hid hext
      clear hres hext
      by_cases h4 : j < 4
      · obtain ⟨m, hm⟩ : ∃ m : Nat, 4 * (j : Int) = (m : Int) := ⟨4 * j, by omega⟩
        have HT := Lib.hid (HG.out j m h4 (by omega))
        have hrc : (j + 1 - 1) / 4 = (j - 1) / 4 := by omega
        have HR := Lib.hid hrc
        clear hrow hrc
        go_wp2_with (go_at_call 120; refine (HT.out _).mono ?_; rintro e w1 ⟨rfl, rfl⟩)
        go_roundw
        case rel => exact ⟨j + 1, by omega, by go_num, by rw [HR.out], HS.out 0 _ rfl, HRes.out.other (by omega) _ _, HE.out.setCell (by simp) _⟩
        case measure => simp [intOf]; omega
      · have h4i : ¬ (j : Int) < 4 := by omega
        obtain ⟨p, hp⟩ : ∃ p : Nat, (j : Int) - 4 = (p : Int) := ⟨j - 4, by omega⟩
        obtain ⟨s1, hs1⟩ : ∃ p : Nat, (j : Int) - 1 = (p : Int) := ⟨j - 1, by omega⟩
        have cp := hrow.cell p (by rw [kwsZ_length key j hj]; omega)
        have cs := hrow.cell s1 (by rw [kwsZ_length key j hj]; omega)
        rw [kwsZ_at key j p (by omega)] at cp
        rw [kwsZ_at key j s1 (by omega)] at cs
        have lp := HL.out p; have ls := HL.out s1
        have HPj := HP.out j (by omega) hlt
        have HFj := HF.out j (by omega) hlt
        rw [show j - 4 = p by omega, show j - 1 = s1 by omega] at HPj HFj
        have HPj := Lib.hid HPj; have HFj := Lib.hid HFj
        generalize kw key p = a at *
        generalize kw key s1 = b at *
        have hpl : (p : Int) < 44 := by omega
        have hsl : (s1 : Int) < 44 := by omega
        have hjl : (j : Int) < 44 := by omega
        have wp : IntKind.i64.wrap (p : Int) = (p : Int) := IntWalk.i64_in _ ⟨by omega, by omega⟩
        have ws : IntKind.i64.wrap (s1 : Int) = (s1 : Int) := IntWalk.i64_in _ ⟨by omega, by omega⟩
        clear hrow
        by_cases hm : j % 4 = 0
        · have hmi : (j : Int) % 4 = 0 := by omega
          have hrc : (j + 1 - 1) / 4 = s1 / 4 + 1 := by omega
          rw [show j - 1 = s1 by omega]
          have HR := Lib.hid hrc
          have e := HFj.out hm
          have hrl := (rcon (s1 / 4)).toNat_lt
          have hd : (rcon (s1 / 4 + 1)).toNat = xt (rcon (s1 / 4)).toNat := by rw [rcon_double, tm_two_right _ hrl]
          have HD := Lib.hid hd
          clear hrc hd
          generalize (rcon (s1 / 4)).toNat = r at *
          have hrot := rot_lt b 24 ls
          have hbw := bw_lt (rot b 24) 4
          have T1 : Hid (∀ u, Calls Tryz.prog 198 #[.int .u32 (b : Int), .int .i64 (-8)] u fun e w' => e = .returned (.int .u32 (rot b 24 : Nat)) ∧ u = w') := Lib.hid (fun u => turn_any b ls (-8) u)
          have T2 := Lib.hid (fun u (hu : Ext w u) => boxedWord_any u k o (rot b 24) hrot (HB.out u hu))
          generalize bw (rot b 24) 4 = d at *
          have hbw : d < 4294967296 := hbw
          have x1 := u32_xor_nat a d lp hbw
          have hx1 : a ^^^ d < 4294967296 := Nat.xor_lt_two_pow (n := 32) lp hbw
          have x2 := u32_xor_nat (a ^^^ d) (r * 16777216) hx1 (by omega)
          rw [← e] at x2
          have hrw : IntKind.u32.wrap (r : Int) = (r : Int) := IntWalk.u32_in _ ⟨by omega, by omega⟩
          have hrs : IntKind.u32.wrap ((r : Int) * 16777216) = ((r * 16777216 : Nat) : Int) := by rw [IntWalk.u32_in _ ⟨by omega, by omega⟩]; omega
          go_wp2
          go_region_with (first
            | (go_at_call 198; refine (T1.out _).mono ?_; rintro e w1 ⟨rfl, rfl⟩)
            | (go_at_call 212; refine (T2.out _ (HE.out.drewN 1)).mono ?_; rintro e w1 ⟨rfl, q, rfl⟩))
          all_goals
            clear x1 cp cs hc
            go_wp2_with (go_at_call 211; refine (double_any r hrl _).mono ?_; rintro e w1 ⟨rfl, rfl⟩)
            go_roundw
            case rel => exact ⟨j + 1, by omega, by go_num, by rw [HR.out, HD.out], HS.out _ _ (by first | rfl | exact x2), HRes.out.other (by omega) _ _, (HE.out.drewN _).setCell (by simp) _⟩
            case measure => simp [intOf]; omega
        · have hmi : ((j : Int) % 4 == 0) = false := by simp; omega
          have hrc : (j + 1 - 1) / 4 = s1 / 4 := by omega
          rw [show j - 1 = s1 by omega]
          have HR := Lib.hid hrc
          have e := HPj.out hm
          have x1 := u32_xor_nat a b lp ls
          rw [← e] at x1
          clear hrc
          go_wp2
          go_region
          go_wp2
          go_roundw
          case rel => exact ⟨j + 1, by omega, by go_num, by rw [HR.out], HS.out 0 _ (by first | exact x1 | rw [e]), (HRes.out.other (by omega) _ _).drew, (HE.out.setCell (by simp) _).drew⟩
          case measure => simp [intOf]; omega
    · obtain rfl : j = 44 := by omega
      rw [kwsZ_all] at hrow
      have e44 : ((44 : Nat) : Int) = 44 := rfl
      rw [e44]
      clear e44
      go_wp2_with (first
        | (refine wpList_load_row rfl 237 (.tmp 5) rfl _ rfl 237 _ (0, 0) _ hrow Tryz.underlying237 rfl (sized32 size44 (kws_length key 44)) ?_)
        | (refine wpList_store_row rfl 237 (.tmp 4) (.tmp 59) rfl w.heap.size _ rfl rfl 237 _ hres (sized32 size44 (kws_length key 44)) (by simp [kws_length]) (cells32_one _) ?_))
      exact bodyPost_ret (results_cell_row rfl _ _ w.heap.size 237 _ (0, 0) _ rfl (setRow_heap _ _ _ _ _ _ hres) Tryz.underlying237 rfl (sized32 size44 (kws_length key 44))) rfl ⟨rfl, hext.setRow (Nat.le_refl _) _⟩
end Go.Proofs.YtobhbppogeghnaaGreatDoor
end
