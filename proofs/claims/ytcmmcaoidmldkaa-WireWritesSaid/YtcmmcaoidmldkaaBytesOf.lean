/- Contracts: the bytes of numbers, whole numbers, texts and truths in a row, by the program. -/
import Derived.Test.YtcmmcaoidmldkaaFold
import Derived.Test.YtcmmcaoidmldkaaVals
import Derived.Test.YtcmmcaoidmldkaaTxt
import Derived.Outline
namespace Go.Proofs.Ytcmmcaoidmldkaa
open Go.RowKit
attribute [local irreducible] wnF

theorem flat_take {α : Type} (f : α → List UInt8) (l : List α) (j : Nat) (x : α) (h : l[j]? = some x) : (l.take (j + 1)).flatMap f = (l.take j).flatMap f ++ f x := by
  rw [List.take_add_one, h]
  simp
theorem flat_take_le {α : Type} (f : α → List UInt8) : ∀ (l : List α) (j : Nat), ((l.take j).flatMap f).length ≤ (l.flatMap f).length
  | [], j => by simp
  | x :: r, 0 => by simp
  | x :: r, j + 1 => by
    have := flat_take_le f r j
    rw [List.take_succ_cons, List.flatMap_cons, List.flatMap_cons, List.length_append, List.length_append]
    omega

set_option maxRecDepth 100000 in
set_option maxHeartbeats 1000000 in
theorem bytesU_any (w : World) (p : Option Addr) (c n : Nat) (l : List Nat) (hn : l.length = n) (h : ValsP w p (vU l)) (hx : ∀ x ∈ l, x < 18446744073709551616) (hlen : (l.flatMap wn).length ≤ 1000000) (hn6 : n ≤ 1000000) :
    Calls Try.prog 29 #[.slice p n c, .func (.func 30) #[] #[]] w fun e w' => e = .returned (.string ⟨(l.flatMap wn).toArray⟩) ∧ Ext w w' := by
  have HH := Lib.hid (fun u (hu : Ext w u) => h.ext hu)
  have HT := Lib.hid (fun j => Nat.le_trans (flat_take_le wn l j) hlen)
  have HX := Lib.hid hx
  have HN := Lib.hid hn
  have HP : Hid (∀ (x : Nat), x ∈ l → ∀ u z, IsB u w.heap.size w.heap.size z → z.length ≤ 1000000 → w.heap.size ≤ u.heap.size → Calls Try.prog 30 #[.pointer (some ⟨w.heap.size, 0, none⟩), .int .u64 (x : Int)] u fun e w' => e = .returned (.tuple #[]) ∧ IsB w' w.heap.size w.heap.size (z ++ wn x) ∧ Below w.heap.size u w') := Lib.hid (fun x hxl u z hB hL hS => by
    have hx := HX.out x hxl
    exact putUint_any w.heap.size w.heap.size _ x hx _ hB hL hS)
  have HI := Lib.hid (IsB.new w w.heap.size (Nat.le_refl _))
  have HX0 := Lib.hid ((Ext.refl w).alloc (.cells #[.pointer none, .slice none 0 0] 75))
  clear h hx hlen hn
  go_enter Try.func29, Try.ntmps29
  go_wp2
  go_loopw [10] (fun i wr => ∃ j : Nat, j ≤ n ∧ i = .int .i64 (j : Int) ∧ Hid (IsB wr w.heap.size w.heap.size ((l.take j).flatMap wn)) ∧ Hid (Ext w wr)) (fun i _ => n - (intOf i).toNat)
  case atStart => exact ⟨0, Nat.zero_le _, rfl, Lib.hid HI.out, HX0⟩
  case round =>
    obtain ⟨j, hj, rfl, hb, hext⟩ := hrel
    by_cases hlt : j < n
    · obtain ⟨x, hs⟩ : ∃ x, l[j]? = some x := ⟨_, List.getElem?_eq_getElem (by have := HN.out; omega)⟩
      obtain ⟨a, rfl, _, hc1⟩ := HH.out _ hext.out j _ (vU_get hs)
      have HF := Lib.hid (flat_take wn l j x hs)
      have HPx := Lib.hid (HP.out x (List.mem_of_getElem? hs) wr _ hb.out (HT.out j) hext.out.size)
      clear hs
      go_wp2_with (go_at_call 30; refine (HPx.out).mono ?_; rintro e w2 ⟨rfl, hb2, x2⟩; have HB2 := Lib.hid hb2; have X2 := Lib.hid x2; clear hb2 x2)
      go_roundw
      case rel => exact ⟨j + 1, hlt, by go_num, Lib.hid (by rw [HF.out]; exact HB2.out), Lib.hid (hext.out.trans3 X2.out)⟩
      case measure => simp [intOf]; omega
    · obtain rfl : j = n := by omega
      have hb3 := hb.out
      rw [List.take_of_length_le (by have := HN.out; omega)] at hb3
      have HS := Lib.hid (string_b w.heap.size w.heap.size _ wr hb3 hext.out.size)
      clear hb3
      go_wp2_with (go_at_call 49; refine (HS.out).mono ?_; rintro e w2 ⟨rfl, x2⟩; have X2 := Lib.hid x2; clear x2)
      go_ret
      exact ⟨rfl, hext.out.trans3 X2.out⟩
theorem Uints_any (w : World) (p : Option Addr) (c n : Nat) (l : List Nat) (hn : l.length = n) (h : ValsP w p (vU l)) (hx : ∀ x ∈ l, x < 18446744073709551616) (hlen : (l.flatMap wn).length ≤ 1000000) (hn6 : n ≤ 1000000) :
    Calls Try.prog 12 #[.slice p n c] w fun e w' => e = .returned (.string ⟨(l.flatMap wn).toArray⟩) ∧ Ext w w' := by
  have HH := Lib.hid (bytesU_any w p c n l hn h hx hlen hn6)
  clear h hx hlen hn
  go_enter Try.func12, Try.ntmps12
  go_wp2_with (go_at_call 29; refine (HH.out).mono ?_; rintro e w2 ⟨rfl, x2⟩; have X2 := Lib.hid x2; clear x2)
  go_ret
  exact ⟨rfl, X2.out⟩

set_option maxRecDepth 100000 in
set_option maxHeartbeats 1000000 in
theorem bytesI_any (w : World) (p : Option Addr) (c n : Nat) (l : List Int) (hn : l.length = n) (h : ValsP w p (vI l)) (hx : ∀ x ∈ l, -9223372036854775808 ≤ x ∧ x ≤ 9223372036854775807) (hlen : (l.flatMap (fun n => wn (zig n))).length ≤ 1000000) (hn6 : n ≤ 1000000) :
    Calls Try.prog 31 #[.slice p n c, .func (.func 32) #[] #[]] w fun e w' => e = .returned (.string ⟨(l.flatMap (fun n => wn (zig n))).toArray⟩) ∧ Ext w w' := by
  have HH := Lib.hid (fun u (hu : Ext w u) => h.ext hu)
  have HT := Lib.hid (fun j => Nat.le_trans (flat_take_le (fun n => wn (zig n)) l j) hlen)
  have HX := Lib.hid hx
  have HN := Lib.hid hn
  have HP : Hid (∀ (x : Int), x ∈ l → ∀ u z, IsB u w.heap.size w.heap.size z → z.length ≤ 1000000 → w.heap.size ≤ u.heap.size → Calls Try.prog 32 #[.pointer (some ⟨w.heap.size, 0, none⟩), .int .i64 x] u fun e w' => e = .returned (.tuple #[]) ∧ IsB w' w.heap.size w.heap.size (z ++ (fun n => wn (zig n)) x) ∧ Below w.heap.size u w') := Lib.hid (fun x hxl u z hB hL hS => by
    have hx := HX.out x hxl
    exact putInt_any w.heap.size w.heap.size _ x hx.1 hx.2 _ hB hL hS)
  have HI := Lib.hid (IsB.new w w.heap.size (Nat.le_refl _))
  have HX0 := Lib.hid ((Ext.refl w).alloc (.cells #[.pointer none, .slice none 0 0] 75))
  clear h hx hlen hn
  go_enter Try.func31, Try.ntmps31
  go_wp2
  go_loopw [10] (fun i wr => ∃ j : Nat, j ≤ n ∧ i = .int .i64 (j : Int) ∧ Hid (IsB wr w.heap.size w.heap.size ((l.take j).flatMap (fun n => wn (zig n)))) ∧ Hid (Ext w wr)) (fun i _ => n - (intOf i).toNat)
  case atStart => exact ⟨0, Nat.zero_le _, rfl, Lib.hid HI.out, HX0⟩
  case round =>
    obtain ⟨j, hj, rfl, hb, hext⟩ := hrel
    by_cases hlt : j < n
    · obtain ⟨x, hs⟩ : ∃ x, l[j]? = some x := ⟨_, List.getElem?_eq_getElem (by have := HN.out; omega)⟩
      obtain ⟨a, rfl, _, hc1⟩ := HH.out _ hext.out j _ (vI_get hs)
      have HF := Lib.hid (flat_take (fun n => wn (zig n)) l j x hs)
      have HPx := Lib.hid (HP.out x (List.mem_of_getElem? hs) wr _ hb.out (HT.out j) hext.out.size)
      clear hs
      go_wp2_with (go_at_call 32; refine (HPx.out).mono ?_; rintro e w2 ⟨rfl, hb2, x2⟩; have HB2 := Lib.hid hb2; have X2 := Lib.hid x2; clear hb2 x2)
      go_roundw
      case rel => exact ⟨j + 1, hlt, by go_num, Lib.hid (by rw [HF.out]; exact HB2.out), Lib.hid (hext.out.trans3 X2.out)⟩
      case measure => simp [intOf]; omega
    · obtain rfl : j = n := by omega
      have hb3 := hb.out
      rw [List.take_of_length_le (by have := HN.out; omega)] at hb3
      have HS := Lib.hid (string_b w.heap.size w.heap.size _ wr hb3 hext.out.size)
      clear hb3
      go_wp2_with (go_at_call 49; refine (HS.out).mono ?_; rintro e w2 ⟨rfl, x2⟩; have X2 := Lib.hid x2; clear x2)
      go_ret
      exact ⟨rfl, hext.out.trans3 X2.out⟩
theorem Ints_any (w : World) (p : Option Addr) (c n : Nat) (l : List Int) (hn : l.length = n) (h : ValsP w p (vI l)) (hx : ∀ x ∈ l, -9223372036854775808 ≤ x ∧ x ≤ 9223372036854775807) (hlen : (l.flatMap (fun n => wn (zig n))).length ≤ 1000000) (hn6 : n ≤ 1000000) :
    Calls Try.prog 13 #[.slice p n c] w fun e w' => e = .returned (.string ⟨(l.flatMap (fun n => wn (zig n))).toArray⟩) ∧ Ext w w' := by
  have HH := Lib.hid (bytesI_any w p c n l hn h hx hlen hn6)
  clear h hx hlen hn
  go_enter Try.func13, Try.ntmps13
  go_wp2_with (go_at_call 31; refine (HH.out).mono ?_; rintro e w2 ⟨rfl, x2⟩; have X2 := Lib.hid x2; clear x2)
  go_ret
  exact ⟨rfl, X2.out⟩

set_option maxRecDepth 100000 in
set_option maxHeartbeats 1000000 in
theorem bytesS_any (w : World) (p : Option Addr) (c n : Nat) (l : List ByteArray) (hn : l.length = n) (h : ValsP w p (vS l)) (hx : ∀ x ∈ l, x.size ≤ 1000000) (hlen : (l.flatMap wt).length ≤ 1000000) (hn6 : n ≤ 1000000) :
    Calls Try.prog 33 #[.slice p n c, .func (.func 34) #[] #[]] w fun e w' => e = .returned (.string ⟨(l.flatMap wt).toArray⟩) ∧ Ext w w' := by
  have HH := Lib.hid (fun u (hu : Ext w u) => h.ext hu)
  have HT := Lib.hid (fun j => Nat.le_trans (flat_take_le wt l j) hlen)
  have HX := Lib.hid hx
  have HN := Lib.hid hn
  have HP : Hid (∀ (x : ByteArray), x ∈ l → ∀ u z, IsB u w.heap.size w.heap.size z → z.length ≤ 1000000 → w.heap.size ≤ u.heap.size → Calls Try.prog 34 #[.pointer (some ⟨w.heap.size, 0, none⟩), .string x] u fun e w' => e = .returned (.tuple #[]) ∧ IsB w' w.heap.size w.heap.size (z ++ wt x) ∧ Below w.heap.size u w') := Lib.hid (fun x hxl u z hB hL hS => by
    have hx := HX.out x hxl
    exact putText_any w.heap.size w.heap.size _ x hx _ hB hL hS)
  have HI := Lib.hid (IsB.new w w.heap.size (Nat.le_refl _))
  have HX0 := Lib.hid ((Ext.refl w).alloc (.cells #[.pointer none, .slice none 0 0] 75))
  clear h hx hlen hn
  go_enter Try.func33, Try.ntmps33
  go_wp2
  go_loopw [10] (fun i wr => ∃ j : Nat, j ≤ n ∧ i = .int .i64 (j : Int) ∧ Hid (IsB wr w.heap.size w.heap.size ((l.take j).flatMap wt)) ∧ Hid (Ext w wr)) (fun i _ => n - (intOf i).toNat)
  case atStart => exact ⟨0, Nat.zero_le _, rfl, Lib.hid HI.out, HX0⟩
  case round =>
    obtain ⟨j, hj, rfl, hb, hext⟩ := hrel
    by_cases hlt : j < n
    · obtain ⟨x, hs⟩ : ∃ x, l[j]? = some x := ⟨_, List.getElem?_eq_getElem (by have := HN.out; omega)⟩
      obtain ⟨a, rfl, _, hc1⟩ := HH.out _ hext.out j _ (vS_get hs)
      have HF := Lib.hid (flat_take wt l j x hs)
      have HPx := Lib.hid (HP.out x (List.mem_of_getElem? hs) wr _ hb.out (HT.out j) hext.out.size)
      clear hs
      go_wp2_with (go_at_call 34; refine (HPx.out).mono ?_; rintro e w2 ⟨rfl, hb2, x2⟩; have HB2 := Lib.hid hb2; have X2 := Lib.hid x2; clear hb2 x2)
      go_roundw
      case rel => exact ⟨j + 1, hlt, by go_num, Lib.hid (by rw [HF.out]; exact HB2.out), Lib.hid (hext.out.trans3 X2.out)⟩
      case measure => simp [intOf]; omega
    · obtain rfl : j = n := by omega
      have hb3 := hb.out
      rw [List.take_of_length_le (by have := HN.out; omega)] at hb3
      have HS := Lib.hid (string_b w.heap.size w.heap.size _ wr hb3 hext.out.size)
      clear hb3
      go_wp2_with (go_at_call 49; refine (HS.out).mono ?_; rintro e w2 ⟨rfl, x2⟩; have X2 := Lib.hid x2; clear x2)
      go_ret
      exact ⟨rfl, hext.out.trans3 X2.out⟩
theorem Texts_any (w : World) (p : Option Addr) (c n : Nat) (l : List ByteArray) (hn : l.length = n) (h : ValsP w p (vS l)) (hx : ∀ x ∈ l, x.size ≤ 1000000) (hlen : (l.flatMap wt).length ≤ 1000000) (hn6 : n ≤ 1000000) :
    Calls Try.prog 14 #[.slice p n c] w fun e w' => e = .returned (.string ⟨(l.flatMap wt).toArray⟩) ∧ Ext w w' := by
  have HH := Lib.hid (bytesS_any w p c n l hn h hx hlen hn6)
  clear h hx hlen hn
  go_enter Try.func14, Try.ntmps14
  go_wp2_with (go_at_call 33; refine (HH.out).mono ?_; rintro e w2 ⟨rfl, x2⟩; have X2 := Lib.hid x2; clear x2)
  go_ret
  exact ⟨rfl, X2.out⟩

set_option maxRecDepth 100000 in
set_option maxHeartbeats 1000000 in
theorem bytesB_any (w : World) (p : Option Addr) (c n : Nat) (l : List Bool) (hn : l.length = n) (h : ValsP w p (vB l)) (hx : ∀ x ∈ l, True) (hlen : (l.flatMap wb).length ≤ 1000000) (hn6 : n ≤ 1000000) :
    Calls Try.prog 35 #[.slice p n c, .func (.func 36) #[] #[]] w fun e w' => e = .returned (.string ⟨(l.flatMap wb).toArray⟩) ∧ Ext w w' := by
  have HH := Lib.hid (fun u (hu : Ext w u) => h.ext hu)
  have HT := Lib.hid (fun j => Nat.le_trans (flat_take_le wb l j) hlen)
  have HX := Lib.hid hx
  have HN := Lib.hid hn
  have HP : Hid (∀ (x : Bool), x ∈ l → ∀ u z, IsB u w.heap.size w.heap.size z → z.length ≤ 1000000 → w.heap.size ≤ u.heap.size → Calls Try.prog 36 #[.pointer (some ⟨w.heap.size, 0, none⟩), .bool x] u fun e w' => e = .returned (.tuple #[]) ∧ IsB w' w.heap.size w.heap.size (z ++ wb x) ∧ Below w.heap.size u w') := Lib.hid (fun x hxl u z hB hL hS => by
    have hx := HX.out x hxl
    exact putBool_any w.heap.size w.heap.size _ x _ hB hL hS)
  have HI := Lib.hid (IsB.new w w.heap.size (Nat.le_refl _))
  have HX0 := Lib.hid ((Ext.refl w).alloc (.cells #[.pointer none, .slice none 0 0] 75))
  clear h hx hlen hn
  go_enter Try.func35, Try.ntmps35
  go_wp2
  go_loopw [10] (fun i wr => ∃ j : Nat, j ≤ n ∧ i = .int .i64 (j : Int) ∧ Hid (IsB wr w.heap.size w.heap.size ((l.take j).flatMap wb)) ∧ Hid (Ext w wr)) (fun i _ => n - (intOf i).toNat)
  case atStart => exact ⟨0, Nat.zero_le _, rfl, Lib.hid HI.out, HX0⟩
  case round =>
    obtain ⟨j, hj, rfl, hb, hext⟩ := hrel
    by_cases hlt : j < n
    · obtain ⟨x, hs⟩ : ∃ x, l[j]? = some x := ⟨_, List.getElem?_eq_getElem (by have := HN.out; omega)⟩
      obtain ⟨a, rfl, _, hc1⟩ := HH.out _ hext.out j _ (vB_get hs)
      have HF := Lib.hid (flat_take wb l j x hs)
      have HPx := Lib.hid (HP.out x (List.mem_of_getElem? hs) wr _ hb.out (HT.out j) hext.out.size)
      clear hs
      go_wp2_with (go_at_call 36; refine (HPx.out).mono ?_; rintro e w2 ⟨rfl, hb2, x2⟩; have HB2 := Lib.hid hb2; have X2 := Lib.hid x2; clear hb2 x2)
      go_roundw
      case rel => exact ⟨j + 1, hlt, by go_num, Lib.hid (by rw [HF.out]; exact HB2.out), Lib.hid (hext.out.trans3 X2.out)⟩
      case measure => simp [intOf]; omega
    · obtain rfl : j = n := by omega
      have hb3 := hb.out
      rw [List.take_of_length_le (by have := HN.out; omega)] at hb3
      have HS := Lib.hid (string_b w.heap.size w.heap.size _ wr hb3 hext.out.size)
      clear hb3
      go_wp2_with (go_at_call 49; refine (HS.out).mono ?_; rintro e w2 ⟨rfl, x2⟩; have X2 := Lib.hid x2; clear x2)
      go_ret
      exact ⟨rfl, hext.out.trans3 X2.out⟩
theorem Bools_any (w : World) (p : Option Addr) (c n : Nat) (l : List Bool) (hn : l.length = n) (h : ValsP w p (vB l)) (hx : ∀ x ∈ l, True) (hlen : (l.flatMap wb).length ≤ 1000000) (hn6 : n ≤ 1000000) :
    Calls Try.prog 15 #[.slice p n c] w fun e w' => e = .returned (.string ⟨(l.flatMap wb).toArray⟩) ∧ Ext w w' := by
  have HH := Lib.hid (bytesB_any w p c n l hn h hx hlen hn6)
  clear h hx hlen hn
  go_enter Try.func15, Try.ntmps15
  go_wp2_with (go_at_call 35; refine (HH.out).mono ?_; rintro e w2 ⟨rfl, x2⟩; have X2 := Lib.hid x2; clear x2)
  go_ret
  exact ⟨rfl, X2.out⟩

set_option maxRecDepth 100000 in
set_option maxHeartbeats 1000000 in
theorem List_any (w : World) (p : Option Addr) (c n : Nat) (l : List ByteArray) (hn : l.length = n) (h : ValsP w p (vS l)) (hx : ∀ x ∈ l, x.size ≤ 1000000) (hlen : (l.flatMap wt).length ≤ 1000000) (hn6 : n ≤ 1000000) :
    Calls Try.prog 16 #[.slice p n c] w fun e w' => e = .returned (.string ⟨(wl l).toArray⟩) ∧ Ext w w' := by
  have hb := Blk.new w [.int .u64 (n : Int)] 29
  have HU := Lib.hid (Uints_any _ (some ⟨w.heap.size, 0, none⟩) 1 1 [n] rfl (Blk.vals (l := vU [n]) hb) (by simp; omega) (by have := wn_length n; simp; omega) (by omega))
  have HT := Lib.hid (fun u (hu : Ext w u) => Texts_any u p c n l hn (h.ext hu) hx hlen hn6)
  have hw : wn n ++ l.flatMap wt = wl l := by rw [← hn]; rfl
  have hs := str_append (wn n) (l.flatMap wt)
  rw [hw] at hs
  have hfl : [n].flatMap wn = wn n := by simp
  rw [hfl] at HU
  have h1 : (⟨(wn n).toArray⟩ : ByteArray).size ≤ 10 := by rw [txt_size]; exact (wn_length n).2
  have h2 : (⟨(l.flatMap wt).toArray⟩ : ByteArray).size ≤ 1000000 := by rw [txt_size]; exact hlen
  have HX0 := Lib.hid ((Ext.refl w).alloc (.cells #[.int .u64 (n : Int)] 29))
  clear h hx hlen hn hb hw hfl
  generalize (⟨(wl l).toArray⟩ : ByteArray) = L at *
  generalize (⟨(wn n).toArray⟩ : ByteArray) = A at *
  generalize (⟨(l.flatMap wt).toArray⟩ : ByteArray) = B at *
  go_enter Try.func16, Try.ntmps16
  go_wp2_with (first
    | (go_at_call 12; refine (HU.out).mono ?_; rintro e w2 ⟨rfl, x2⟩; have X2 := Lib.hid (HX0.out.trans x2); clear x2)
    | (go_at_call 14; refine (HT.out _ X2.out).mono ?_; rintro e w3 ⟨rfl, x3⟩; have X3 := Lib.hid (X2.out.trans x3); clear x3))
  go_ret
  exact ⟨rfl, X3.out⟩
end Go.Proofs.Ytcmmcaoidmldkaa