/- Contracts: keys by epochs: Read of any bytes: by the program. Contracts: a barrier's header, by the program: made, told from other bytes, opened. Contracts: the shares of a secret, by the program. Contracts: a barrier, by the program: begun; loaded; shut; what it tells. -/
import Derived.Test.YtcjdnifckngcfaaGreatDoorM41
import Derived.Test.YtcjdnifckngcfaaGreatDoorM34
import Derived.Test.YtcjdnifckngcfaaGreatDoorM39
import Derived.StillTailTactics
import Derived.Deep.RegionLaw
section
namespace Go.Proofs.YtcjdnifckngcfaaGreatDoor
open Go.RowKit

/-- So many rows of bytes. -/
def rowsOf : Nat → List UInt8 → List (Nat × ByteArray)
  | 0, _ => []
  | n + 1, l => (num (l.take 4), ⟨((l.drop 4).take 32).toArray⟩) :: rowsOf n (l.drop 36)
theorem rowsOf_length : ∀ (n : Nat) (l : List UInt8), (rowsOf n l).length = n
  | 0, _ => rfl
  | n + 1, l => by rw [rowsOf, List.length_cons, rowsOf_length n]
theorem rowsL_rowsOf : ∀ (n : Nat) (l : List UInt8), l.length = 36 * n → rowsL (rowsOf n l) = l
  | 0, l, h => by
    have : l = [] := List.length_eq_zero_iff.1 (by omega)
    subst this
    rfl
  | n + 1, l, h => by
    rw [rowsOf, rowsL, rowsL_rowsOf n (l.drop 36) (by rw [List.length_drop]; omega)]
    have h4 : be 4 (num (l.take 4)) = l.take 4 := be_num _ 4 (by rw [List.length_take]; omega)
    simp only [h4]
    have e : l.drop 36 = (l.drop 4).drop 32 := by rw [List.drop_drop]
    rw [e, List.append_assoc, List.take_append_drop, List.take_append_drop]
theorem rowsOf_each : ∀ (n : Nat) (l : List UInt8), l.length = 36 * n → ∀ x ∈ rowsOf n l, x.1 < 4294967296 ∧ x.2.size = 32
  | 0, _, _, x, hx => by cases hx
  | n + 1, l, h, x, hx => by
    rw [rowsOf] at hx
    rcases List.mem_cons.1 hx with rfl | hx
    · refine ⟨num_lt 4 _ (by rw [List.length_take]; omega), ?_⟩
      show ByteArray.size ⟨((l.drop 4).take 32).toArray⟩ = 32
      rw [txt_size, List.length_take, List.length_drop]
      omega
    · exact rowsOf_each n (l.drop 36) (by rw [List.length_drop]; omega) x hx
/-- The count of a text fits. -/
def Counted (s : ByteArray) : Prop := ∃ (b : UInt8) (l : List UInt8), s.data.toList = b :: l ∧ 1 ≤ b.toNat ∧ b.toNat ≤ 64 ∧ l.length = 36 * b.toNat
theorem count_no (s : ByteArray) (h : ¬ Counted s) (hz : s.size ≤ 140737488351232) (w : World) :
    Calls Tryz.prog 147 #[.string s] w fun e w' => e = .returned (.tuple #[.int .i64 0, .bool false]) ∧ w = w' := by
  have hls : s.toList.length = s.size := by rw [ByteArray.toList_eq, size_list]
  by_cases h0 : 0 < s.size
  · have hemp : s.toList.isEmpty = false := by
      cases hq : s.toList with
      | nil => rw [hq] at hls; simp at hls; omega
      | cons => rfl
    have h0i : (0 : Int) < (s.size : Int) := by omega
    have hb256 := UInt8.toNat_lt s[0]
    have hcase : s[0].toNat < 1 ∨ 64 < s[0].toNat ∨ ¬ s.size = 1 + s[0].toNat * 36 := by
      rcases Nat.lt_or_ge s[0].toNat 1 with q | q1
      · exact .inl q
      · rcases Nat.lt_or_ge 64 s[0].toNat with q | q2
        · exact .inr (.inl q)
        · refine .inr (.inr fun q3 => h ⟨s[0], s.data.toList.tail, ?_, q1, q2, ?_⟩)
          · cases hd : s.data.toList with
            | nil => have := size_list s; rw [hd] at this; simp at this; omega
            | cons x r =>
              have := text_at s 0 x (by rw [hd]; rfl) h0
              rw [this]
              rfl
          · rw [List.length_tail, size_list]; omega
    obtain ⟨n, hb⟩ : ∃ n, s[0].toNat = n := ⟨_, rfl⟩
    have hw : wrap64 (s[0].toNat : Int) = (n : Int) := by rw [hb]; simp [wrap64]; omega
    rw [hb] at hcase hb256
    have HC := Lib.hid hcase
    clear hcase h hls hb
    go_enter Tryz.func147, Tryz.ntmps147
    by_cases h1 : n < 1
    · have h1i : (n : Int) < 1 := by omega
      go_wp2
      go_ret2
      exact ⟨rfl, rfl⟩
    · have h1i : ¬ (n : Int) < 1 := by omega
      by_cases h2 : 64 < n
      · have h2i : (64 : Int) < (n : Int) := by omega
        go_wp2
        go_ret2
        exact ⟨rfl, rfl⟩
      · have h2i : ¬ (64 : Int) < (n : Int) := by omega
        have h3 : ¬ (s.size : Int) = 1 + (n : Int) * 36 := by have := HC.out; omega
        have h3b : ((s.size : Int) != 1 + (n : Int) * 36) = true := by simpa using h3
        go_wp2
        go_ret2
        exact ⟨rfl, rfl⟩
  · have hemp : s.toList.isEmpty = true := by
      cases hq : s.toList with
      | nil => rfl
      | cons => rw [hq] at hls; simp at hls; omega
    clear h hls
    go_enter Tryz.func147, Tryz.ntmps147
    go_wp2
    go_ret2
    exact ⟨rfl, rfl⟩
theorem read_no (s : ByteArray) (h : ¬ Counted s) (hz : s.size ≤ 140737488351232) (w : World) :
    Calls Tryz.prog 125 #[.string s] w fun e w' => e = .returned (.tuple #[.pointer none, .int .i64 7]) ∧ w = w' := by
  have HC := Lib.hid (fun u => count_no s h hz u)
  clear h hz
  go_enter Tryz.func125, Tryz.ntmps125
  go_wp2_with (go_at_call 147; refine (HC.out _).mono ?_; rintro e w1 ⟨rfl, rfl⟩)
  go_ret2
  exact ⟨rfl, rfl⟩
/-- A text whose count fits is that of its rows. -/
theorem counted_rows {s : ByteArray} (h : Counted s) : ∃ L, RowsOk L ∧ s = ⟨(ringL L).toArray⟩ := by
  obtain ⟨b, l, hs, h1, h2, h3⟩ := h
  refine ⟨rowsOf b.toNat l, ⟨by rw [rowsOf_length]; exact h1, by rw [rowsOf_length]; exact h2, rowsOf_each _ _ h3⟩, ?_⟩
  apply ByteArray.ext
  apply Array.toList_inj.1
  rw [hs, ringL, rowsOf_length, rowsL_rowsOf _ _ h3]
  simp
end Go.Proofs.YtcjdnifckngcfaaGreatDoor
end

section
namespace Go.Proofs.YtcjdnifckngcfaaGreatDoor
open Go.RowKit
attribute [local irreducible] rkey expand enc dec ctrB ctrC ctrL xorL turnL turnT kd t4 t8 env5 chk tagT sealT ringL hdT

theorem bsharesOf_any (n : Nat) (E : ByteArray) (hn : n < 256) (w : World) :
    Calls Tryz.prog 56 #[.string (hdT n E)] w fun e w' => e = .returned (.int .i64 (n : Int)) ∧ w = w' := by
  have h1 := fun u => hdT_index n E hn u
  have hz : 0 < (hdT n E).size := by rw [hdT_size]; omega
  have hzi : (0 : Int) < ((hdT n E).size : Int) := by omega
  generalize hdT n E = H at *
  go_enter Tryz.func56, Tryz.ntmps56
  go_wp2
  go_ret
  exact ⟨rfl, rfl⟩
theorem byte_text (n : Nat) (hn : n < 256) (t : TypeId) (u : World) : (convert 43 9 (.slice (some ⟨u.heap.size, 0, none⟩) 1 1)).run Tryz.prog (u.alloc (.cells #[.int .u8 (n : Int)] t)) = .ok (.string ⟨#[UInt8.ofNat n]⟩) (u.alloc (.cells #[.int .u8 (n : Int)] t)) :=
  one_text2 (n : Int) (UInt8.ofNat n) (by rw [UInt8.toNat_ofNat', Nat.mod_eq_of_lt hn]) t u
theorem bheaderOf_any (w : World) (r1 k1 r2 k2 : Nat) (root : ByteArray) (K : List (Nat × ByteArray)) (hL : Laid w) (h1 : IsK w r1 k1 [(1, root)]) (h2 : IsK w r2 k2 K) (n : Nat) (hn : n < 256) (nonce : ByteArray) (hz : nonce.size = 12) :
    Calls Tryz.prog 40 #[.int .i64 (n : Int), .pointer (some ⟨r1, 0, none⟩), .pointer (some ⟨r2, 0, none⟩), .string nonce] w fun e w' => e = .returned (.string (hdOf root n nonce K)) ∧ Ext w w' := by
  have HB := Lib.hid (bytes_any w r2 k2 K h2)
  have hrl := ringB_le h2.good
  have HC := Lib.hid (fun u (hx : Ext w u) => by
    have := close_yes u r1 k1 _ (hL.ext hx) (h1.ext hx) root (by rw [top_one1]; simp) pathB n nonce (ringB K) hz (by decide) (by omega)
    rw [top_one1] at this
    exact this)
  have hcv := fun t u => byte_text n hn t u
  have hcat := hdT_cat n (sealT root 1 pathB n nonce (ringB K))
  have hw8 : IntKind.u8.wrap (n : Int) = (n : Int) := IntWalk.u8_in _ ⟨by omega, by omega⟩
  have hw64 : IntKind.u64.wrap (n : Int) = (n : Int) := IntWalk.u64_in _ ⟨by omega, by omega⟩
  have hs := envOf_size h2.good root n nonce hz
  have h64 := h2.good.few
  have hsz : (sealT root 1 pathB n nonce (ringB K)).size ≤ 3000 := by unfold envOf at hs; omega
  unfold hdOf envOf
  unfold ringB at HC hcat hsz ⊢
  clear hL h1 h2 hrl hs h64
  generalize sealT root 1 pathB n nonce ⟨(ringL K).toArray⟩ = E at *
  generalize (⟨(ringL K).toArray⟩ : ByteArray) = RB at *
  unfold pathB at HC
  go_enter Tryz.func40, Tryz.ntmps40
  go_wp2_with (first
    | (go_at_call 74; refine (HB.out).mono ?_; rintro e w1 ⟨rfl, x1⟩)
    | (go_at_call 42; refine (HC.out _ x1).mono ?_; rintro e w2 ⟨rfl, x2⟩))
  go_ret
  exact ⟨rfl, (x1.trans x2).alloc _⟩
end Go.Proofs.YtcjdnifckngcfaaGreatDoor
end

section
namespace Go.Proofs.YtcjdnifckngcfaaGreatDoor
open Go.RowKit
attribute [local irreducible] xorL xorAll

theorem split_arg (w : World) (secret : ByteArray) (p : Option Addr) (n c : Nat) (h : secret.size < 1 ∨ 64 < secret.size ∨ 16 ≤ n) (hn : n ≤ 1000000) (hs : secret.size ≤ 1048576) :
    Calls Tryz.prog 38 #[.string secret, .slice p n c] w fun e w' => e = .returned (.tuple #[.slice none 0 0, .int .i64 2]) ∧ w = w' := by
  have hcase : (secret.size : Int) < 1 ∨ (¬ (secret.size : Int) < 1 ∧ (64 : Int) < (secret.size : Int)) ∨ (¬ (secret.size : Int) < 1 ∧ ¬ (64 : Int) < (secret.size : Int) ∧ (16 : Int) ≤ (n : Int)) := by omega
  clear h
  go_enter Tryz.func38, Tryz.ntmps38
  rcases hcase with q | ⟨q1, q2⟩ | ⟨q1, q2, q3⟩
  all_goals
    go_wp2
    go_ret2
    exact ⟨rfl, rfl⟩
theorem split_no (w : World) (secret : ByteArray) (p : Option Addr) (c : Nat) (l : List ByteArray) (h1 : 1 ≤ secret.size) (h2 : secret.size ≤ 64) (h3 : l.length < 16) (h : TextsP w p l) (k : Nat) (t : ByteArray) (hk : l[k]? = some t) (ht : ¬ t.size = secret.size) (hl : ∀ (i : Nat) (s : ByteArray), i < k → l[i]? = some s → s.size = secret.size) :
    Calls Tryz.prog 38 #[.string secret, .slice p l.length c] w fun e w' => e = .returned (.tuple #[.slice none 0 0, .int .i64 2]) ∧ Ext w w' := by
  have HM := Lib.hid (mixed_no w secret p c l (by omega) (by omega) h k t hk ht hl)
  clear h hk ht hl
  go_enter Tryz.func38, Tryz.ntmps38
  go_wp2_with (go_at_call 71; refine (HM.out).mono ?_; rintro e w1 ⟨rfl, x1⟩)
  go_ret2
  exact ⟨rfl, x1⟩
set_option maxRecDepth 100000 in
set_option maxHeartbeats 4000000 in
theorem split_yes (w : World) (secret : ByteArray) (p : Option Addr) (c : Nat) (l : List ByteArray) (h1 : 1 ≤ secret.size) (h2 : secret.size ≤ 64) (h3 : l.length < 16) (h : TextsP w p l) (hl : ∀ s, s ∈ l → s.size = secret.size) :
    Calls Tryz.prog 38 #[.string secret, .slice p l.length c] w fun e w' => ∃ v, e = .returned (.tuple #[v, .int .i64 0]) ∧ BufS w' w.heap.size v (splitT secret l) ∧ Ext w w' := by
  have HH := Lib.hid (fun u (hu : Ext w u) => h.ext hu)
  have HS := Lib.hid (sharesT_take (l.length + 1) l)
  have HSl := Lib.hid (sharesT_length (l.length + 1) l)
  have HM := Lib.hid (mixed_yes w secret p c l (by omega) (by omega) h hl)
  have hxl := xorAll_length (n := secret.size) l secret.data.toList (size_list _) hl
  have hmk := make_texts (l.length + 1) (by omega)
  have ek : ((l.length + 1 : Nat) : Int) = (l.length : Int) + 1 := by omega
  rw [ek] at hmk
  obtain ⟨C, hC⟩ : ∃ C, madeCells #[Value.string ⟨#[]⟩] (l.length + 1) = C := ⟨_, rfl⟩
  rw [hC] at hmk
  have HMade := Lib.hid (fun u (hu : w.heap.size ≤ u.heap.size) => BufS.made u (l.length + 1) (by unfold maxLen; omega) hu)
  rw [hC] at HMade
  have HSB := Lib.hid (fun u (i : Nat) (s : ByteArray) (hi : i < 255) (hs : s.size ≤ 64) => shareBytes_any (i + 1) (l.length + 1) s (by omega) (by omega) (by omega) u)
  rw [ek] at HSB
  have HSL : Hid (splitT secret l = sharesT (l.length + 1) l ++ [shareT (l.length + 1) (l.length + 1) ⟨(xorAll secret.data.toList l).toArray⟩]) := Lib.hid rfl
  have HLS : Hid ((⟨(xorAll secret.data.toList l).toArray⟩ : ByteArray).size ≤ 64) := Lib.hid (by rw [txt_size, hxl]; exact h2)
  generalize (⟨(xorAll secret.data.toList l).toArray⟩ : ByteArray) = L0 at *
  clear h hC ek hxl
  go_enter Tryz.func38, Tryz.ntmps38
  go_wp2_with (go_at_call 71; refine (HM.out).mono ?_; rintro e w1 ⟨rfl, x1⟩)
  have HX1 := Lib.hid (x1.alloc (.cells C 9))
  have HB0 : Hid (BufS (w1.alloc (.cells C 9)) w.heap.size (.slice (some ⟨w1.heap.size, 0, none⟩) 0 (l.length + 1)) []) := Lib.hid (HMade.out w1 x1.size)
  clear x1
  go_loopw [9, 40] (fun v i wr => ∃ j : Nat, j ≤ l.length ∧ i = .int .i64 (j : Int) ∧ BufS wr w.heap.size v ((sharesT (l.length + 1) l).take j) ∧ Ext w wr) (fun _ i _ => l.length - (intOf i).toNat)
  case atStart => exact ⟨0, Nat.zero_le _, rfl, by rw [List.take_zero]; exact HB0.out, HX1.out⟩
  case round =>
    obtain ⟨j, hj, rfl, hb, hext⟩ := hrel
    have HB := Lib.hid hb; have HE := Lib.hid hext
    by_cases hlt : j < l.length
    · obtain ⟨s, hs⟩ : ∃ s, l[j]? = some s := ⟨_, List.getElem?_eq_getElem hlt⟩
      obtain ⟨a, rfl, hab, hc1⟩ := HH.out _ hext j s hs
      have hsz : s.size = secret.size := hl s (List.mem_of_getElem? hs)
      have HSj := Lib.hid (HS.out j s hs)
      have HC := Lib.hid (fun u => HSB.out u j s (by omega) (by omega))
      rw [show ((j + 1 : Nat) : Int) = (j : Int) + 1 by omega] at HC
      have HLe : Hid (((sharesT (l.length + 1) l).take j).length ≤ 1000000) := Lib.hid (by rw [List.length_take]; omega)
      clear hb hext hs hsz hab
      generalize shareT (j + 1) (l.length + 1) s = T at *
      go_wp2_with (first
        | (go_at_call 72; refine (HC.out _).mono ?_; rintro e w2 ⟨rfl, x2⟩; have HX3 := Lib.hid (x2.alloc (.cells #[.string T] 9)))
        | (at_builtin; refine append_text rfl (.tmp 45) (.tmp 51) rfl w.heap.size _ _ rfl (HB.out.ext HX3.out) w2.heap.size T rfl ((Blk.new w2 [.string T] 9).cell 0 _ rfl) HLe.out (HE.out.trans HX3.out).size ?_; intro v1 w3 hb1 hx4; have x5 : Ext w w3 := Below.trans (HE.out.trans HX3.out) hx4))
      go_roundw
      case rel => exact ⟨j + 1, hlt, by go_num, by rw [HSj.out]; exact hb1, x5⟩
      case measure => simp [intOf]; omega
    · obtain rfl : j = l.length := by omega
      have hB2 := HB.out
      rw [List.take_of_length_le (by rw [HSl.out]; exact Nat.le_refl _)] at hB2
      have HB2 := Lib.hid hB2
      have HC := Lib.hid (fun u => HSB.out u l.length L0 (by omega) HLS.out)
      rw [show ((l.length + 1 : Nat) : Int) = (l.length : Int) + 1 by omega] at HC
      have HLe : Hid ((sharesT (l.length + 1) l).length ≤ 1000000) := Lib.hid (by rw [HSl.out]; omega)
      clear hb hext hB2
      generalize sharesT (l.length + 1) l = ST at *
      generalize shareT (l.length + 1) (l.length + 1) L0 = T at *
      go_wp2_with (first
        | (go_at_call 72; refine (HC.out _).mono ?_; rintro e w2 ⟨rfl, x2⟩; have HX3 := Lib.hid (x2.alloc (.cells #[.string T] 9)))
        | (at_builtin; refine append_text rfl (.tmp 54) (.tmp 59) rfl w.heap.size _ _ rfl (HB2.out.ext HX3.out) w2.heap.size T rfl ((Blk.new w2 [.string T] 9).cell 0 _ rfl) HLe.out (HE.out.trans HX3.out).size ?_; intro v1 w3 hb1 hx4; have x5 : Ext w w3 := Below.trans (HE.out.trans HX3.out) hx4))
      go_ret2
      exact ⟨v1, rfl, by rw [HSL.out]; exact hb1, x5⟩
end Go.Proofs.YtcjdnifckngcfaaGreatDoor
end

section
namespace Go.Proofs.YtcjdnifckngcfaaGreatDoor
open Go.RowKit
attribute [local irreducible] rkey expand enc dec ctrB ctrC ctrL xorL xorAll turnL turnT kd t4 t8 env5 chk tagT sealT ringL hdT envOf

theorem IsK.kept {w w' : World} {b : Nat} {T : TypeId} {cs : List Value} {i r k : Nat} {K : List (Nat × ByteArray)} {u : Value} (h : IsK w r k K) (hb : Blk w b T cs) (hT : T ≠ 112) (e : w' = w.setCell ⟨b, i, none⟩ u) : IsK w' r k K := by
  subst e
  have h1 : r ≠ b := fun q => by
    have h2 := h.ring
    unfold Blk at h2 hb
    rw [q, hb] at h2
    cases h2
    exact hT rfl
  have h3 : k ≠ b := fun q => by
    obtain ⟨es, c, h4⟩ := h.map.is
    unfold Blk at hb
    rw [q, hb] at h4
    cases h4
  exact ⟨(Below.heap_setCell _ _ _ _ h1).trans h.ring, h.map.same (Below.heap_setCell _ _ _ _ h3), h.good⟩
theorem IsG.kept {w w' : World} {b : Nat} {T : TypeId} {cs : List Value} {i g bm n m : Nat} {L : List (Nat × ByteArray)} {u : Value} (h : IsG w g bm n m L) (hb : Blk w b T cs) (hT : T ≠ 97) (e : w' = w.setCell ⟨b, i, none⟩ u) : IsG w' g bm n m L := by
  subst e
  have h1 : g ≠ b := fun q => by
    have h2 := h.blk
    unfold Blk at h2 hb
    rw [q, hb] at h2
    cases h2
    exact hT rfl
  have h3 : bm ≠ b := fun q => by
    obtain ⟨es, c, h4⟩ := h.map.is
    unfold Blk at hb
    rw [q, hb] at h4
    cases h4
  exact ⟨(Below.heap_setCell _ _ _ _ h1).trans h.blk, h.map.same (Below.heap_setCell _ _ _ _ h3), h.alike⟩
theorem Laid.drewL {w : World} (h : Laid w) : Laid w.drew := h.ext ((Ext.refl w).drew)
theorem Laid.turnP {B : Nat} {w w' : World} (h : Laid w) (t : TurnP B w w') (h2 : 2 ≤ B) : Laid w' := h.below t.below h2
theorem BufS.turnP {w w' : World} {A B : Nat} {v : Value} {l : List ByteArray} (h : BufS w A v l) (t : TurnP B w w') : BufS w' A v l := by
  refine ⟨h.1, ?_⟩
  rcases h.2 with h0 | ⟨g, cap, cur, e1, e2, e3, e4⟩
  · exact .inl h0
  · exact .inr ⟨g, cap, cur, e1, e2, t.keep _ _ e3 ⟨fun _ _ e => (by cases e), fun _ _ e => (by cases e)⟩, e4⟩
set_option maxRecDepth 100000 in
set_option maxHeartbeats 400000 in
theorem begin_yes (w : World) (B b : Nat) (hB2 : 2 ≤ B) (hL : Laid w) (h : IsP w B b .none) (root key nonce : ByteArray) (p : Option Addr) (c : Nat) (l : List ByteArray) (hr : root.size = 32) (hk : key.size = 32) (hz : nonce.size = 12) (h16 : l.length < 16) (hT : TextsP w p l) (hl : ∀ s, s ∈ l → s.size = root.size) :
    Calls Tryz.prog 13 #[.pointer (some ⟨b, 0, none⟩), .string root, .string key, .string nonce, .slice p l.length c] w fun e w' => (∃ q c', e = .returned (.tuple #[.slice q (l.length + 1) c', .int .i64 0]) ∧ BufS w' w.heap.size (.slice q (l.length + 1) c') (splitT root l)) ∧ IsP w' B b (.opened (l.length + 1) (envOf root (l.length + 1) nonce [(1, key)]) root [(1, key)]) ∧ TurnP B w w' := by
  have HIn := Lib.hid (bin_any w B b .none h 0 rfl)
  obtain ⟨g, bm, i⟩ := h
  have HSp := Lib.hid ((split_yes w root p c l (by omega) (by omega) h16 hT hl).mono fun e w' he => (show ∃ q c', e = .returned (.tuple #[.slice q (l.length + 1) c', .int .i64 0]) ∧ BufS w' w.heap.size (.slice q (l.length + 1) c') (splitT root l) ∧ Ext w w' from by
    obtain ⟨v, rfl, hb, hx⟩ := he
    have hlen : (splitT root l).length = l.length + 1 := splitT_length root l
    obtain ⟨q, c', rfl, -, -⟩ := hb.texts
    rw [hlen] at hb ⊢
    exact ⟨q, c', rfl, hb, hx⟩))
  have HBk := Lib.hid (fun u (hx : Ext w u) => i.blk.ext hx)
  have HN1 := Lib.hid (fun u => newK_yes u root hr)
  have HN2 := Lib.hid (fun u => newK_yes u key hk)
  have HLd := Lib.hid hL
  have HI := Lib.hid i
  have hri : (root.size : Int) = 32 := by omega
  have hki : (key.size : Int) = 32 := by omega
  have hzi : (nonce.size : Int) = 12 := by omega
  have HZ := Lib.hid hz
  have H16 := Lib.hid h16
  clear i hT hl hL hr hk hz h16
  obtain ⟨m, hm⟩ : ∃ m, l.length + 1 = m := ⟨_, rfl⟩
  have hmi : (m : Int) = (l.length : Int) + 1 := by omega
  have HM := Lib.hid hm
  rw [hm] at HSp
  rw [hm]
  go_enter Tryz.func13, Tryz.ntmps13
  go_wp2_with (first
    | (go_at_call 37; refine (HIn.out).mono ?_; rintro e w1 ⟨rfl, rfl⟩)
    | (go_at_call 38; refine (HSp.out).mono ?_; rintro e w2 ⟨q, c', rfl, b2, x2⟩; have B2 := Lib.hid b2; have X2 := Lib.hid x2; clear b2 x2)
    | (go_at_call 39; (with_reducible refine (HN1.out _).mono ?_); rintro e w3 ⟨r1, k1, rfl, i3, q3, p3, x3⟩; have X3 := Lib.hid (X2.out.trans x3); have K3 := Lib.hid i3; have x23 := x3; have F3 := (HBk.out _ X3.out).frozen 2; have C3 := (HBk.out _ X3.out).cell 2 _ rfl; have P3 := Lib.hid (Nat.le_trans X2.out.size p3); clear i3 x3 q3 p3)
    | (go_at_call 39; (with_reducible refine (HN2.out _).mono ?_); rintro e w4 ⟨r2, k2, rfl, i4, q4, p4, x4⟩; have D3 := Lib.hid ((HBk.out _ X3.out).set_ 2 (.pointer (some ⟨r1, 0, none⟩))); have D4 := Lib.hid (D3.out.ext x4); have K4 := Lib.hid i4; have J4 := Lib.hid ((K3.out.kept (HBk.out _ X3.out) (by decide) rfl).ext x4); have F4 := D4.out.frozen 3; have C4 := D4.out.cell 3 _ rfl; have X4 := Lib.hid x4; have P4 := Lib.hid p4; clear i4 x4 q4 p4))
  have D5 := Lib.hid (D4.out.set_ 3 (.pointer (some ⟨r2, 0, none⟩)))
  have J5 := Lib.hid (J4.out.kept D4.out (by decide) (i := 3) (u := .pointer (some ⟨r2, 0, none⟩)) rfl)
  have K5 := Lib.hid (K4.out.kept D4.out (by decide) (i := 3) (u := .pointer (some ⟨r2, 0, none⟩)) rfl)
  have G5 := Lib.hid ((((HI.out.gat.ext X3.out).kept (HBk.out _ X3.out) (by decide) (i := 2) (u := .pointer (some ⟨r1, 0, none⟩)) rfl).ext X4.out).kept D4.out (by decide) (i := 3) (u := .pointer (some ⟨r2, 0, none⟩)) rfl)
  have c2 := D5.out.cell 2 _ rfl
  have c3 := D5.out.cell 3 _ rfl
  have T5 := Lib.hid ((((X3.out.turnP HI.out.low_size).trans (TurnP.set (i := 2) (HBk.out _ X3.out) HI.out.low (.pointer (some ⟨r1, 0, none⟩)))).trans (X4.out.turnP (by have := HI.out.low_size; have := X3.out.size; simp [World.setCell]; omega))).trans (TurnP.set (i := 3) D4.out HI.out.low (.pointer (some ⟨r2, 0, none⟩))))
  have hm16 : m < 256 := by have := H16.out; have := HM.out; omega
  have hlow := HI.out.low_size
  have hs3 := X3.out.size
  have hk1 : k1 < w3.heap.size := K3.out.map.lt
  have hk2 : w3.heap.size ≤ k2 := by have := P4.out; simpa [World.setCell] using this
  have hbm : bm < w.heap.size := HI.out.gat.map.lt
  have e12 : k1 ≠ k2 := by omega
  have em2 : bm ≠ k2 := by omega
  have hBk : B ≤ k2 := by omega
  have HA := Lib.hid (And.intro e12 (And.intro em2 hBk))
  have HLw := Lib.hid (HLd.out.turnP T5.out hB2)
  have S5 : Hid (BufS (w4.setCell ⟨b, 3, none⟩ (.pointer (some ⟨r2, 0, none⟩))) w.heap.size (.slice q m c') (splitT root l)) := Lib.hid ((((B2.out.ext x23).turnP (TurnP.set (HBk.out _ X3.out) HI.out.low _)).ext X4.out).turnP (TurnP.set D4.out HI.out.low _))
  clear c2 c3 F3 C3 F4 C4 hk1 hk2 hbm e12 em2 hBk hs3
  have c2 := D5.out.cell 2 _ rfl
  have c3 := D5.out.cell 3 _ rfl
  simp only [List.set_cons_succ, List.set_cons_zero] at D5
  generalize (w4.setCell ⟨b, 3, none⟩ (.pointer (some ⟨r2, 0, none⟩))) = W5 at *
  have HH := Lib.hid (fun u (x : Ext W5 u) => bheaderOf_any u r1 k1 r2 k2 root [(1, key)] (HLw.out.ext x) (J5.out.ext x) (K5.out.ext x) m hm16 nonce HZ.out)
  obtain ⟨HD, hHD⟩ : ∃ x, hdOf root m nonce [(1, key)] = x := ⟨_, rfl⟩
  rw [hHD] at HH
  have HHD := Lib.hid hHD
  clear hHD hri hki hzi hmi hlow hm16
  have x0 : Ext W5 W5.drew := (Ext.refl W5).drew
  go_region_law (first
    | (go_simp; go_at_call 40; refine (HH.out _ x0).mono ?_; rintro e w6 ⟨rfl, x6⟩; have y6 := Ext.trans x0 x6; have D6 := Lib.hid (D5.out.ext y6); have f1 := D6.out.frozen 1; have c1 := D6.out.cell 1 _ rfl))
  all_goals
    go_wp2
    go_ret2
    have hlow := HI.out.low_size
    have hsz := T5.out.size
    have hB5 : B ≤ W5.heap.size := Nat.le_trans hlow hsz
    have hHD := HHD.out
    subst hHD
    obtain ⟨e12, em2, hBk⟩ := HA.out
    refine ⟨⟨q, c', rfl, (S5.out.ext y6).turnP (TurnP.set D6.out HI.out.low _)⟩, ⟨g, bm, r1, k1, r2, k2, ⟨D6.out.set_ 1 _, ((G5.out.ext y6).kept D6.out (by decide) rfl).turn ?_ ?_ (by decide) (by decide), HI.out.low, HI.out.lowm⟩, ⟨(J5.out.ext y6).kept D6.out (by decide) rfl, (K5.out.ext y6).kept D6.out (by decide) rfl, hBk, e12, em2⟩⟩, (T5.out.trans (y6.turnP hB5)).trans (TurnP.set D6.out HI.out.low _)⟩
    · have := HM.out; omega
    · have := HM.out; have := H16.out; omega
end Go.Proofs.YtcjdnifckngcfaaGreatDoor
end
