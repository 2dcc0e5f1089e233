/- Both Open, and both Epoch, of any text. -/
import Derived.Test.YtdnpgmoiapkhnaaGreatDoorM44
import Derived.Test.YtdnpgmoiapkhnaaGreatDoorM42
namespace Go.Proofs.YtdnpgmoiapkhnaaGreatDoor
open Go.RowKit
attribute [local irreducible] rkey expand enc dec ctrB ctrC ctrL xorL turnL turnT kd t4 t8 env5 chk f32B f12B tagT sealT ringOf lastOf outK

theorem opens_both (w : World) (hL : Laid w) (L : List (Nat × ByteArray)) (path : ByteArray) (v : Nat) (hv : v < 2 ^ 64) (S : ByteArray) (hp : path.size ≤ 1500) :
    ∃ (V : ByteArray) (oe : Int) (en : Int) (ee : Int),
      (∀ u r k, Ext w u → IsK u r k L → Calls Tryz.prog 29 #[.pointer (some ⟨r, 0, none⟩), .string path, .int .u64 (v : Int), .string S] u fun e w' => e = .returned (.tuple #[.string V, .int .i64 oe]) ∧ Ext u w') ∧
      (∀ u B d p c, IsR u B d p c L → GoodK L → Calls Tryz.prog 30 #[.pointer (some ⟨d, 0, none⟩), .string path, .int .u64 (v : Int), .string S] u fun e w' => e = .returned (.tuple #[.string V, .int .i64 oe]) ∧ Ext u w') ∧
      (∀ u, Calls Tryz.prog 25 #[.string S] u fun e w' => e = .returned (.tuple #[.int .u32 en, .int .i64 ee]) ∧ Ext u w') ∧
      (∀ u, Calls Tryz.prog 26 #[.string S] u fun e w' => e = .returned (.tuple #[.int .u32 en, .int .i64 ee]) ∧ Ext u w') := by
  have bad : (∀ u, Calls Tryz.prog 25 #[.string S] u fun e w' => e = .returned (.tuple #[.int .u32 0, .int .i64 7]) ∧ Ext u w') → (∀ u, Calls Tryz.prog 26 #[.string S] u fun e w' => e = .returned (.tuple #[.int .u32 0, .int .i64 7]) ∧ u = w') → _ := fun h1 h2 =>
    (⟨⟨#[]⟩, 7, 0, 7, fun u r k _ hu => open_form u hu path v S h1, fun u B d p c _ _ => (ropen_form u d path v S h2).mono fun _ _ q => ⟨q.1, q.2 ▸ Ext.refl _⟩, h1, fun u => (h2 u).mono fun _ _ q => ⟨q.1, q.2 ▸ Ext.refl _⟩⟩ : ∃ (V : ByteArray) (oe : Int) (en : Int) (ee : Int),
      (∀ u r k, Ext w u → IsK u r k L → Calls Tryz.prog 29 #[.pointer (some ⟨r, 0, none⟩), .string path, .int .u64 (v : Int), .string S] u fun e w' => e = .returned (.tuple #[.string V, .int .i64 oe]) ∧ Ext u w') ∧
      (∀ u B d p c, IsR u B d p c L → GoodK L → Calls Tryz.prog 30 #[.pointer (some ⟨d, 0, none⟩), .string path, .int .u64 (v : Int), .string S] u fun e w' => e = .returned (.tuple #[.string V, .int .i64 oe]) ∧ Ext u w') ∧
      (∀ u, Calls Tryz.prog 25 #[.string S] u fun e w' => e = .returned (.tuple #[.int .u32 en, .int .i64 ee]) ∧ Ext u w') ∧
      (∀ u, Calls Tryz.prog 26 #[.string S] u fun e w' => e = .returned (.tuple #[.int .u32 en, .int .i64 ee]) ∧ Ext u w'))
  by_cases hs : S.size < 49 ∨ 1048625 < S.size
  · exact bad (fun u => (epoch_len S hs u).mono fun _ _ q => ⟨q.1, q.2 ▸ Ext.refl _⟩) (fun u => repoch_len S hs u)
  · obtain ⟨x, e, C, D, T, he, hC, hT, hD, rfl⟩ := shape_ex S (by omega)
    have hD2 : D.size ≤ 1048576 := by omega
    by_cases hx : x = 1
    · subst hx
      have hb : b1 1 = t1 := rfl
      rw [hb]
      by_cases hn : e ∈ eps L
      · obtain ⟨⟨e', s⟩, hm, rfl⟩ := List.mem_map.1 hn
        have h1 := fun u r k hx (hu : IsK u r k L) => open_key (T := T) u (hL.ext hx) hu s hm path v hC hT hD2 (by omega)
        have h2 := fun u B d p c (hu : IsR u B d p c L) hG => ropen_key (T := T) u hu hG s hm path v hv hC hT hD2 (by omega)
        have h3 := fun u => epoch_yes (T := T) he hC hT hD2 u
        have h4 : ∀ u, Calls Tryz.prog 26 #[.string (env5 t1 (t4 e') C D T)] u fun e w' => e = .returned (.tuple #[.int .u32 (e' : Int), .int .i64 0]) ∧ Ext u w' := fun u => (repoch_yes (T := T) he hC hT hD2 u).mono fun _ _ q => ⟨q.1, q.2 ▸ Ext.refl _⟩
        revert h1 h2
        generalize chk T.data.toList (tagT (kd s tagB 32) path v t1 (t4 e') C D).data.toList = ok
        intro h1 h2
        cases ok
        · exact ⟨⟨#[]⟩, 141, _, 0, h1, h2, h3, h4⟩
        · exact ⟨turnT (kd s cipB 16) C 0 D, 0, _, 0, h1, h2, h3, h4⟩
      · exact ⟨⟨#[]⟩, 140, (e : Int), 0, fun u r k _ hu => open_epoch u hu path v he hC hT hD2 (by omega) hn, fun u B d p c hu hG => ropen_epoch u hu hG.few path v he hC hT hD2 (by omega) hn, fun u => epoch_yes he hC hT hD2 u, fun u => (repoch_yes he hC hT hD2 u).mono fun _ _ q => ⟨q.1, q.2 ▸ Ext.refl _⟩⟩
    · exact bad (fun u => epoch_first hC hT hD2 hx u) (fun u => repoch_first hC hT hD2 hx u)
end Go.Proofs.YtdnpgmoiapkhnaaGreatDoor
