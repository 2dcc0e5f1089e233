/- Contracts: the document's examples of layer 1 answer as it says; what is more than a statement plays. -/
import Derived.Test.YtnboephjkiihiaaPut
import Derived.Test.YtnboephjkiihiaaGet
import Derived.Test.YtnboephjkiihiaaTurn
import Derived.Test.YtnboephjkiihiaaUnhex
namespace Go.Proofs.Ytnboephjkiihiaa
open Go.RowKit

theorem w_get (w : World) : Calls Try.prog 9 #[.string ⟨#[120, 0, 0, 1, 2]⟩, .int .i64 1] w fun e w' => e = .returned (.tuple #[.int .u32 258, .bool true]) ∧ w = w' := by
  have e1 : getv ⟨#[120, 0, 0, 1, 2]⟩ 1 4 = 258 := by decide
  have e2 : gets ⟨#[120, 0, 0, 1, 2]⟩ 1 4 = true := by decide
  have := Get32_any ⟨#[120, 0, 0, 1, 2]⟩ 1 (by decide) w
  rw [e1, e2] at this
  exact this
theorem w_ab (w : World) : Calls Try.prog 17 #[.string ⟨#[97, 98]⟩] w fun e w' => e = .returned (.tuple #[.string ⟨#[171]⟩, .bool true]) ∧ Ext w w' := by
  have e1 : unhexB ⟨#[97, 98]⟩ = true := by decide
  have e2 : unhexV ⟨#[97, 98]⟩ = [171] := by decide
  have := unhex_any ⟨#[97, 98]⟩ (by decide) w
  rw [e1, e2] at this
  exact this
theorem w_AB (w : World) : Calls Try.prog 17 #[.string ⟨#[65, 66]⟩] w fun e w' => e = .returned (.tuple #[.string ⟨#[]⟩, .bool false]) ∧ Ext w w' := by
  have e1 : unhexB ⟨#[65, 66]⟩ = false := by decide
  have e2 : unhexV ⟨#[65, 66]⟩ = [] := by decide
  have := unhex_any ⟨#[65, 66]⟩ (by decide) w
  rw [e1, e2] at this
  exact this
theorem w_put (w : World) : Calls Try.prog 14 #[.int .u32 258] w fun e w' => e = .returned (.string ⟨#[0, 0, 1, 2]⟩) ∧ Ext w w' := by
  have e1 : be 4 258 = [0, 0, 1, 2] := by decide
  have := Put32_any 258 w
  rw [e1] at this
  exact this
theorem w_turn (w : World) : Calls Try.prog 19 #[.int .u32 1, .int .i64 1] w fun e w' => e = .returned (.int .u32 2147483648) ∧ w = w' := by
  have e1 : rot 1 (places 1) = 2147483648 := by decide
  have := turn_any 1 (by decide) 1 w
  rw [e1] at this
  exact this
theorem w_hex (w : World) : Calls Try.prog 22 #[.string ⟨#[171]⟩] w fun e w' => e = .returned (.string ⟨#[97, 98]⟩) ∧ Ext w w' := by
  have e1 : hexL [171] = [97, 98] := by decide
  have := hex_any ⟨#[171]⟩ (by decide) w
  rw [show (ByteArray.mk #[171]).data.toList = [171] from rfl, e1] at this
  exact this

theorem works_any (w : World) : Calls Try.prog 8 #[] w fun e w' => e = .returned (.bool true) ∧ Ext w w' := by
  go_enter Try.func8, Try.ntmps8
  go_wp2_with (first
    | (go_at_call 9; refine (w_get _).mono ?_; rintro e w1 ⟨rfl, rfl⟩)
    | (go_at_call 17; (with_reducible refine (w_ab _).mono ?_); rintro e w2 ⟨rfl, h2⟩)
    | (go_at_call 17; (with_reducible refine (w_AB _).mono ?_); rintro e w3 ⟨rfl, h3⟩)
    | (go_at_call 14; refine (w_put _).mono ?_; rintro e w4 ⟨rfl, h4⟩)
    | (go_at_call 19; refine (w_turn _).mono ?_; rintro e w5 ⟨rfl, rfl⟩)
    | (go_at_call 22; refine (w_hex _).mono ?_; rintro e w6 ⟨rfl, h6⟩))
  go_ret
  exact ⟨rfl, ((h2.trans h3).trans h4).trans h6⟩

theorem heavy_any (a b : ByteArray) (w : World) (ha : a.size ≤ 140737488351232) (hb : b.size ≤ 140737488351232) :
    Calls Try.prog 7 #[.string a, .string b] w fun e w' => e = .returned (.bool (decide (8192 < (a.size : Int) + (b.size : Int)))) ∧ w = w' := by
  go_enter Try.func7, Try.ntmps7
  go_wp2
  go_ret
  exact ⟨rfl, rfl⟩
end Go.Proofs.Ytnboephjkiihiaa
