/- Plain: the chapter's first example. -/
import Derived.Test.YtgbhadgkkefokaaCrash
namespace Go.Proofs.Ytgbhadgkkefokaa
open Go.RowKit
def exA : DS := DS.new 2 100
def exB : DS := (exA.write 0 ⟨#[120, 121]⟩).1
def exC : DS := exB.sync.1
def exD : DS := (exC.write 0 ⟨#[122]⟩).1
def exE : DS := (exD.write 1 ⟨#[119]⟩).1
def exF : DS := exE.crash 1 0
theorem ex1 : (exA.write 0 ⟨#[120, 121]⟩).2 = 0 := by decide +kernel
theorem ex2 : exB.sync.2 = 0 := by decide +kernel
theorem ex3 : (exC.write 0 ⟨#[122]⟩).2 = 0 := by decide +kernel
theorem ex4 : (exD.write 1 ⟨#[119]⟩).2 = 0 := by decide +kernel
theorem ex5 : exE.L.length = 2 := by decide +kernel
theorem ex6 : exF.read 0 = (⟨#[120, 121, 122]⟩, 0) := by decide +kernel
theorem ex7 : exF.read 1 = (⟨#[]⟩, 0) := by decide +kernel
theorem ex8 : exF.left = 97 := by decide +kernel
theorem ex9 : exF.m = 2 := by decide +kernel
theorem exL : exA.L.length = 0 ∧ exB.L.length = 1 ∧ exC.L.length = 0 ∧ exD.L.length = 1 := by decide +kernel
end Go.Proofs.Ytgbhadgkkefokaa
