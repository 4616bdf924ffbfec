/-
  The capacity of a slice of bytes that came in.
-/
import Derived.Deep.Slices
import Derived.Test.YtihbjkdgfflnfaaMg21
namespace Go.Proofs.Ytihbjkdgfflnfaa
open Go.ChangeShapes Go.WideShapes Go.ChangeAt Go.RowKit Go.Deep
theorem bytes_cap {H : Type} {W : World} {enc : TypeId × Value → H} {v : Value} {d : DataW H} {p : List MemPlace} {fuel : Nat} {a : Option Addr} {len cap : Nat} (hv : v = .slice a len cap)
    (hf : DataW.trod enc Try.prog W 0 (fun _ => true) true fuel 49 v.cells.toList = some (d, p)) : cap ≤ maxLen := by
  subst hv
  rcases Deep.open_slice Try.underlying49 hf with ⟨hcs, _⟩ | ⟨x, len', cap', m, n, D, Pl, hcs, _, hl, hm, hmm, _, hx⟩
  · simp [Value.cells] at hcs
    obtain ⟨rfl, rfl, rfl⟩ := hcs
    exact Nat.zero_le _
  · simp [Value.cells] at hcs
    obtain ⟨rfl, rfl, rfl⟩ := hcs
    simp only [if_true] at hmm
    omega
end Go.Proofs.Ytihbjkdgfflnfaa
