/-
  A slice of texts that came in.
-/
import Derived.ProofKit
import Derived.OpenShut
import Derived.SliceStrings
import Derived.Test.YtjpmofnnjdhamaaGreatDoorMg3
namespace Go.Proofs.YtjpmofnnjdhamaaGreatDoor
open Go.ChangeShapes Go.WideShapes Go.ChangeAt Go.RowKit

theorem strs_open {H : Type} {W : World} {enc : TypeId × Value → H} {v : Value} {d : DataW H} {p : List MemPlace} {fuel : Nat} {a : Option Addr} {len cap : Nat} (hv : v = .slice a len cap)
    (hf : DataW.trod enc Tryz.prog W 0 (fun _ => true) true fuel 45 v.cells.toList = some (d, p)) :
    ∃ l : List ByteArray, l.length = len ∧ StrsAt W a l ∧ (a = none → cap = 0) ∧ len ≤ maxLen ∧ len ≤ cap ∧ ∀ s ∈ l, s.size ≤ maxLen := by
  subst hv
  rcases open_strings Tryz.underlying45 Tryz.underlying9 (by kernel_rfl) hf with ⟨hcs, _⟩ | ⟨x, l, c, ss, hcs, _, hl, hm, hz, _, hcell, hwz⟩
  · simp [Value.cells] at hcs
    obtain ⟨rfl, rfl, rfl⟩ := hcs
    exact ⟨[], rfl, fun k hk => absurd hk (by simp), fun _ => rfl, Nat.zero_le _, Nat.le_refl _, fun s hs => by cases hs⟩
  · simp [Value.cells] at hcs
    obtain ⟨rfl, rfl, rfl⟩ := hcs
    have hzl : ss.length = cap := by simpa using hz
    refine ⟨ss.take len, by simp; omega, ?_, (fun e => by cases e), by omega, hl, fun s hs => hwz s (List.mem_of_mem_take hs)⟩
    intro k hk
    have hk' : k < ss.length := by simp at hk; omega
    obtain ⟨b, off, spot⟩ := x
    have h0 := hcell 0 (by omega)
    have hspot : spot = none := by simpa [Addr.add] using World.cell?_spot h0
    subst hspot
    refine ⟨b, off, rfl, ?_⟩
    have h1 := hcell k hk'
    rw [Go.WideShapes.add_plain] at h1
    rw [h1, List.getElem_take, List.getD_eq_getElem?_getD, List.getElem?_eq_getElem hk']
    rfl
end Go.Proofs.YtjpmofnnjdhamaaGreatDoor
