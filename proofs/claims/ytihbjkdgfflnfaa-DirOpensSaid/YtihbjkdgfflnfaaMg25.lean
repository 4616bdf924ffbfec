/-
  A slice of structs of one-cell fields that came in: each field's cell, and its own reading.
-/
import Derived.Test.YtihbjkdgfflnfaaProg
import Derived.WalkKit
import Derived.ProofKit
import Derived.OpenShut
import Derived.Deep.Slices
import Derived.Deep.Fields
import Derived.ChangeSame
namespace Go.Proofs.Ytihbjkdgfflnfaa
open Go.ChangeShapes Go.WideShapes Go.ChangeAt Go.RowKit Go.Deep

/-- A struct's cells that lie from o on in block b of W: each field of one cell, read at its own type. -/
theorem cellsOf_struct {H : Type} {enc : TypeId × Value → H} {P : Program} {W : World} {e : TypeId} {fs : Array Field} {n b o : Nat} {cs : List Value} {x : DataW H × List MemPlace}
    (he : P.underlying e = some (.struct fs)) (hone : oneCellFields P fs = true)
    (hcs : ∀ j, j < fs.size → W.cell? ⟨b, o + j, none⟩ = cs[j]?) (hl : cs.length = fs.size) (hf : DataW.trod enc P W 0 (fun _ => true) true n e cs = some x) :
    ∃ n', ∀ j f, fs[j]? = some f → ∃ v y, W.cell? ⟨b, o + j, none⟩ = some v ∧ DataW.trod enc P W 0 (fun _ => true) true n' f.type [v] = some y := by
  obtain ⟨ys, n', _, _, _, hyl, hy⟩ := DataW.trod_struct he hf
  refine ⟨n', fun j f hj => ?_⟩
  have hjl : j < fs.size := (Array.getElem?_eq_some_iff.1 hj).1
  obtain ⟨h1, h2⟩ := hone_of hone j f hj
  have h3 := hy j f hj
  rw [h1, h2, List.drop_eq_getElem_cons (by omega : j < cs.length)] at h3
  refine ⟨cs[j]'(by omega), ys[j]'(by omega), ?_, ?_⟩
  · rw [hcs j hjl]; exact List.getElem?_eq_getElem _
  · exact h3.trans (List.getElem?_eq_getElem _)
theorem structs_open {H : Type} {enc : TypeId × Value → H} {P : Program} {W : World} {t e : TypeId} {fs : Array Field} {d : DataW H} {p : List MemPlace} {fuel : Nat} {a : Option Addr} {len cap : Nat}
    (ht : P.underlying t = some (.slice e)) (he : P.underlying e = some (.struct fs)) (hone : oneCellFields P fs = true) (hC : P.cellsOf e = fs.size) (hpos : 0 < fs.size)
    (hf : DataW.trod enc P W 0 (fun _ => true) true fuel t (Value.slice a len cap).cells.toList = some (d, p)) :
    len ≤ maxLen ∧ len ≤ cap ∧ (a = none → cap = 0) ∧ ∀ i, i < len → ∃ b off, a = some ⟨b, off, none⟩ ∧ ∃ n, ∀ j f, fs[j]? = some f → ∃ v y, W.cell? ⟨b, off + i * fs.size + j, none⟩ = some v ∧ DataW.trod enc P W 0 (fun _ => true) true n f.type [v] = some y := by
  rcases Deep.open_slice ht hf with ⟨hcs, _⟩ | ⟨x, len', cap', m, n, D, Pl, hcs, _, hl, hm, hmm, _, hx⟩
  · simp [Value.cells] at hcs
    obtain ⟨rfl, rfl, rfl⟩ := hcs
    exact ⟨Nat.zero_le _, Nat.le_refl _, fun _ => rfl, fun i h => absurd h (Nat.not_lt_zero _)⟩
  · simp [Value.cells] at hcs
    obtain ⟨rfl, rfl, rfl⟩ := hcs
    simp only [if_true] at hmm
    subst hmm
    refine ⟨by omega, hl, (fun e => by cases e), fun i hi => ?_⟩
    obtain ⟨cs', hc, hT⟩ := hx i (by omega)
    rw [hC] at hc
    obtain ⟨_, hlen, hat⟩ := World.cells?_some hc
    obtain ⟨b, off, spot⟩ := x
    have hspot : spot = none := by
      obtain ⟨cs0, hc0, _⟩ := hx 0 (by omega)
      rw [hC, Nat.zero_mul] at hc0
      obtain ⟨_, hlen0, hat0⟩ := World.cells?_some hc0
      have h1 := hat0 0 hpos
      rw [List.getElem?_eq_getElem (by omega)] at h1
      simpa [Addr.add] using World.cell?_spot h1
    subst hspot
    refine ⟨b, off, rfl, ?_⟩
    refine cellsOf_struct he hone (cs := cs') (fun j hj => ?_) hlen hT
    have h1 := hat j hj
    rw [Addr.add_lit, Addr.add_lit] at h1
    exact h1
end Go.Proofs.Ytihbjkdgfflnfaa
