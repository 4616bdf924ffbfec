/-
  A row of bytes that the call itself made, at or behind a base: append of one byte, of bytes, of a string; a row of texts that came in.
-/
import Derived.Test.YtjdiaighfhljgaaDoorBytes2
namespace Go.Proofs.YtjdiaighfhljgaaDoor
open Go.RowKit

def Row8 (B : Nat) (w : World) (v : Value) (d : List UInt8) : Prop := w.ownsRow B 5 1 v d.length (Lib.byteCells d)
theorem Row8.shape {B : Nat} {w : World} {v : Value} {d : List UInt8} (h : Row8 B w v d) : ∃ a c, v = .slice a d.length c ∧ BytesAt w a d ∧ (a = none → c = 0) ∧ d.length ≤ c := by
  have h' := h
  rcases h.2 with ⟨hv, h2⟩ | ⟨g, cap, cur, hv, _, _, hc, _⟩
  · refine ⟨none, 0, by rw [hv, h2], ?_, fun _ => rfl, by omega⟩
    have e : d = [] := List.eq_nil_of_length_eq_zero h2
    rw [e]; exact bytesAt_nil w _
  · unfold Row8 at h'
    rw [hv] at h'
    exact ⟨_, _, hv, bytesAt_own h', (fun e => by cases e), hc⟩
theorem Row8.lt {B : Nat} {w : World} {v : Value} {d : List UInt8} (h : Row8 B w v d) : ∀ g, v.ownBlock = some g → B ≤ g ∧ g < w.heap.size := World.ownsRow.lt h
theorem Row8.spares {B : Nat} {F : Nat → Prop} {w w' : World} {v : Value} {d : List UInt8} (h : Row8 B w v d) (hs : Spares F w w') (hn : ∀ g, v.ownBlock = some g → ¬ F g) : Row8 B w' v d := hs.own h hn
section
variable {w : World}
end
/-- A row of texts that came in. -/
def StrsAt (w : World) (a : Option Addr) (ps : List ByteArray) : Prop :=
  ∀ k (h : k < ps.length), ∃ b off, a = some ⟨b, off, none⟩ ∧ w.cell? ⟨b, off + k, none⟩ = some (.string ps[k])
theorem StrsAt.spares {F : Nat → Prop} {w w' : World} {a : Option Addr} {l : List ByteArray} (h : StrsAt w a l) (hs : Spares F w w') (hn : ∀ b off, a = some ⟨b, off, none⟩ → ¬ F b) : StrsAt w' a l := by
  intro k hk
  obtain ⟨b, off, rfl, hc⟩ := h k hk
  have hlt : b < w.heap.size := by
    rcases Nat.lt_or_ge b w.heap.size with h | h
    · exact h
    · simp [World.cell?, Array.getElem?_eq_none h] at hc
  exact ⟨b, off, rfl, (hs.cell (p := ⟨b, off + k, none⟩) hlt (hn _ _ rfl)).trans hc⟩
end Go.Proofs.YtjdiaighfhljgaaDoor
