/-
  Acts that came in, opened.
-/
import Derived.Test.YtdppmmoidofgmaaDoorStatArgs
import Derived.Test.YtdppmmoidofgmaaDoorStatLawC
import Derived.Test.YtdppmmoidofgmaaDoorStructRows
namespace Go.Proofs.YtdppmmoidofgmaaDoor
open Go.ChangeShapes Go.WideShapes Go.ChangeAt Go.RowKit Go.Deep

theorem list_choose {α : Type} {Pr : Nat → α → Prop} : ∀ n, (∀ i, i < n → ∃ x, Pr i x) → ∃ l : List α, l.length = n ∧ ∀ i (h : i < l.length), Pr i l[i]
  | 0, _ => ⟨[], rfl, fun i h => absurd h (Nat.not_lt_zero _)⟩
  | n + 1, h => by
    obtain ⟨l, hl, hP⟩ := list_choose n (fun i hi => h i (by omega))
    obtain ⟨x, hx⟩ := h n (by omega)
    refine ⟨l ++ [x], by simp [hl], fun i hi => ?_⟩
    by_cases hin : i < l.length
    · rw [List.getElem_append_left hin]
      exact hP i hin
    · obtain rfl : i = l.length := by simp at hi; omega
      rw [List.getElem_append_right (Nat.le_refl _)]
      simp only [Nat.sub_self, List.getElem_cons_zero]
      rw [hl]
      exact hx
theorem i64_bd {x : Int} (h : (Lit.int .i64 x).wf = true) : -9223372036854775808 ≤ x ∧ x ≤ 9223372036854775807 := by
  simp [Lit.wf, IntKind.bits, IntKind.signed, IntKind.min, IntKind.max] at h
  omega
/-- A slice of acts that came in. -/
theorem acts_open {H : Type} {W : World} {enc : TypeId × Value → H} {v : Value} {d : DataW H} {p : List MemPlace} {fuel : Nat} {a : Option Addr} {len cap : Nat} (hv : v = .slice a len cap)
    (hf : DataW.trod enc Tryd.prog W 0 (fun _ => true) true fuel 22 v.cells.toList = some (d, p)) :
    ∃ l : List ActL, l.length = len ∧ ActsAt W a l ∧ len ≤ maxLen := by
  subst hv
  obtain ⟨hm, _, _, hx⟩ := structs_open Tryd.underlying22 Tryd.underlying33 (by kernel_rfl) (by kernel_rfl) (by decide) hf
  have hex : ∀ i, i < len → ∃ x : ActL, ∃ b off, a = some ⟨b, off, none⟩ ∧ W.cell? ⟨b, off + i * 3, none⟩ = some (.int .i64 x.1) ∧ W.cell? ⟨b, off + i * 3 + 1, none⟩ = some (.int .i64 x.2.1) ∧ W.cell? ⟨b, off + i * 3 + 2, none⟩ = some (.int .i64 x.2.2) ∧ actIn x := by
    intro i hi
    obtain ⟨b, off, rfl, n, hj⟩ := hx i hi
    obtain ⟨v0, y0, h0, t0⟩ := hj 0 _ rfl
    obtain ⟨v1, y1, h1, t1⟩ := hj 1 _ rfl
    obtain ⟨v2, y2, h2, t2⟩ := hj 2 _ rfl
    obtain ⟨z0, e0, _, w0⟩ := DataW.trod_int Tryd.underlying3 t0
    injection e0 with e0
    subst e0
    obtain ⟨z1, e1, _, w1⟩ := DataW.trod_int Tryd.underlying3 t1
    injection e1 with e1
    subst e1
    obtain ⟨z2, e2, _, w2⟩ := DataW.trod_int Tryd.underlying3 t2
    injection e2 with e2
    subst e2
    exact ⟨(z0, z1, z2), b, off, rfl, h0, h1, h2, i64_bd w1⟩
  obtain ⟨l, hl, hP⟩ := list_choose len hex
  exact ⟨l, hl, hP, hm⟩
end Go.Proofs.YtdppmmoidofgmaaDoor
