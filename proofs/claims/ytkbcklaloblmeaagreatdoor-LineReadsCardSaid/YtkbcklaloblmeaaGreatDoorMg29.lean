/-
  The reference's Escapes answers what the mathematics says.
-/
import Derived.Deep.RegionWith
import Derived.Deep.AppendLies
import Derived.Test.YtkbcklaloblmeaaGreatDoorMg4
import Derived.Test.YtkbcklaloblmeaaGreatDoorMg9
namespace Go.Proofs.YtkbcklaloblmeaaGreatDoor.NormS
open Go.RowKit HeadMath NormMath

theorem hexI_some {c : UInt8} (h : hexB c = true) : hexI c = (hexN c : Int) := by unfold hexI; rw [hexB_some h]
theorem hexI_none {c : UInt8} (h : hexB c = false) : hexI c = -1 := by unfold hexI; rw [hexB_none h]
theorem row_below {w w' : World} (h : Spares (atLeast w.heap.size) w w') : Below w.heap.size w w' := h.below (Nat.le_refl _) (fun _ hk h => absurd hk (Nat.not_lt.2 h))
theorem refHex_quiet (c : UInt8) (w : World) : Calls Tryz.prog 65 #[.int .u8 c.toNat] w fun e w' => e = .returned (.int .i64 (hexI c)) ∧ w' = w := (refHex_any c w).mono fun _ _ h => ⟨h.1, h.2.symm⟩
theorem and_nat (a b : Nat) (ha : a < 16) (hb : b < 16) : Go.bits .and .u8 (16 * (a : Int) + (b : Int)) 15 = (b : Int) := by
  have H : ∀ a : Fin 16, ∀ b : Fin 16, Go.bits .and .u8 (16 * ((a.1 : Nat) : Int) + ((b.1 : Nat) : Int)) 15 = ((b.1 : Nat) : Int) := by decide
  exact H ⟨a, ha⟩ ⟨b, hb⟩
theorem three_new (w : World) (t : TypeId) (a b c : Value) : ∀ j u, [a, b, c][j]? = some u → (w.alloc (.cells #[a, b, c] t)).cell? ((⟨w.heap.size, 0, none⟩ : Addr).add j) = some u := by
  intro j u hj
  match j, hj with
  | 0, hj => simp at hj; subst hj; simp [Addr.add]
  | 1, hj => simp at hj; subst hj; simp [Addr.add]
  | 2, hj => simp at hj; subst hj; simp [Addr.add]
  | j + 3, hj => simp at hj

end Go.Proofs.YtkbcklaloblmeaaGreatDoor.NormS
