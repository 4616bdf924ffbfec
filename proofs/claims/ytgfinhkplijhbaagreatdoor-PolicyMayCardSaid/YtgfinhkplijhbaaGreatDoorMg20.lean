/-
  ctrl.Text.
  The reference's text of a control.
  The reference's ControlText.
  The law's own example.
-/
import Derived.Lib.Join
import Derived.Test.YtgfinhkplijhbaaGreatDoorMg13
import Derived.Test.YtgfinhkplijhbaaGreatDoorMg19
namespace Go.Proofs.YtgfinhkplijhbaaGreatDoor.CtrlS
open Go.RowKit HeadMath HeadS

theorem join_len (l : List (List UInt8)) (m : Nat) (h : ∀ x ∈ l, x.length ≤ m) : (Lib.join l [44, 32]).length ≤ l.length * (m + 2) := by
  cases l with
  | nil => simp [Lib.join]
  | cons a l =>
    rw [Lib.join_cons, List.length_append]
    have ha := h a (by simp)
    have ht : ∀ (l : List (List UInt8)), (∀ x ∈ l, x.length ≤ m) → (Lib.joinTail [44, 32] l).length ≤ l.length * (m + 2) := by
      intro l
      induction l with
      | nil => intro _; simp [Lib.joinTail]
      | cons b l ih =>
        intro hl
        have := hl b (by simp)
        have := ih (fun x hx => hl x (by simp [hx]))
        have e : Lib.joinTail [44, 32] (b :: l) = [44, 32] ++ b ++ Lib.joinTail [44, 32] l := rfl
        rw [e]
        simp only [List.length_append, List.length_cons, List.length_nil, Nat.add_mul]
        omega
    have := ht l (fun x hx => h x (by simp [hx]))
    rw [List.length_cons, Nat.add_mul]
    omega
end Go.Proofs.YtgfinhkplijhbaaGreatDoor.CtrlS
namespace Go.Proofs.YtgfinhkplijhbaaGreatDoor.CtrlS
open Go.RowKit HeadMath HeadS

/-- The text of the parts so far. -/
def outB (l : List ByteArray) : ByteArray := ⟨(Lib.join (l.map (·.data.toList)) [44, 32]).toArray⟩
end Go.Proofs.YtgfinhkplijhbaaGreatDoor.CtrlS
namespace Go.Proofs.YtgfinhkplijhbaaGreatDoor.CtrlS
open Go.RowKit HeadMath HeadS

def GoodK (l : List ByteArray) (k : Nat) : Prop := (∀ x ∈ l, 0 < x.size ∧ x.size ≤ 122) ∧ l.length ≤ k
theorem GoodK.size {l : List ByteArray} {k : Nat} (h : GoodK l k) (hk : k ≤ 12) : (outB l).size ≤ 1000000 := by
  have := join_len (l.map (·.data.toList)) 122 (by
    intro x hx
    obtain ⟨y, hy, rfl⟩ := List.mem_map.1 hx
    rw [size_list]; exact (h.1 y hy).2)
  rw [List.length_map] at this
  have h2 : l.length * 124 ≤ 12 * 124 := Nat.mul_le_mul_right _ (by have := h.2; omega)
  show (Lib.join (l.map (·.data.toList)) [44, 32]).toArray.size ≤ 1000000
  simp only [List.size_toArray]
  omega
end Go.Proofs.YtgfinhkplijhbaaGreatDoor.CtrlS
namespace Go.Proofs.YtgfinhkplijhbaaGreatDoor.CtrlS
open Go.RowKit HeadMath HeadS

theorem plain_closed {l : List UInt8} (h : l.all (fun c => c != 34 && c != 44) = true) : Closed l := Closed.plain (fun c hc => by
  have := List.all_eq_true.1 h c hc
  rw [Bool.and_eq_true] at this
  exact ⟨by simpa using this.1, by simpa using this.2⟩)
end Go.Proofs.YtgfinhkplijhbaaGreatDoor.CtrlS
