/-
  What a response's fields say of its time: lifetime, age, whether it may be told.
-/
import Derived.Test.YtaimhfnddolilaaGreatDoorMg2
import Derived.Test.YtaimhfnddolilaaGreatDoorMg18
import Derived.Test.YtaimhfnddolilaaGreatDoorMg26
namespace Go.Proofs.YtaimhfnddolilaaGreatDoor
open Go.RowKit HeadMath HeadS CtrlS DateMath

theorem TabP.up {w x : World} (h : TabP w) (hx : Below w.heap.size w x) : TabP x := by
  have hs : Spares nowhere w x := Below.spares hx (fun k hk => .inr hk)
  exact h.spares hs (fun h => h)
theorem TabS.up {w x : World} (h : TabS w) (hx : Below w.heap.size w x) : TabS x := by
  have hs : Spares nowhere w x := Below.spares hx (fun k hk => .inr hk)
  exact h.spares hs (fun h => h)
abbrev Flf := List (ByteArray × ByteArray)
def dateN : ByteArray := ⟨#[68, 97, 116, 101]⟩
def ageN : ByteArray := ⟨#[65, 103, 101]⟩
def expN : ByteArray := ⟨#[69, 120, 112, 105, 114, 101, 115]⟩
def lastN : ByteArray := ⟨#[76, 97, 115, 116, 45, 77, 111, 100, 105, 102, 105, 101, 100]⟩
/-- The text of a field; none: no text. -/
def textG (n : ByteArray) (fs : Flf) : ByteArray := (getF n fs).getD ⟨#[]⟩
/-- The date that a field is, and whether it is one. -/
noncomputable def dateF (n : ByteArray) (fs : Flf) : Int × Bool := ((readF (textG n fs).data.toList).1, (readF (textG n fs).data.toList).2 == 0)
theorem read_bd (l : Bs) : 0 ≤ (readF l).1 ∧ (readF l).1 ≤ 253402300799 := by
  by_cases h : ∃ t, TextOf t l
  · obtain ⟨t, ht⟩ := h
    rw [read_yes ht]
    have := ht.1
    unfold maxT at this
    constructor
    · show (0 : Int) ≤ (t : Int)
      omega
    · show (t : Int) ≤ 253402300799
      omega
  · rw [read_no (fun t ht => h ⟨t, ht⟩)]
    constructor <;> decide
theorem dateF_bd (n : ByteArray) (fs : Flf) : 0 ≤ (dateF n fs).1 ∧ (dateF n fs).1 ≤ 253402300799 := read_bd _
theorem parse_ok (fs : Flf) : (parseF fs).ok := by
  have h := fold_ok (listF cacheN fs) ctl0 ctl0_ok
  unfold CtrlS.parseF
  split
  · exact h
  · exact h
theorem textG_size {fs : Flf} (hf : FewF fs) (n : ByteArray) : (textG n fs).size ≤ 1000000 := by
  unfold textG getF
  cases h : fs.find? (isNamed n) with
  | none => exact Nat.zero_le _
  | some x =>
    obtain ⟨j, hj, rfl⟩ := List.getElem_of_mem (List.mem_of_find?_eq_some h)
    exact (hf.2 j hj).2
/-- For how many seconds, ahead of the bound. -/
noncomputable def lifeIn (st : Int) (fs : Flf) : Int :=
  if 0 ≤ (parseF fs).sMax then (parseF fs).sMax else if 0 ≤ (parseF fs).maxA then (parseF fs).maxA
  else if (getF expN fs).isSome then (if (dateF expN fs).2 && (dateF dateN fs).2 then max ((dateF expN fs).1 - (dateF dateN fs).1) 0 else 0)
  else if (dateF lastN fs).2 && (dateF dateN fs).2 && (heurF st || (parseF fs).pub) then min (max (((dateF dateN fs).1 - (dateF lastN fs).1).tdiv 10) 0) 86400 else 0
noncomputable def lifeF (st : Int) (fs : Flf) : Int := min (lifeIn st fs) 2147483647
theorem lifeIn_bd (st : Int) (fs : Flf) : 0 ≤ lifeIn st fs ∧ lifeIn st fs ≤ 253402300799 := by
  have h := parse_ok fs
  unfold Ctl.ok maxAge at h
  have h1 := dateF_bd dateN fs
  have h2 := dateF_bd expN fs
  unfold lifeIn
  repeat' split
  all_goals omega
theorem lifeF_bd (st : Int) (fs : Flf) : 0 ≤ lifeF st fs ∧ lifeF st fs ≤ 2147483647 := by
  have := lifeIn_bd st fs
  unfold lifeF
  omega
/-- How old. -/
noncomputable def ageF (fs : Flf) (asked came now : Int) : Int :=
  min (max (if (dateF dateN fs).2 then max (withinF came - (dateF dateN fs).1) 0 else 0) (max (secF (textG ageN fs).data.toList) 0 + max (withinF came - withinF asked) 0) + max (withinF now - withinF came) 0) 2147483647
theorem within_le (t : Int) : 0 ≤ withinF t ∧ withinF t ≤ 253402300799 := by unfold withinF; omega
theorem ageF_bd (fs : Flf) (asked came now : Int) : 0 ≤ ageF fs asked came now ∧ ageF fs asked came now ≤ 2147483647 := by unfold ageF; omega
/-- Whether it may be told to one who says q. -/
noncomputable def servF (q : Ctl) (st : Int) (fs : Flf) (asked came now : Int) : Bool :=
  if q.noCache || (parseF fs).noCache then false
  else if 0 ≤ q.maxA ∧ q.maxA < ageF fs asked came now then false
  else if ageF fs asked came now < lifeF st fs then decide (q.minF ≤ lifeF st fs - ageF fs asked came now)
  else if (parseF fs).must || (parseF fs).prox || decide (0 ≤ (parseF fs).sMax) || decide (0 ≤ q.minF) then false
  else q.anyStale || (decide (0 ≤ q.maxS) && decide (ageF fs asked came now - lifeF st fs ≤ q.maxS))
/-- The last two rules, of numbers alone. -/
def servL (A L y8 y10 y11 z9 : Int) (b4 b5 a7 : Bool) : Bool :=
  if 0 ≤ y8 ∧ y8 < A then false
  else if A < L then decide (y10 ≤ L - A)
  else if b4 || b5 || decide (0 ≤ z9) || decide (0 ≤ y10) then false
  else a7 || (decide (0 ≤ y11) && decide (A - L ≤ y11))
theorem serv_eq (q : Ctl) (st : Int) (fs : Flf) (asked came now : Int) : servF q st fs asked came now = if q.noCache || (parseF fs).noCache then false else servL (ageF fs asked came now) (lifeF st fs) q.maxA q.minF q.maxS (parseF fs).sMax (parseF fs).must (parseF fs).prox q.anyStale := rfl
section
variable {A L y8 y10 y11 z9 : Int} {b4 b5 a7 : Bool}
theorem servL1 (h1 : 0 ≤ y8) (h2 : y8 < A) : servL A L y8 y10 y11 z9 b4 b5 a7 = false := by unfold servL; rw [if_pos ⟨h1, h2⟩]
theorem servL2 (h : ¬ (0 ≤ y8 ∧ y8 < A)) (h2 : A < L) : servL A L y8 y10 y11 z9 b4 b5 a7 = decide (y10 ≤ L - A) := by unfold servL; rw [if_neg h, if_pos h2]
theorem servL3 (h : ¬ (0 ≤ y8 ∧ y8 < A)) (h2 : ¬ A < L) (h3 : b4 = true ∨ b5 = true ∨ 0 ≤ z9 ∨ 0 ≤ y10) : servL A L y8 y10 y11 z9 b4 b5 a7 = false := by
  unfold servL
  rw [if_neg h, if_neg h2, if_pos]
  rcases h3 with h | h | h | h <;> simp [h]
theorem servL4 (h : ¬ (0 ≤ y8 ∧ y8 < A)) (h2 : ¬ A < L) (h4 : b4 = false) (h5 : b5 = false) (h9 : ¬ 0 ≤ z9) (h10 : ¬ 0 ≤ y10) : servL A L y8 y10 y11 z9 b4 b5 a7 = (a7 || (decide (0 ≤ y11) && decide (A - L ≤ y11))) := by
  unfold servL
  rw [if_neg h, if_neg h2, if_neg]
  simp [h4, h5, h9, h10]
end
end Go.Proofs.YtaimhfnddolilaaGreatDoor
