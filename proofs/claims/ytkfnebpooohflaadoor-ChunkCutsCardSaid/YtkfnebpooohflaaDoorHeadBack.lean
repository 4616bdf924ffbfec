/-
  HeadBack.
-/
import Derived.Test.YtkfnebpooohflaaDoorHeadRefParse
import Derived.Test.YtkfnebpooohflaaDoorProg
import Derived.Test.YtkfnebpooohflaaDoorCards
import Derived.Test.YtkfnebpooohflaaDoorTie
import Derived.Test.YtkfnebpooohflaaDoorRows
import Derived.LaidMore
import Derived.Deep.DeepLaidRun
import Derived.SevenTiedAt
import Derived.Laws.AppendOwnNone
import Derived.SliceStrings
import Derived.ChangeOld
namespace Go.Proofs.YtkfnebpooohflaaDoor.HeadS
open Go.RowKit HeadMath

/-- A field's line without its end. -/
def textOf (f : ByteArray × ByteArray) : ByteArray := ⟨(f.1.data.toList ++ ([58, 32] ++ f.2.data.toList)).toArray⟩
def goodF (f : ByteArray × ByteArray) : Prop := tokenF f.1.data.toList = true ∧ valueF f.2.data.toList = true
theorem textOf_list (f : ByteArray × ByteArray) : (textOf f).data.toList = f.1.data.toList ++ ([58, 32] ++ f.2.data.toList) := rfl
theorem textOf_size (f : ByteArray × ByteArray) : (textOf f).size = f.1.size + 2 + f.2.size := by
  rw [← size_list, textOf_list, List.length_append, List.length_append, size_list, size_list]
  simp only [List.length_cons, List.length_nil]
  omega
theorem byteAt_list {s : ByteArray} {k : Nat} (h : k < s.size) : s.data.toList[k]? = some s[k] := by
  rw [List.getElem?_eq_getElem (by rw [size_list]; exact h)]; rfl
theorem sign_colon : signB 58 = false := by decide
theorem colon_text {f : ByteArray × ByteArray} (h : goodF f) : colonAt (textOf f) = (f.1.size : Int) := by
  have hsz := textOf_size f
  refine colon_is (by omega) ?_ (fun j hj hlt he => ?_)
  · have h1 := byteAt_list (s := textOf f) (k := f.1.size) (by omega)
    rw [textOf_list, List.getElem?_append_right (by rw [size_list]; exact Nat.le_refl _), size_list, Nat.sub_self] at h1
    exact (Option.some.inj h1).symm
  · have h1 := byteAt_list hj
    rw [textOf_list, List.getElem?_append_left (by rw [size_list]; exact hlt), he] at h1
    have h2 : (58 : UInt8) ∈ f.1.data.toList := List.mem_of_getElem? h1
    have h3 := h.1
    unfold tokenF at h3
    simp only [Bool.and_eq_true, List.all_eq_true] at h3
    have := h3.1 58 h2
    rw [sign_colon] at this
    cases this
theorem value_bare {x : List UInt8} (h : valueF x = true) : Bare x := by
  unfold valueF at h
  simp only [Bool.and_eq_true, beq_iff_eq] at h
  exact (eq_trimF x).1 h.2
theorem fieldOf_text {f : ByteArray × ByteArray} (h : goodF f) : fieldOf (textOf f) = some f := by
  have hsz := textOf_size f
  have h1 : (textOf f).extract 0 f.1.size = f.1 := by
    apply data_inj
    rw [Lib.extract_data, textOf_list, List.drop_zero]
    rw [List.take_append_of_le_length (by rw [size_list]; omega), List.take_of_length_le (by rw [size_list]; omega)]
  have h2 : (textOf f).extract (f.1.size + 1) (textOf f).size = ⟨(32 :: f.2.data.toList).toArray⟩ := by
    apply data_inj
    rw [Lib.extract_data, textOf_list, List.take_of_length_le (by rw [List.length_drop, List.length_append, List.length_append, size_list, size_list]; simp only [List.length_cons, List.length_nil]; omega)]
    rw [List.drop_append, List.drop_eq_nil_of_le (by rw [size_list]; omega), size_list, show f.1.size + 1 - f.1.size = 1 by omega]
    rfl
  have h3 : (⟨(trimF (⟨(32 :: f.2.data.toList).toArray⟩ : ByteArray).data.toList).toArray⟩ : ByteArray) = f.2 := by
    apply data_inj
    show trimF (32 :: f.2.data.toList) = f.2.data.toList
    have := trimF_of (u := [32]) (v := []) (x := f.2.data.toList) (by decide) (by decide) (value_bare h.2)
    simpa using this
  rw [fieldOf_named (colon_text h) h1 h2 h3, if_pos ⟨h.1, h.2⟩]
end Go.Proofs.YtkfnebpooohflaaDoor.HeadS