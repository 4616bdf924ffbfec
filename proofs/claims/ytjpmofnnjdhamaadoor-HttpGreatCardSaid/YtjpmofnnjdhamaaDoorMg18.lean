/-
  HeadBack.
  The reference's List.
  Parts put together by commas, and told one by one: the mathematics.
-/
import Derived.Test.YtjpmofnnjdhamaaDoorProg
import Derived.Test.YtjpmofnnjdhamaaDoorCards
import Derived.Test.YtjpmofnnjdhamaaDoorTie
import Derived.Test.YtjpmofnnjdhamaaDoorRows
import Derived.LaidMore
import Derived.Deep.DeepLaidRun
import Derived.SevenTiedAt
import Derived.Laws.AppendOwnNone
import Derived.SliceStrings
import Derived.ChangeOld
import Derived.Test.YtjpmofnnjdhamaaDoorMg17
namespace Go.Proofs.YtjpmofnnjdhamaaDoor.HeadS
open Go.RowKit HeadMath

/-- A field's line without its end. -/
def textOf (f : ByteArray × ByteArray) : ByteArray := ⟨(f.1.data.toList ++ ([58, 32] ++ f.2.data.toList)).toArray⟩
def goodF (f : ByteArray × ByteArray) : Prop := tokenF f.1.data.toList = true ∧ valueF f.2.data.toList = true
theorem textOf_list (f : ByteArray × ByteArray) : (textOf f).data.toList = f.1.data.toList ++ ([58, 32] ++ f.2.data.toList) := rfl
theorem textOf_size (f : ByteArray × ByteArray) : (textOf f).size = f.1.size + 2 + f.2.size := by
  rw [← size_list, textOf_list, List.length_append, List.length_append, size_list, size_list]
  simp only [List.length_cons, List.length_nil]
  omega
theorem byteAt_list {s : ByteArray} {k : Nat} (h : k < s.size) : s.data.toList[k]? = some s[k] := by
  rw [List.getElem?_eq_getElem (by rw [size_list]; exact h)]; rfl
theorem sign_colon : signB 58 = false := by decide
theorem colon_text {f : ByteArray × ByteArray} (h : goodF f) : colonAt (textOf f) = (f.1.size : Int) := by
  have hsz := textOf_size f
  refine colon_is (by omega) ?_ (fun j hj hlt he => ?_)
  · have h1 := byteAt_list (s := textOf f) (k := f.1.size) (by omega)
    rw [textOf_list, List.getElem?_append_right (by rw [size_list]; exact Nat.le_refl _), size_list, Nat.sub_self] at h1
    exact (Option.some.inj h1).symm
  · have h1 := byteAt_list hj
    rw [textOf_list, List.getElem?_append_left (by rw [size_list]; exact hlt), he] at h1
    have h2 : (58 : UInt8) ∈ f.1.data.toList := List.mem_of_getElem? h1
    have h3 := h.1
    unfold tokenF at h3
    simp only [Bool.and_eq_true, List.all_eq_true] at h3
    have := h3.1 58 h2
    rw [sign_colon] at this
    cases this
theorem value_bare {x : List UInt8} (h : valueF x = true) : Bare x := by
  unfold valueF at h
  simp only [Bool.and_eq_true, beq_iff_eq] at h
  exact (eq_trimF x).1 h.2
theorem fieldOf_text {f : ByteArray × ByteArray} (h : goodF f) : fieldOf (textOf f) = some f := by
  have hsz := textOf_size f
  have h1 : (textOf f).extract 0 f.1.size = f.1 := by
    apply data_inj
    rw [Lib.extract_data, textOf_list, List.drop_zero]
    rw [List.take_append_of_le_length (by rw [size_list]; omega), List.take_of_length_le (by rw [size_list]; omega)]
  have h2 : (textOf f).extract (f.1.size + 1) (textOf f).size = ⟨(32 :: f.2.data.toList).toArray⟩ := by
    apply data_inj
    rw [Lib.extract_data, textOf_list, List.take_of_length_le (by rw [List.length_drop, List.length_append, List.length_append, size_list, size_list]; simp only [List.length_cons, List.length_nil]; omega)]
    rw [List.drop_append, List.drop_eq_nil_of_le (by rw [size_list]; omega), size_list, show f.1.size + 1 - f.1.size = 1 by omega]
    rfl
  have h3 : (⟨(trimF (⟨(32 :: f.2.data.toList).toArray⟩ : ByteArray).data.toList).toArray⟩ : ByteArray) = f.2 := by
    apply data_inj
    show trimF (32 :: f.2.data.toList) = f.2.data.toList
    have := trimF_of (u := [32]) (v := []) (x := f.2.data.toList) (by decide) (by decide) (value_bare h.2)
    simpa using this
  rw [fieldOf_named (colon_text h) h1 h2 h3, if_pos ⟨h.1, h.2⟩]
theorem parseF_text : ∀ (l : Fs), (∀ f ∈ l, goodF f) → parseF (l.map textOf) = some l
  | [], _ => rfl
  | f :: l, h => by
    rw [List.map_cons, parseF, fieldOf_text (h f (List.mem_cons_self ..))]
    simp only [parseF_text l (fun g hg => h g (List.mem_cons_of_mem _ hg))]
end Go.Proofs.YtjpmofnnjdhamaaDoor.HeadS
namespace Go.Proofs.YtjpmofnnjdhamaaDoor.HeadS
open Go.RowKit HeadMath

def told (p : ByteArray) : List ByteArray := if p.size = 0 then [] else [p]
end Go.Proofs.YtjpmofnnjdhamaaDoor.HeadS
namespace Go.Proofs.YtjpmofnnjdhamaaDoor.HeadS
open Go.RowKit HeadMath

theorem endF_plain : ∀ (l r : List UInt8), (∀ c ∈ l, c ≠ 34 ∧ c ≠ 44) → endF false false (l ++ r) = l.length + endF false false r
  | [], r, _ => by simp
  | c :: l, r, h => by
    have h1 := h c (List.mem_cons_self ..)
    have ih := endF_plain l r (fun d hd => h d (List.mem_cons_of_mem _ hd))
    rw [List.cons_append]
    simp only [endF, if_neg h1.1, if_neg h1.2, List.length_cons]
    omega
/-- No comma is open in t. -/
def Closed (t : List UInt8) : Prop := ∀ r, endF false false (t ++ r) = t.length + endF false false r
theorem Closed.plain {l : List UInt8} (h : ∀ c ∈ l, c ≠ 34 ∧ c ≠ 44) : Closed l := fun r => endF_plain l r h
abbrev arr (l : List UInt8) : ByteArray := ⟨l.toArray⟩
theorem told_nil {p : ByteArray} (h : p.data.toList = []) : told p = [] := by
  unfold told
  rw [if_pos (by rw [← size_list, h]; rfl)]
theorem parts_step (t rest more : List UInt8) (hc : Closed t) (hr : (rest = [] ∧ more = []) ∨ rest = 44 :: more) : partsF (arr (t ++ rest)) = told (arr (trimF t)) ++ partsF (arr more) := by
  have hl : (arr (t ++ rest)).data.toList = t ++ rest := rfl
  have he : endOf (arr (t ++ rest)) = t.length := by
    unfold endOf
    rw [hl, hc]
    rcases hr with ⟨rfl, _⟩ | rfl
    · rfl
    · simp only [endF, if_neg (show ¬ (44 : UInt8) = 34 by decide), if_true]; omega
  have hz : (arr (t ++ rest)).size = t.length + rest.length := by rw [← size_list, hl, List.length_append]
  by_cases h0 : (arr (t ++ rest)).size = 0
  · have ht : t = [] := List.eq_nil_of_length_eq_zero (by omega)
    have hr0 : rest = [] := List.eq_nil_of_length_eq_zero (by omega)
    subst ht; subst hr0
    rcases hr with ⟨_, rfl⟩ | h
    · rw [partsF_nil h0, partsF_nil rfl, told_nil rfl]; rfl
    · cases h
  · have hp : pieceOf (arr (t ++ rest)) = arr (trimF t) := by
      unfold pieceOf
      rw [he]
      have : ((arr (t ++ rest)).extract 0 t.length).data.toList = t := by
        rw [Lib.extract_data, hl, List.drop_zero, Nat.sub_zero, List.take_append_of_le_length (Nat.le_refl _), List.take_of_length_le (Nat.le_refl _)]
      rw [this]
    have hrest : restOf (arr (t ++ rest)) = arr more := by
      apply data_inj
      unfold restOf
      rw [Lib.extract_to_end, he, hl, hz]
      show _ = more
      rcases hr with ⟨rfl, rfl⟩ | rfl
      · rw [List.drop_eq_nil_of_le (by simp)]
      · rw [Nat.min_eq_left (by simp), List.drop_append, List.drop_eq_nil_of_le (by omega), show t.length + 1 - t.length = 1 by omega]
        rfl
    rw [partsF, dif_neg h0, hp, hrest]
    rfl
end Go.Proofs.YtjpmofnnjdhamaaDoor.HeadS
