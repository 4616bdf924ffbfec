/-
  Numbers, texts and lists of fields behind one another are read back one by one.
-/
import Derived.Test.YtekdkaiammebnaaDoorCodeFieldsMath
namespace Go.Proofs.CodeMath

/-- What is written: a number, a text, a list of fields. -/
inductive PartF where
  | num (n : Nat)
  | text (l : List UInt8)
  | fields (fs : Fs)
def PartF.bytes : PartF → List UInt8
  | .num n => numF n
  | .text l => textF l
  | .fields fs => fieldsF fs
/-- Light: what the law lets through. -/
def PartF.light : PartF → Prop
  | .num n => U64 n
  | .text l => l.length ≤ 10000000000000
  | .fields fs => fs.length ≤ 1000000 ∧ ∀ f ∈ fs, f.1.size ≤ 1000000 ∧ f.2.size ≤ 1000000
def partsF (ps : List PartF) : List UInt8 := ps.flatMap PartF.bytes
theorem readNum_append {n : Nat} (hn : U64 n) (t : List UInt8) : readNum (some (numF n ++ t)) = (n, some t) := by
  have := numR_numG 9 n 0 t (by omega) (fit_start hn) (.inr rfl)
  simp only [readNum, numF]
  rw [this]
  simp
theorem readText_append (x t : List UInt8) (hx : x.length ≤ 10000000000000) : readText (some (textF x ++ t)) = (x, some t) := by
  have h := readText_cut x t (textF x ++ t).length hx
  rw [List.take_of_length_le (Nat.le_refl _)] at h
  rw [h, if_pos (by rw [List.length_append]; omega), List.take_of_length_le (by rw [List.length_append]; omega)]
theorem size_list (b : ByteArray) : b.data.toList.length = b.size := by rw [Array.length_toList]; rfl
theorem mk_data (b : ByteArray) : mk b.data.toList = b := by cases b; rfl
theorem stepF_append (f : ByteArray × ByteArray) (t : List UInt8) (h1 : f.1.size ≤ 1000000) (h2 : f.2.size ≤ 1000000) : stepF (some (fieldF f ++ t)) = (f, some t) := by
  unfold stepF fieldF
  rw [List.append_assoc, readText_append _ _ (by rw [size_list]; omega)]
  simp only
  rw [readText_append _ _ (by rw [size_list]; omega)]
  simp only [mk_data]
theorem iterF_append : ∀ (fs : Fs) (t : List UInt8) (acc : Fs), (∀ f ∈ fs, f.1.size ≤ 1000000 ∧ f.2.size ≤ 1000000) → iterF fs.length (some (fs.flatMap fieldF ++ t)) acc = (acc ++ fs, some t)
  | [], t, acc, _ => by simp [iterF]
  | f :: fs, t, acc, h => by
    have hf := h f (List.mem_cons_self ..)
    rw [List.length_cons, iterF, List.flatMap_cons, List.append_assoc, stepF_append f _ hf.1 hf.2]
    simp only
    rw [iterF_append fs t (acc ++ [f]) (fun g hg => h g (List.mem_cons_of_mem _ hg)), List.append_assoc]
    rfl
theorem fields_many : ∀ fs : Fs, fs.length ≤ (fs.flatMap fieldF).length
  | [] => by simp
  | f :: fs => by
    have := fields_many fs
    have h := textF_pos f.1.data.toList
    have e : (fieldF f).length = (textF f.1.data.toList).length + (textF f.2.data.toList).length := by unfold fieldF; rw [List.length_append]
    rw [List.flatMap_cons, List.length_append, List.length_cons, e]
    omega
theorem readFields_append (fs : Fs) (t : List UInt8) (hl : fs.length ≤ 1000000) (h : ∀ f ∈ fs, f.1.size ≤ 1000000 ∧ f.2.size ≤ 1000000) : readFields (some (fieldsF fs ++ t)) = (fs, some t) := by
  have h1 := readNum_append (n := fs.length) (by unfold U64; omega) (fs.flatMap fieldF ++ t)
  have h2 := iterF_append fs t [] h
  have h3 := fields_many fs
  unfold fieldsF
  rw [List.append_assoc]
  exact readFields_good h1 (by rw [List.length_append]; omega) h2
theorem partsF_take {ps : List PartF} {k : Nat} (h : k < ps.length) : partsF (ps.take (k + 1)) = partsF (ps.take k) ++ (ps[k]).bytes := by
  have e : ps.take (k + 1) = ps.take k ++ [ps[k]] := by rw [List.take_add_one, List.getElem?_eq_getElem h]; rfl
  unfold partsF
  rw [e, List.flatMap_append]
  simp
theorem partsF_drop {ps : List PartF} {k : Nat} (h : k < ps.length) : partsF (ps.drop k) = (ps[k]).bytes ++ partsF (ps.drop (k + 1)) := by
  unfold partsF
  rw [List.drop_eq_getElem_cons h, List.flatMap_cons]
end Go.Proofs.CodeMath
