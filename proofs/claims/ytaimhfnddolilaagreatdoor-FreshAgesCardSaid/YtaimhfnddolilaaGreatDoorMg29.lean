/-
  ctrl.Text.
  The reference's text of a control.
  The reference's decimal numeral.
  The reference's ControlText.
  The law's own example.
  A control's text is read back as it.
-/
import Derived.Lib.Join
import Derived.Test.YtaimhfnddolilaaGreatDoorMg13
import Derived.Test.YtaimhfnddolilaaGreatDoorMg28
namespace Go.Proofs.YtaimhfnddolilaaGreatDoor.CtrlS
open Go.RowKit HeadMath HeadS

def Ctl.wide (c : Ctl) : Prop := (-9223372036854775808 ≤ c.maxA ∧ c.maxA ≤ 9223372036854775807) ∧ (-9223372036854775808 ≤ c.sMax ∧ c.sMax ≤ 9223372036854775807) ∧ (-9223372036854775808 ≤ c.minF ∧ c.minF ≤ 9223372036854775807) ∧ (-9223372036854775808 ≤ c.maxS ∧ c.maxS ≤ 9223372036854775807)
theorem join_len (l : List (List UInt8)) (m : Nat) (h : ∀ x ∈ l, x.length ≤ m) : (Lib.join l [44, 32]).length ≤ l.length * (m + 2) := by
  cases l with
  | nil => simp [Lib.join]
  | cons a l =>
    rw [Lib.join_cons, List.length_append]
    have ha := h a (by simp)
    have ht : ∀ (l : List (List UInt8)), (∀ x ∈ l, x.length ≤ m) → (Lib.joinTail [44, 32] l).length ≤ l.length * (m + 2) := by
      intro l
      induction l with
      | nil => intro _; simp [Lib.joinTail]
      | cons b l ih =>
        intro hl
        have := hl b (by simp)
        have := ih (fun x hx => hl x (by simp [hx]))
        have e : Lib.joinTail [44, 32] (b :: l) = [44, 32] ++ b ++ Lib.joinTail [44, 32] l := rfl
        rw [e]
        simp only [List.length_append, List.length_cons, List.length_nil, Nat.add_mul]
        omega
    have := ht l (fun x hx => h x (by simp [hx]))
    rw [List.length_cons, Nat.add_mul]
    omega
end Go.Proofs.YtaimhfnddolilaaGreatDoor.CtrlS
namespace Go.Proofs.YtaimhfnddolilaaGreatDoor.CtrlS
open Go.RowKit HeadMath HeadS

theorem bytes_injC {a b : ByteArray} (h : a.data.toList = b.data.toList) : a = b := by
  cases a; cases b
  simp at h
  rw [h]
/-- The text of the parts so far. -/
def outB (l : List ByteArray) : ByteArray := ⟨(Lib.join (l.map (·.data.toList)) [44, 32]).toArray⟩
end Go.Proofs.YtaimhfnddolilaaGreatDoor.CtrlS
namespace Go.Proofs.YtaimhfnddolilaaGreatDoor.CtrlS
open Go.RowKit HeadMath HeadS

theorem dec_len (n : Nat) (h : n ≤ 2147483647) : (Lib.decDigits n).length ≤ 21 := by
  have := Lib.itoa_length_le (n : Int) (by omega) (by omega)
  unfold Lib.itoa at this
  rw [if_neg (by omega)] at this
  simpa using this
theorem one_digit (n : Nat) (h : n < 10) : (⟨#[48, 49, 50, 51, 52, 53, 54, 55, 56, 57]⟩ : ByteArray).extract n (n + 1) = ⟨(Lib.decDigits n).toArray⟩ := by
  rw [Lib.decDigits_one h]
  match n, h with
  | 0, _ => rfl
  | 1, _ => rfl
  | 2, _ => rfl
  | 3, _ => rfl
  | 4, _ => rfl
  | 5, _ => rfl
  | 6, _ => rfl
  | 7, _ => rfl
  | 8, _ => rfl
  | 9, _ => rfl
end Go.Proofs.YtaimhfnddolilaaGreatDoor.CtrlS
namespace Go.Proofs.YtaimhfnddolilaaGreatDoor.CtrlS
open Go.RowKit HeadMath HeadS

def GoodK (l : List ByteArray) (k : Nat) : Prop := (∀ x ∈ l, 0 < x.size ∧ x.size ≤ 122) ∧ l.length ≤ k
theorem GoodK.size {l : List ByteArray} {k : Nat} (h : GoodK l k) (hk : k ≤ 12) : (outB l).size ≤ 1000000 := by
  have := join_len (l.map (·.data.toList)) 122 (by
    intro x hx
    obtain ⟨y, hy, rfl⟩ := List.mem_map.1 hx
    rw [size_list]; exact (h.1 y hy).2)
  rw [List.length_map] at this
  have h2 : l.length * 124 ≤ 12 * 124 := Nat.mul_le_mul_right _ (by have := h.2; omega)
  show (Lib.join (l.map (·.data.toList)) [44, 32]).toArray.size ≤ 1000000
  simp only [List.size_toArray]
  omega
end Go.Proofs.YtaimhfnddolilaaGreatDoor.CtrlS
namespace Go.Proofs.YtaimhfnddolilaaGreatDoor.CtrlS
open Go.RowKit HeadMath HeadS

theorem plain_closed {l : List UInt8} (h : l.all (fun c => c != 34 && c != 44) = true) : Closed l := Closed.plain (fun c hc => by
  have := List.all_eq_true.1 h c hc
  rw [Bool.and_eq_true] at this
  exact ⟨by simpa using this.1, by simpa using this.2⟩)
end Go.Proofs.YtaimhfnddolilaaGreatDoor.CtrlS
namespace Go.Proofs.YtaimhfnddolilaaGreatDoor.CtrlS
open Go.RowKit HeadMath HeadS

/-- The digits of a number say it. -/
theorem fold_digits : ∀ (f n : Nat), n < f → n ≤ 2147483647 → (Lib.decDigits n).all digitB = true ∧ (Lib.decDigits n).foldl stepS (-1) = (n : Int) := by
  intro f
  induction f with
  | zero => intro n h; omega
  | succ f ih =>
    intro n hf hn
    have hd : ∀ k, k < 10 → digitB (UInt8.ofNat (48 + k)) = true ∧ ((UInt8.ofNat (48 + k)).toNat : Int) = 48 + k := by
      intro k hk
      have e : (UInt8.ofNat (48 + k)).toNat = 48 + k := by rw [UInt8.toNat_ofNat']; omega
      refine ⟨?_, by rw [e]; omega⟩
      unfold digitB
      rw [decide_eq_true_iff, e]
      omega
    by_cases h10 : n < 10
    · rw [Lib.decDigits_one h10]
      have := hd n h10
      refine ⟨by rw [List.all_cons, this.1]; rfl, ?_⟩
      show stepS (-1) _ = _
      unfold stepS maxAge
      rw [this.2]
      omega
    · rw [Lib.decDigits, dif_neg h10]
      obtain ⟨h1, h2⟩ := ih (n / 10) (by omega) (by omega)
      have := hd (n % 10) (by omega)
      refine ⟨by rw [List.all_append, h1, List.all_cons, this.1]; rfl, ?_⟩
      rw [List.foldl_append, h2]
      show stepS _ _ = _
      unfold stepS maxAge
      rw [this.2]
      omega
theorem sec_digits (n : Nat) (hn : n ≤ 2147483647) : secF (Lib.decDigits n) = (n : Int) := by
  obtain ⟨h1, h2⟩ := fold_digits (n + 1) n (by omega) hn
  rw [secF_end h1, h2]
theorem digits_cons (n : Nat) : ∃ c r, Lib.decDigits n = c :: r := by
  cases h : Lib.decDigits n with
  | nil =>
    rw [Lib.decDigits] at h
    split at h
    · cases h
    · simp at h
  | cons c r => exact ⟨c, r, rfl⟩
theorem unq_digits (n : Nat) (hn : n ≤ 2147483647) : unqF (Lib.decDigits n) = Lib.decDigits n := by
  obtain ⟨c, r, e⟩ := digits_cons n
  have h1 := (fold_digits (n + 1) n (by omega) hn).1
  rw [e] at h1 ⊢
  unfold unqF
  split
  · rename_i r' e'
    injection e' with e1 _
    subst e1
    rw [List.all_cons, Bool.and_eq_true] at h1
    exact absurd h1.1 (by decide)
  · rfl
/-- A part with a number: its name, its value, its seconds. -/
theorem eq_at (x v : List UInt8) (hx : ∀ c ∈ x, c ≠ 61) : eqAt ⟨(x ++ 61 :: v).toArray⟩ = (x.length : Int) := by
  have hs : (⟨(x ++ 61 :: v).toArray⟩ : ByteArray).size = x.length + (v.length + 1) := by
    show (x ++ 61 :: v).toArray.size = _
    simp
  have hg : ∀ j (h : j < (⟨(x ++ 61 :: v).toArray⟩ : ByteArray).size), (⟨(x ++ 61 :: v).toArray⟩ : ByteArray)[j] = (x ++ 61 :: v)[j]'(by rw [hs] at h; simp; omega) := fun j h => rfl
  refine eq_is (by omega) ?_ ?_
  · rw [hg]
    simp
  · intro j h hj
    rw [hg, List.getElem_append_left hj]
    exact hx _ (List.getElem_mem _)
theorem num_part {n : Int} (h0 : 0 ≤ n) (hn : n ≤ 2147483647) (x : ByteArray) (hx : ∀ c ∈ x.data.toList, c ≠ 61) : namP (numB n x) = x ∧ hasP (numB n x) = true ∧ valSec (valP (numB n x)) = n := by
  obtain ⟨m, rfl⟩ : ∃ m : Nat, n = (m : Int) := ⟨n.toNat, by omega⟩
  have hi : Lib.itoa (min (m : Int) 2147483647) = Lib.decDigits m := by
    rw [show min (m : Int) 2147483647 = (m : Int) by omega]
    unfold Lib.itoa
    rw [if_neg (by omega)]
    rfl
  have hb : numB (m : Int) x = ⟨(x.data.toList ++ 61 :: Lib.decDigits m).toArray⟩ := by
    unfold numB
    rw [hi]
    apply bytes_injC
    rw [ByteArray.data_append, ByteArray.data_append]
    simp
  have he := eq_at x.data.toList (Lib.decDigits m) hx
  rw [← hb] at he
  have hneg : ¬ eqAt (numB (m : Int) x) < 0 := by omega
  have hl : (numB (m : Int) x).data.toList = x.data.toList ++ 61 :: Lib.decDigits m := by rw [hb]
  have hsz := size_list (numB (m : Int) x)
  have hv : valP (numB (m : Int) x) = ⟨(Lib.decDigits m).toArray⟩ := by
    apply bytes_injC
    unfold valP
    rw [if_neg hneg, Lib.extract_data, he, hl]
    rw [hl, List.length_append, List.length_cons] at hsz
    rw [show ((x.data.toList.length : Int)).toNat + 1 = x.data.toList.length + 1 by omega, List.drop_append, List.drop_of_length_le (by omega)]
    rw [show x.data.toList.length + 1 - x.data.toList.length = 1 by omega]
    simp only [List.drop_succ_cons, List.drop_zero, List.nil_append]
    rw [List.take_of_length_le (by omega)]
  refine ⟨?_, ?_, ?_⟩
  · apply bytes_injC
    unfold namP
    rw [if_neg hneg, Lib.extract_data, he, hl]
    simp
  · unfold hasP; rw [decide_eq_false hneg]; rfl
  · unfold valSec
    rw [hv]
    show max (secF (unqF (Lib.decDigits m))) 0 = _
    rw [unq_digits m (by omega), sec_digits m (by omega)]
    omega
/-- A part that stands for itself in a list. -/
def ItemB (x : ByteArray) : Prop := x.data.toList ≠ [] ∧ ∀ c ∈ x.data.toList, (c ≠ 34 ∧ c ≠ 44) ∧ blankB c = false
theorem item_bare {x : ByteArray} (h : ItemB x) : Bare x.data.toList :=
  ⟨fun c hc => (h.2 c (List.mem_of_head? hc)).2, fun c hc => (h.2 c (List.mem_of_getLast? hc)).2⟩
theorem item_lit {x : ByteArray} (h : (!x.data.toList.isEmpty && x.data.toList.all (fun c => (c != 34 && c != 44) && !blankB c)) = true) : ItemB x := by
  rw [Bool.and_eq_true] at h
  refine ⟨by simpa using h.1, fun c hc => ?_⟩
  have := List.all_eq_true.1 h.2 c hc
  rw [Bool.and_eq_true, Bool.and_eq_true] at this
  exact ⟨⟨by simpa using this.1.1, by simpa using this.1.2⟩, by simpa using this.2⟩
theorem item_num {n : Int} (h0 : 0 ≤ n) (hn : n ≤ 2147483647) {x : ByteArray} (hx : ItemB x) : ItemB (numB n x) := by
  have hl : (numB n x).data.toList = x.data.toList ++ ([61] ++ Lib.itoa (min n 2147483647)) := by
    unfold numB
    rw [ByteArray.data_append, ByteArray.data_append]
    simp
  obtain ⟨m, rfl⟩ : ∃ m : Nat, n = (m : Int) := ⟨n.toNat, by omega⟩
  have hi : Lib.itoa (min (m : Int) 2147483647) = Lib.decDigits m := by
    rw [show min (m : Int) 2147483647 = (m : Int) by omega]
    unfold Lib.itoa
    rw [if_neg (by omega)]
    rfl
  rw [hi] at hl
  have hd := (fold_digits (m + 1) m (by omega) (by omega)).1
  refine ⟨by rw [hl]; intro h; exact hx.1 (List.append_eq_nil_iff.1 h).1, fun c hc => ?_⟩
  rw [hl] at hc
  rcases List.mem_append.1 hc with h | h
  · exact hx.2 c h
  · rcases List.mem_append.1 h with h | h
    · obtain rfl : c = 61 := by simpa using h
      decide
    · have := List.all_eq_true.1 hd c h
      unfold digitB at this
      rw [decide_eq_true_iff] at this
      refine ⟨⟨fun e => ?_, fun e => ?_⟩, ?_⟩
      · subst e; exact absurd this (by decide)
      · subst e; exact absurd this (by decide)
      · unfold blankB
        rw [Bool.or_eq_false_iff, beq_eq_false_iff_ne, beq_eq_false_iff_ne]
        refine ⟨fun e => ?_, fun e => ?_⟩
        · subst e; exact absurd this (by decide)
        · subst e; exact absurd this (by decide)
theorem say_maxA (s : Ctl) {n : Int} (h0 : 0 ≤ n) (hn : n ≤ 2147483647) : sayF s (numB n ⟨#[109, 97, 120, 45, 97, 103, 101]⟩) = { s with maxA := leastF s.maxA n } := by
  obtain ⟨e1, e2, e3⟩ := num_part h0 hn ⟨#[109, 97, 120, 45, 97, 103, 101]⟩ (by decide)
  have h1 : kindP (numB n ⟨#[109, 97, 120, 45, 97, 103, 101]⟩) = 7 := by unfold kindP; rw [e1]; decide +kernel
  unfold sayF
  rw [h1, e2, e3]
  rfl
theorem say_sMax (s : Ctl) {n : Int} (h0 : 0 ≤ n) (hn : n ≤ 2147483647) : sayF s (numB n ⟨#[115, 45, 109, 97, 120, 97, 103, 101]⟩) = { s with sMax := leastF s.sMax n } := by
  obtain ⟨e1, e2, e3⟩ := num_part h0 hn ⟨#[115, 45, 109, 97, 120, 97, 103, 101]⟩ (by decide)
  have h1 : kindP (numB n ⟨#[115, 45, 109, 97, 120, 97, 103, 101]⟩) = 8 := by unfold kindP; rw [e1]; decide +kernel
  unfold sayF
  rw [h1, e2, e3]
  rfl
theorem least_new {n : Int} : leastF (-1) n = n := by unfold leastF; rw [if_pos (.inl rfl)]
end Go.Proofs.YtaimhfnddolilaaGreatDoor.CtrlS
