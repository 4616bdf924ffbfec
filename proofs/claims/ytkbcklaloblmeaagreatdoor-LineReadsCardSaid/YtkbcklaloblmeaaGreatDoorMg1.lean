/-
  Single bytes: small letters, letters, digits, signs, blanks, in the program and in the reference.
  Hexadecimal digits, in the program and in the reference.
  Text in quotes: plain mathematics of lists of bytes. Nothing here speaks of the program.
  A log's line as text: plain mathematics.
  Bodies in chunks: plain mathematics of lists of bytes. Nothing here speaks of the program.
  Which bytes need no escape; the byte that two digits say: in the program and in the reference.
  The byte that two hexadecimal digits say.
  The reference reads a line alike: plain mathematics.
-/
import Derived.Test.YtkbcklaloblmeaaGreatDoorRows
import Derived.Test.YtkbcklaloblmeaaGreatDoorShelf
import Derived.WalkKit
import Derived.WalkSpells
import Derived.WalkLawsBesides
import Derived.Lib.Hide
import Derived.Lib.IndexBytes
import Derived.Shelf.Strings.SlTrimAscii
import Derived.Lib.ItoaMem
import Derived.Test.YtkbcklaloblmeaaGreatDoorMg0
import Derived.Test.YtkbcklaloblmeaaGreatDoorMg2
namespace Go.Proofs.YtkbcklaloblmeaaGreatDoor.NormS
open Go.RowKit HeadMath

theorem u8_beq (a b : UInt8) : ((a.toNat : Int) == (b.toNat : Int)) = (a == b) := by
  rw [Bool.eq_iff_iff, beq_iff_eq, beq_iff_eq]
  constructor
  · intro h; exact UInt8.toNat_inj.1 (by omega)
  · rintro rfl; rfl
theorem u8_beq_lit (a : UInt8) (n : Nat) (h : n < 256) : ((a.toNat : Int) == (n : Int)) = (a == UInt8.ofNat n) := by
  have := u8_beq a (UInt8.ofNat n)
  rw [show (UInt8.ofNat n).toNat = n from by simp; omega] at this
  exact this
theorem u8_lt (c : UInt8) : c.toNat < 256 := c.toNat_lt

theorem ret_int {k : IntKind} {a b : Int} (h : a = b) : Ending.returned (.int k a) = .returned (.int k b) := by rw [h]
theorem ret_bool {a b : Bool} (h : a = b) : Ending.returned (.bool a) = .returned (.bool b) := by rw [h]

set_option maxHeartbeats 400000 in
theorem small_any (c : UInt8) (w : World) : Calls Tryz.prog 117 #[.int .u8 c.toNat] w fun e w' => e = .returned (.int .u8 (small c).toNat) ∧ w = w' := by
  have hc := u8_lt c
  rcases (show c.toNat < 65 ∨ (65 ≤ c.toNat ∧ c.toNat ≤ 90) ∨ 90 < c.toNat from by omega) with h | h | h
  · have HS := Lib.hid (small_other (c := c) (by omega))
    have g1 : (c.toNat : Int) < 65 := by omega
    go_enter Tryz.func117, Tryz.ntmps117
    go_wp2
    go_ret
    exact ⟨ret_int (by rw [HS.out]), rfl⟩
  · have HS := Lib.hid (small_up h)
    have g1 : (65 : Int) ≤ c.toNat := by omega
    have g2 : (c.toNat : Int) ≤ 90 := by omega
    go_enter Tryz.func117, Tryz.ntmps117
    go_wp2
    go_ret
    exact ⟨ret_int (by rw [HS.out]; first | omega | (simp only [IntKind.wrap_u8']; omega)), rfl⟩
  · have HS := Lib.hid (small_other (c := c) (by omega))
    have g1 : (90 : Int) < c.toNat := by omega
    go_enter Tryz.func117, Tryz.ntmps117
    go_wp2
    go_ret
    exact ⟨ret_int (by rw [HS.out]), rfl⟩

set_option maxHeartbeats 400000 in
theorem digit_any (c : UInt8) (w : World) : Calls Tryz.prog 84 #[.int .u8 c.toNat] w fun e w' => e = .returned (.bool (digitB c)) ∧ w = w' := by
  rcases (show c.toNat < 48 ∨ (48 ≤ c.toNat ∧ c.toNat ≤ 57) ∨ 57 < c.toNat from by omega) with h | h | h
  · have HD := Lib.hid (show digitB c = false from by unfold digitB; rw [decide_eq_false_iff_not]; omega)
    have g1 : (c.toNat : Int) < 48 := by omega
    go_enter Tryz.func84, Tryz.ntmps84
    go_wp2
    go_ret
    exact ⟨ret_bool (by (rw [HD.out]) <;> exact decide_eq_false (by omega)), rfl⟩
  · have HD := Lib.hid (show digitB c = true from by unfold digitB; rw [decide_eq_true_iff]; omega)
    have g1 : (48 : Int) ≤ c.toNat := by omega
    have g2 : (c.toNat : Int) ≤ 57 := by omega
    go_enter Tryz.func84, Tryz.ntmps84
    go_wp2
    go_ret
    exact ⟨ret_bool (by (rw [HD.out]) <;> exact decide_eq_false (by omega)), rfl⟩
  · have HD := Lib.hid (show digitB c = false from by unfold digitB; rw [decide_eq_false_iff_not]; omega)
    have g1 : (57 : Int) < c.toNat := by omega
    go_enter Tryz.func84, Tryz.ntmps84
    go_wp2
    go_ret
    exact ⟨ret_bool (by (rw [HD.out]) <;> exact decide_eq_false (by omega)), rfl⟩

end Go.Proofs.YtkbcklaloblmeaaGreatDoor.NormS
namespace Go.Proofs.YtkbcklaloblmeaaGreatDoor.NormS
open Go.RowKit HeadMath NormMath

theorem ret_tuple2 {a b c d : Value} (h : a = c) (h' : b = d) : Ending.returned (.tuple #[a, b]) = .returned (.tuple #[c, d]) := by rw [h, h']
theorem int_eq {k : IntKind} {a b : Int} (h : a = b) : Value.int k a = .int k b := by rw [h]
theorem bool_eq {a b : Bool} (h : a = b) : Value.bool a = .bool b := by rw [h]

/-- What a digit is worth; nought where it is none. -/
def hexN (c : UInt8) : Nat := (hexV c).getD 0
def hexB (c : UInt8) : Bool := (hexV c).isSome
theorem hex_digit {c : UInt8} (h : 48 ≤ c.toNat ∧ c.toNat ≤ 57) : hexV c = some (c.toNat - 48) := by unfold hexV; rw [if_pos h]
theorem hex_small {c : UInt8} (h : 97 ≤ c.toNat ∧ c.toNat ≤ 102) : hexV c = some (c.toNat - 87) := by unfold hexV; rw [if_neg (by omega), if_pos h]
theorem hex_great {c : UInt8} (h : 65 ≤ c.toNat ∧ c.toNat ≤ 70) : hexV c = some (c.toNat - 55) := by unfold hexV; rw [if_neg (by omega), if_neg (by omega), if_pos h]
theorem hex_none {c : UInt8} (h1 : ¬ (48 ≤ c.toNat ∧ c.toNat ≤ 57)) (h2 : ¬ (97 ≤ c.toNat ∧ c.toNat ≤ 102)) (h3 : ¬ (65 ≤ c.toNat ∧ c.toNat ≤ 70)) : hexV c = none := by unfold hexV; rw [if_neg h1, if_neg h2, if_neg h3]

def HexPost (c : UInt8) (w : World) (e : Ending) (w' : World) : Prop := e = .returned (.tuple #[.int .i64 (hexN c), .bool (hexB c)]) ∧ w = w'

set_option maxHeartbeats 1000000 in
theorem hex_any (c : UInt8) (w : World) : Calls Tryz.prog 107 #[.int .u8 c.toNat] w (HexPost c w) := by
  obtain ⟨d, hd⟩ : ∃ d, small c = d := ⟨_, rfl⟩
  have hc := u8_lt c
  have HS := Lib.hid hd
  by_cases h1 : 48 ≤ c.toNat ∧ c.toNat ≤ 57
  · have e : d = c := by rw [← hd, small_other (by omega)]
    subst e
    have HV := Lib.hid (hex_digit h1)
    have HD := Lib.hid (show digitB d = true by unfold digitB; exact decide_eq_true h1)
    clear hd
    go_enter Tryz.func107, Tryz.ntmps107
    go_wp2_with fail
    refine (small_any _ _).mono ?_
    rintro e w1 ⟨rfl, rfl⟩
    rw [HS.out]
    go_wp2_with fail
    refine (digit_any _ _).mono ?_
    rintro e w1 ⟨rfl, rfl⟩
    rw [HD.out]
    go_wp2
    go_ret2
    exact ⟨ret_tuple2 (int_eq (by unfold hexN; rw [HV.out]; simp only [Option.getD_some]; first | omega | (simp only [IntKind.wrap_u8']; omega))) (bool_eq (by unfold hexB; rw [HV.out]; rfl)), rfl⟩
  · by_cases h2 : 97 ≤ d.toNat ∧ d.toNat ≤ 102
    · have HV : Hid (hexV c = some (d.toNat - 87)) := by
        by_cases hu : 65 ≤ c.toNat ∧ c.toNat ≤ 90
        · have := small_up hu; rw [hd] at this
          rw [show d.toNat - 87 = c.toNat - 55 by omega]; exact Lib.hid (hex_great (by omega))
        · have : d = c := by rw [← hd, small_other hu]
          subst this; exact Lib.hid (hex_small h2)
      have HD := Lib.hid (show digitB d = false by unfold digitB; exact decide_eq_false (by omega))
      have g1 : (97 : Int) ≤ d.toNat := by omega
      have g2 : (d.toNat : Int) ≤ 102 := by omega
      clear hd
      go_enter Tryz.func107, Tryz.ntmps107
      go_wp2_with fail
      refine (small_any _ _).mono ?_
      rintro e w1 ⟨rfl, rfl⟩
      rw [HS.out]
      go_wp2_with fail
      refine (digit_any _ _).mono ?_
      rintro e w1 ⟨rfl, rfl⟩
      rw [HD.out]
      go_wp2
      go_ret2
      exact ⟨ret_tuple2 (int_eq (by unfold hexN; rw [HV.out]; simp only [Option.getD_some]; first | omega | (simp only [IntKind.wrap_u8']; omega))) (bool_eq (by unfold hexB; rw [HV.out]; rfl)), rfl⟩
    · have HV : Hid (hexV c = none) := by
        by_cases hu : 65 ≤ c.toNat ∧ c.toNat ≤ 90
        · have := small_up hu; rw [hd] at this
          exact Lib.hid (hex_none h1 (by omega) (by omega))
        · have : d = c := by rw [← hd, small_other hu]
          subst this; exact Lib.hid (hex_none h1 h2 (by omega))
      have HD : Hid (digitB d = false) := by
        refine Lib.hid ?_
        unfold digitB; refine decide_eq_false ?_
        by_cases hu : 65 ≤ c.toNat ∧ c.toNat ≤ 90
        · have := small_up hu; rw [hd] at this; omega
        · have : d = c := by rw [← hd, small_other hu]
          subst this; exact h1
      rcases (show d.toNat < 97 ∨ 102 < d.toNat by omega) with h | h
      · have g1 : (d.toNat : Int) < 97 := by omega
        clear hd h2
        go_enter Tryz.func107, Tryz.ntmps107
        go_wp2_with fail
        refine (small_any _ _).mono ?_
        rintro e w1 ⟨rfl, rfl⟩
        rw [HS.out]
        go_wp2_with fail
        refine (digit_any _ _).mono ?_
        rintro e w1 ⟨rfl, rfl⟩
        rw [HD.out]
        go_wp2
        go_ret2
        exact ⟨ret_tuple2 (int_eq (by unfold hexN; rw [HV.out]; rfl)) (bool_eq (by unfold hexB; rw [HV.out]; rfl)), rfl⟩
      · have g1 : (97 : Int) ≤ d.toNat := by omega
        have g2 : (102 : Int) < d.toNat := by omega
        clear hd h2
        go_enter Tryz.func107, Tryz.ntmps107
        go_wp2_with fail
        refine (small_any _ _).mono ?_
        rintro e w1 ⟨rfl, rfl⟩
        rw [HS.out]
        go_wp2_with fail
        refine (digit_any _ _).mono ?_
        rintro e w1 ⟨rfl, rfl⟩
        rw [HD.out]
        go_wp2
        go_ret2
        exact ⟨ret_tuple2 (int_eq (by unfold hexN; rw [HV.out]; rfl)) (bool_eq (by unfold hexB; rw [HV.out]; rfl)), rfl⟩
end Go.Proofs.YtkbcklaloblmeaaGreatDoor.NormS
namespace Go.Proofs.YtkbcklaloblmeaaGreatDoor.LineMath
open Go Go.Proofs.YtkbcklaloblmeaaGreatDoor HeadMath NormMath NormS

abbrev Bs := List UInt8
/-- A byte that can't stand in quotes by itself. -/
def needs (c : UInt8) : Bool := decide (c.toNat < 32) || decide (127 ≤ c.toNat)
def hexD (k : Nat) : UInt8 := if k < 10 then UInt8.ofNat (48 + k) else UInt8.ofNat (87 + k)
/-- One byte as it stands in quotes. -/
def signT (c : UInt8) : Bs :=
  if c = 34 ∨ c = 92 then [92, c]
  else if needs c = true then [92, 120, hexD (c.toNat / 16), hexD (c.toNat % 16)] else [c]
def bodyT (s : Bs) : Bs := s.flatMap signT
def quoteT (s : Bs) : Bs := 34 :: (bodyT s ++ [34])
/-- One byte read as it stands in quotes, and how many it takes there. -/
def signF : Bs → Option (UInt8 × Nat)
  | [] => none
  | c :: r =>
    if c = 92 then match r with
      | d :: r2 =>
        if d = 34 ∨ d = 92 then some (d, 2)
        else if d = 120 then match r2 with
          | h :: l :: _ => if hexB h = true ∧ hexB l = true ∧ needs (UInt8.ofNat (16 * hexN h + hexN l)) = true then some (UInt8.ofNat (16 * hexN h + hexN l), 4) else none
          | _ => none
        else none
      | [] => none
    else if needs c = true then none else some (c, 1)
/-- What stands in quotes, to the closing one. -/
def quotedG : Nat → Bs → Bs → Option (Bs × Bs)
  | 0, _, _ => none
  | f + 1, acc, s => match s with
    | [] => none
    | c :: r =>
      if c = 34 then some (acc, r)
      else match signF (c :: r) with
        | none => none
        | some (x, n) => quotedG f (acc ++ [x]) ((c :: r).drop n)
def quotedF : Bs → Option (Bs × Bs)
  | [] => none
  | c :: r => if c = 34 then quotedG (r.length + 1) [] r else none
def unquoteF (s : Bs) : Option Bs := match quotedF s with
  | some (v, []) => some v
  | _ => none

theorem hexD_of (k : Nat) (hk : k < 16) : hexB (hexD k) = true ∧ hexN (hexD k) = k := by
  have H : ∀ k : Fin 16, hexB (hexD k.val) = true ∧ hexN (hexD k.val) = k := by decide
  exact H ⟨k, hk⟩
theorem sign_ok (c : UInt8) (r : Bs) : signF (signT c ++ r) = some (c, (signT c).length) ∧ (signT c ++ r).head? ≠ some 34 ∧ 0 < (signT c).length := by
  by_cases h1 : c = 34 ∨ c = 92
  · have e : signT c = [92, c] := by unfold signT; rw [if_pos h1]
    rw [e]
    refine ⟨?_, by simp, by simp⟩
    show signF (92 :: c :: r) = _
    unfold signF
    simp only [if_true, if_pos h1]
    rfl
  · by_cases h2 : needs c = true
    · have hc : c.toNat < 256 := UInt8.toNat_lt c
      have e : signT c = [92, 120, hexD (c.toNat / 16), hexD (c.toNat % 16)] := by unfold signT; rw [if_neg h1, if_pos h2]
      obtain ⟨a1, a2⟩ := hexD_of (c.toNat / 16) (by omega)
      obtain ⟨b1, b2⟩ := hexD_of (c.toNat % 16) (by omega)
      have hv : UInt8.ofNat (16 * (c.toNat / 16) + c.toNat % 16) = c := by
        rw [Nat.div_add_mod]
        simp
      rw [e]
      refine ⟨?_, by simp, by simp⟩
      show signF (92 :: 120 :: hexD (c.toNat / 16) :: hexD (c.toNat % 16) :: r) = _
      unfold signF
      simp only [if_true]
      rw [if_neg (by decide), a2, b2, hv, if_pos ⟨a1, b1, h2⟩]
      rfl
    · have e : signT c = [c] := by unfold signT; rw [if_neg h1, if_neg h2]
      rw [e]
      refine ⟨?_, ?_, by simp⟩
      · show signF (c :: r) = _
        unfold signF
        simp only [if_neg (fun h => h1 (.inr h) : ¬ c = 92), if_neg h2]
        rfl
      · intro h
        injection h with h
        exact h1 (.inl h)
theorem quotedG_text (r : Bs) : ∀ (s acc : Bs) (f : Nat), s.length < f → quotedG f acc (bodyT s ++ 34 :: r) = some (acc ++ s, r)
  | [], acc, f, h => by
    obtain ⟨f, rfl⟩ : ∃ k, f = k + 1 := ⟨f - 1, by omega⟩
    show quotedG (f + 1) acc (34 :: r) = _
    rw [quotedG]
    simp
  | c :: s, acc, f, h => by
    obtain ⟨f, rfl⟩ : ∃ k, f = k + 1 := ⟨f - 1, by simp at h; omega⟩
    have e : bodyT (c :: s) ++ 34 :: r = signT c ++ (bodyT s ++ 34 :: r) := by simp [bodyT]
    obtain ⟨h1, h2, h3⟩ := sign_ok c (bodyT s ++ 34 :: r)
    have ih := quotedG_text r s (acc ++ [c]) f (by simp at h; omega)
    rw [e]
    have hd : (signT c ++ (bodyT s ++ 34 :: r)).drop (signT c).length = bodyT s ++ 34 :: r := List.drop_left
    cases hs : signT c ++ (bodyT s ++ 34 :: r) with
    | nil =>
      have := congrArg List.length hs
      simp at this
    | cons x t =>
      rw [hs] at h1 h2 hd
      rw [quotedG, if_neg (fun e => h2 (by rw [e]; rfl)), h1]
      simp only
      rw [hd, ih, List.append_assoc]
      rfl
theorem bodyT_len (s : Bs) : s.length ≤ (bodyT s).length := by
  induction s with
  | nil => exact Nat.le_refl _
  | cons c s ih =>
    have h := (sign_ok c []).2.2
    simp only [bodyT, List.flatMap_cons, List.length_append, List.length_cons] at ih ⊢
    omega
/-- What is quoted is told from its quotes, whatever stands behind. -/
theorem quoted_quote (s r : Bs) : quotedF (quoteT s ++ r) = some (s, r) := by
  have e : quoteT s ++ r = 34 :: (bodyT s ++ 34 :: r) := by simp [quoteT]
  rw [e]
  show quotedG ((bodyT s ++ 34 :: r).length + 1) [] (bodyT s ++ 34 :: r) = _
  rw [quotedG_text r s [] _ (by rw [List.length_append]; have := bodyT_len s; omega), List.nil_append]
theorem unquote_quote (s : Bs) : unquoteF (quoteT s) = some s := by
  have := quoted_quote s []
  rw [List.append_nil] at this
  unfold unquoteF
  rw [this]
/-- In quotes there are printable bytes alone. -/
theorem sign_prints (c : UInt8) : ∀ x ∈ signT c, 32 ≤ x.toNat ∧ x.toNat ≤ 126 := by
  have H : ∀ k : Fin 16, 32 ≤ (hexD k.val).toNat ∧ (hexD k.val).toNat ≤ 126 := by decide
  intro x hx
  unfold signT at hx
  split at hx
  · rename_i h
    simp only [List.mem_cons, List.not_mem_nil, or_false] at hx
    rcases hx with rfl | rfl
    · exact ⟨by decide, by decide⟩
    · rcases h with rfl | rfl <;> exact ⟨by decide, by decide⟩
  · split at hx
    · have hc : c.toNat < 256 := UInt8.toNat_lt c
      simp only [List.mem_cons, List.not_mem_nil, or_false] at hx
      rcases hx with rfl | rfl | rfl | rfl
      · exact ⟨by decide, by decide⟩
      · exact ⟨by decide, by decide⟩
      · exact H ⟨c.toNat / 16, by omega⟩
      · exact H ⟨c.toNat % 16, by omega⟩
    · rename_i _ h
      obtain rfl : x = c := by simpa using hx
      simp only [needs, Bool.or_eq_true, decide_eq_true_eq] at h
      omega
theorem quote_prints (s : Bs) : ∀ x ∈ quoteT s, 32 ≤ x.toNat ∧ x.toNat ≤ 126 := by
  intro x hx
  simp only [quoteT, bodyT, List.mem_cons, List.mem_append, List.mem_flatMap, List.not_mem_nil, or_false] at hx
  rcases hx with rfl | ⟨c, _, h⟩ | rfl
  · exact ⟨by decide, by decide⟩
  · exact sign_prints c x h
  · exact ⟨by decide, by decide⟩
end Go.Proofs.YtkbcklaloblmeaaGreatDoor.LineMath
namespace Go.Proofs.YtkbcklaloblmeaaGreatDoor.LineMath
open Go Go.Proofs.YtkbcklaloblmeaaGreatDoor HeadMath NormMath NormS

structure LineV where
  time : Int
  how : Int
  method : Bs
  host : Bs
  target : Bs
  status : Int
  size : Int
deriving DecidableEq

/-- The words for how a request was answered. -/
def howB : Nat → Bs
  | 0 => [104, 105, 116]
  | 1 => [109, 105, 115, 115]
  | 2 => [99, 104, 101, 99, 107]
  | 3 => [100, 101, 110, 121]
  | 4 => [101, 114, 114, 111, 114]
  | 5 => [99, 111, 110, 115, 111, 108, 101]
  | _ => []
def howF (w : Bs) : Int := if w = howB 0 then 0 else if w = howB 1 then 1 else if w = howB 2 then 2 else if w = howB 3 then 3 else if w = howB 4 then 4 else if w = howB 5 then 5 else -1
/-- A number, one below 0 as 0. -/
def natT (n : Int) : Bs := Lib.decDigits (max n 0).toNat
def howT (n : Int) : Bs := if 0 ≤ n ∧ n < 6 then howB n.toNat else natT n
def timeT (t : Int) : Bs := DateMath.plainT (DateMath.momOf (min (max t 0) 253402300799).toNat)
/-- A line's text. -/
def lineT (l : LineV) : Bs := timeT l.time ++ 32 :: (howT l.how ++ 32 :: (quoteT l.method ++ 32 :: (quoteT l.host ++ 32 :: (quoteT l.target ++ 32 :: (natT l.status ++ 32 :: natT l.size)))))

/-- A reader: what it hasn't read, and whether all was fine. -/
structure Rd where
  rest : Bs
  fine : Bool
def spaceS (r : Rd) : Rd := match r.rest with
  | [] => ⟨[], false⟩
  | c :: t => if c = 32 then ⟨t, r.fine⟩ else ⟨c :: t, false⟩
def wordOf (s : Bs) : Bs := s.takeWhile (fun c => decide (c ≠ 32))
def wordS (r : Rd) : Bs × Rd := (wordOf (spaceS r).rest, ⟨(spaceS r).rest.drop (wordOf (spaceS r).rest).length, (spaceS r).fine⟩)
def quotedS (r : Rd) : Bs × Rd := match quotedF (spaceS r).rest with
  | some (v, t) => (v, ⟨t, (spaceS r).fine⟩)
  | none => ([], ⟨[], false⟩)
def wholeF (w : Bs) : Option Nat := match DateMath.numF w 9 with
  | some n => if Lib.decDigits n = w then some n else none
  | none => none
def numberS (r : Rd) : Nat × Rd := (((DateMath.numF (wordS r).1 9).getD 0), ⟨(wordS r).2.rest, (wordS r).2.fine && (wholeF (wordS r).1).isSome⟩)
noncomputable def lineF (s : Bs) : Option LineV :=
  if s.length < 29 then none
  else if (DateMath.readF (s.take 29)).2 ≠ 0 then none
  else
    let a := wordS ⟨s.drop 29, true⟩
    let m := quotedS a.2
    let h := quotedS m.2
    let t := quotedS h.2
    let x := numberS t.2
    let y := numberS x.2
    if y.2.fine = true ∧ 0 ≤ howF a.1 ∧ y.2.rest = [] then some ⟨(DateMath.readF (s.take 29)).1, howF a.1, m.1, h.1, t.1, x.1, y.1⟩ else none

theorem space_fine {r : Rd} (h : (spaceS r).fine = true) : r.fine = true ∧ ∃ t, r.rest = 32 :: t ∧ spaceS r = ⟨t, true⟩ := by
  obtain ⟨rest, fine⟩ := r
  cases rest with
  | nil => cases h
  | cons c t =>
    unfold spaceS at h ⊢
    by_cases hc : c = 32
    · subst hc
      simp only [if_true] at h ⊢
      exact ⟨h, t, rfl, by rw [h]⟩
    · simp only [if_neg hc] at h
      cases h
theorem space_yes (t : Bs) (f : Bool) : spaceS ⟨32 :: t, f⟩ = ⟨t, f⟩ := by unfold spaceS; simp
theorem space_no (r : Rd) (h : ∀ t, r.rest ≠ 32 :: t) : spaceS r = ⟨r.rest, false⟩ := by
  obtain ⟨rest, fine⟩ := r
  cases rest with
  | nil => rfl
  | cons c t =>
    unfold spaceS
    simp only
    rw [if_neg (fun e => h t (by rw [e]))]
theorem word_fine {r : Rd} (h : (wordS r).2.fine = true) : r.fine = true := (space_fine h).1
theorem quoted_fine {r : Rd} (h : (quotedS r).2.fine = true) : (spaceS r).fine = true := by
  unfold quotedS at h
  split at h
  · exact h
  · cases h
theorem number_fine {r : Rd} (h : (numberS r).2.fine = true) : (wordS r).2.fine = true ∧ (wholeF (wordS r).1).isSome = true := by
  have : ((wordS r).2.fine && (wholeF (wordS r).1).isSome) = true := h
  simpa using this

theorem word_stop (w t : Bs) (hw : ∀ c ∈ w, c ≠ 32) (ht : t = [] ∨ ∃ u, t = 32 :: u) : wordOf (w ++ t) = w := by
  unfold wordOf
  induction w with
  | nil =>
    rcases ht with rfl | ⟨u, rfl⟩
    · rfl
    · simp
  | cons c w ih =>
    rw [List.cons_append, List.takeWhile_cons, if_pos (by simpa using hw c (by simp)), ih (fun x hx => hw x (by simp [hx]))]
theorem wordS_text (w t : Bs) (f : Bool) (hw : ∀ c ∈ w, c ≠ 32) (ht : t = [] ∨ ∃ u, t = 32 :: u) : wordS ⟨32 :: (w ++ t), f⟩ = (w, ⟨t, f⟩) := by
  unfold wordS
  rw [space_yes]
  simp only [word_stop w t hw ht, List.drop_left]
theorem quotedS_text (v t : Bs) (f : Bool) : quotedS ⟨32 :: (quoteT v ++ t), f⟩ = (v, ⟨t, f⟩) := by
  unfold quotedS
  rw [space_yes]
  simp only [quoted_quote v t]

theorem dec_digit (n : Nat) : ∀ c ∈ Lib.decDigits n, DateMath.digitD c = true := by
  induction n using Nat.strongRecOn with
  | _ n ih =>
    by_cases h : n < 10
    · rw [Lib.decDigits_one h]
      intro c hc
      obtain rfl : c = UInt8.ofNat (48 + n) := by simpa using hc
      exact DateMath.digitD_dig n (by omega)
    · rw [show Lib.decDigits n = Lib.decDigits (n / 10) ++ [UInt8.ofNat (48 + n % 10)] from by rw [Lib.decDigits, dif_neg h]]
      intro c hc
      rcases List.mem_append.1 hc with hc | hc
      · exact ih (n / 10) (by omega) c hc
      · obtain rfl : c = UInt8.ofNat (48 + n % 10) := by simpa using hc
        exact DateMath.digitD_dig (n % 10) (by omega)
theorem dec_nonnil (n : Nat) : Lib.decDigits n ≠ [] := by
  by_cases h : n < 10
  · rw [Lib.decDigits_one h]; simp
  · rw [show Lib.decDigits n = Lib.decDigits (n / 10) ++ [UInt8.ofNat (48 + n % 10)] from by rw [Lib.decDigits, dif_neg h]]; simp
theorem val_snoc (l : Bs) (c : UInt8) : DateMath.valD (l ++ [c]) = DateMath.valD l * 10 + (c.toNat - 48) := by unfold DateMath.valD; rw [List.foldl_append]; rfl
theorem dec_val (n : Nat) : DateMath.valD (Lib.decDigits n) = n := by
  induction n using Nat.strongRecOn with
  | _ n ih =>
    by_cases h : n < 10
    · rw [Lib.decDigits_one h]
      show 0 * 10 + ((UInt8.ofNat (48 + n)).toNat - 48) = n
      have := DateMath.dig_nat n (by omega)
      unfold DateMath.dig at this
      rw [this]; omega
    · rw [show Lib.decDigits n = Lib.decDigits (n / 10) ++ [UInt8.ofNat (48 + n % 10)] from by rw [Lib.decDigits, dif_neg h], val_snoc, ih (n / 10) (by omega)]
      have := DateMath.dig_nat (n % 10) (by omega)
      unfold DateMath.dig at this
      rw [this]; omega
theorem dec_len9 : ∀ (k n : Nat), n < 10 ^ (k + 1) → (Lib.decDigits n).length ≤ k + 1
  | 0, n, h => by rw [Lib.decDigits_one (by simpa using h)]; simp
  | k + 1, n, h => by
    by_cases h10 : n < 10
    · rw [Lib.decDigits_one h10]; simp
    · rw [show Lib.decDigits n = Lib.decDigits (n / 10) ++ [UInt8.ofNat (48 + n % 10)] from by rw [Lib.decDigits, dif_neg h10], List.length_append]
      have := dec_len9 k (n / 10) (by rw [Nat.pow_succ] at h; omega)
      simp; omega
theorem num_dec (n : Nat) (h : n ≤ 999999999) : DateMath.numF (Lib.decDigits n) 9 = some n := by
  unfold DateMath.numF
  have h1 : (Lib.decDigits n).length ≠ 0 := fun e => dec_nonnil n (List.eq_nil_of_length_eq_zero e)
  have h2 : (Lib.decDigits n).all DateMath.digitD = true := by
    rw [List.all_eq_true]
    exact fun c hc => dec_digit n c hc
  rw [if_pos ⟨h1, dec_len9 8 n (by omega), h2⟩, dec_val]
theorem whole_dec (n : Nat) (h : n ≤ 999999999) : wholeF (Lib.decDigits n) = some n := by
  unfold wholeF
  rw [num_dec n h]
  simp
theorem dec_of_val : ∀ (k : Nat) (l : Bs), l.length = k → l ≠ [] → (∀ c ∈ l, DateMath.digitD c = true) → (l.length = 1 ∨ l.head? ≠ some 48) → Lib.decDigits (DateMath.valD l) = l ∧ (l.head? ≠ some 48 → 0 < DateMath.valD l)
  | 0, l, hk, hn, _, _ => absurd (List.eq_nil_of_length_eq_zero hk) hn
  | k + 1, l, hk, hn, hd, h0 => by
    obtain ⟨m, c, rfl⟩ : ∃ m c, l = m ++ [c] := ⟨l.dropLast, l.getLast hn, (List.dropLast_concat_getLast hn).symm⟩
    have hc : DateMath.digitD c = true := hd c (by simp)
    unfold DateMath.digitD at hc
    rw [decide_eq_true_iff] at hc
    have hcc : UInt8.ofNat (48 + (c.toNat - 48)) = c := by
      apply UInt8.toNat_inj.1
      simp; omega
    rw [val_snoc]
    by_cases hm : m = []
    · subst hm
      have e : DateMath.valD [] * 10 + (c.toNat - 48) = c.toNat - 48 := by show 0 * 10 + _ = _; omega
      rw [e, Lib.decDigits_one (by omega), hcc]
      refine ⟨rfl, ?_⟩
      intro h
      have : c ≠ 48 := fun e => h (by rw [e]; rfl)
      have : c.toNat ≠ 48 := fun e => this (UInt8.toNat_inj.1 e)
      omega
    · have hh : (m ++ [c]).head? = m.head? := by
        cases m with
        | nil => exact absurd rfl hm
        | cons a m => rfl
      have hl : m.length = k := by simp at hk; omega
      have h48 : m.head? ≠ some 48 := by
        rcases h0 with h0 | h0
        · have : 0 < m.length := List.length_pos_iff.2 hm
          rw [List.length_append, List.length_singleton] at h0; omega
        · rwa [hh] at h0
      have ih := dec_of_val k m hl hm (fun x hx => hd x (by simp [hx])) (.inr h48)
      have hp := ih.2 h48
      refine ⟨?_, fun _ => by omega⟩
      have hge : ¬ DateMath.valD m * 10 + (c.toNat - 48) < 10 := by omega
      rw [Lib.decDigits, dif_neg hge, show (DateMath.valD m * 10 + (c.toNat - 48)) / 10 = DateMath.valD m by omega, ih.1, show (DateMath.valD m * 10 + (c.toNat - 48)) % 10 = c.toNat - 48 by omega, hcc]
theorem dec_head (n : Nat) (h : (Lib.decDigits n).length ≠ 1) : (Lib.decDigits n).head? ≠ some 48 := by
  induction n using Nat.strongRecOn with
  | _ n ih =>
    by_cases h10 : n < 10
    · rw [Lib.decDigits_one h10] at h; exact absurd rfl h
    · have e : Lib.decDigits n = Lib.decDigits (n / 10) ++ [UInt8.ofNat (48 + n % 10)] := by rw [Lib.decDigits, dif_neg h10]
      have hh : (Lib.decDigits n).head? = (Lib.decDigits (n / 10)).head? := by
        rw [e]
        have := dec_nonnil (n / 10)
        cases hd : Lib.decDigits (n / 10) with
        | nil => exact absurd hd this
        | cons a m => rfl
      rw [hh]
      by_cases h1 : (Lib.decDigits (n / 10)).length = 1
      · by_cases h2 : n / 10 < 10
        · rw [Lib.decDigits_one h2]
          intro e
          have e2 : UInt8.ofNat (48 + n / 10) = 48 := by simpa using e
          have e3 := congrArg UInt8.toNat e2
          simp at e3
          omega
        · have e : Lib.decDigits (n / 10) = Lib.decDigits (n / 10 / 10) ++ [UInt8.ofNat (48 + n / 10 % 10)] := by rw [Lib.decDigits, dif_neg h2]
          rw [e, List.length_append] at h1
          have := List.length_pos_iff.2 (dec_nonnil (n / 10 / 10))
          rw [List.length_singleton] at h1; omega
      · exact ih (n / 10) (by omega) h1
/-- A number without noughts ahead: the reference's way and the program's. -/
theorem whole_eq (w : Bs) : wholeF w = match DateMath.numF w 9 with
    | some n => if w.length = 1 ∨ w.head? ≠ some 48 then some n else none
    | none => none := by
  unfold wholeF
  cases hn : DateMath.numF w 9 with
  | none => rfl
  | some n =>
    simp only
    unfold DateMath.numF at hn
    split at hn
    · rename_i hc
      have hv := Option.some.inj hn
      by_cases h : w.length = 1 ∨ w.head? ≠ some 48
      · rw [if_pos h, if_pos ?_]
        have := (dec_of_val w.length w rfl (fun e => hc.1 (by rw [e]; rfl)) (by simpa using hc.2.2) h).1
        rwa [hv] at this
      · rw [if_neg h, if_neg ?_]
        intro e
        apply h
        rw [← e]
        by_cases h1 : (Lib.decDigits n).length = 1
        · exact .inl h1
        · exact .inr (dec_head n h1)
    · cases hn
theorem dec_space (n : Nat) : ∀ c ∈ Lib.decDigits n, c ≠ 32 := by
  intro c hc e
  have := dec_digit n c hc
  rw [e] at this
  exact absurd this (by decide)
theorem howB_space (k : Nat) : ∀ c ∈ howB k, c ≠ 32 := by
  match k with
  | 0 => decide
  | 1 => decide
  | 2 => decide
  | 3 => decide
  | 4 => decide
  | 5 => decide
  | n + 6 => intro c hc; cases hc
theorem howF_howB (k : Nat) (h : k < 6) : howF (howB k) = k := by
  match k, h with
  | 0, _ => decide
  | 1, _ => decide
  | 2, _ => decide
  | 3, _ => decide
  | 4, _ => decide
  | 5, _ => decide
theorem time_len (t : Int) : (timeT t).length = 29 := DateMath.plain_len (DateMath.mom_ok _ (by unfold DateMath.maxT; omega))
/-- A line that may be is read back from its text. -/
theorem line_back (l : LineV) (h1 : 0 ≤ l.time) (h2 : l.time ≤ 253402300799) (h3 : 0 ≤ l.how) (h4 : l.how < 6) (h5 : 0 ≤ l.status) (h6 : l.status ≤ 999999999) (h7 : 0 ≤ l.size) (h8 : l.size ≤ 999999999) : lineF (lineT l) = some l := by
  have e1 : (lineT l).take 29 = timeT l.time := by unfold lineT; rw [List.take_left' (time_len _)]
  have e2 : (lineT l).drop 29 = 32 :: (howT l.how ++ 32 :: (quoteT l.method ++ 32 :: (quoteT l.host ++ 32 :: (quoteT l.target ++ 32 :: (natT l.status ++ 32 :: natT l.size))))) := by unfold lineT; rw [List.drop_left' (time_len _)]
  have e3 : DateMath.readF (timeT l.time) = (l.time, 0) := by
    have := DateMath.read_yes (t := (min (max l.time 0) 253402300799).toNat) (l := timeT l.time) ⟨by unfold DateMath.maxT; omega, .inl rfl⟩
    rw [this]
    congr 1
    omega
  have e4 : howT l.how = howB l.how.toNat := by unfold howT; rw [if_pos ⟨h3, h4⟩]
  have e5 : ∀ n : Int, 0 ≤ n → natT n = Lib.decDigits n.toNat := by intro n h; unfold natT; rw [show max n 0 = n by omega]
  unfold lineF
  rw [if_neg (by unfold lineT; rw [List.length_append, time_len]; omega), e1, e3, if_neg (by simp), e2, e4]
  simp only
  rw [wordS_text _ _ _ (howB_space _) (.inr ⟨_, rfl⟩)]
  simp only
  rw [quotedS_text]
  simp only
  rw [quotedS_text]
  simp only
  rw [quotedS_text]
  simp only
  rw [e5 _ h5, e5 _ h7]
  have w1 := wordS_text (Lib.decDigits l.status.toNat) (32 :: Lib.decDigits l.size.toNat) true (dec_space _) (.inr ⟨_, rfl⟩)
  have w2 := wordS_text (Lib.decDigits l.size.toNat) [] true (dec_space _) (.inl rfl)
  rw [List.append_nil] at w2
  have n1 : numberS ⟨32 :: (Lib.decDigits l.status.toNat ++ 32 :: Lib.decDigits l.size.toNat), true⟩ = (l.status.toNat, ⟨32 :: Lib.decDigits l.size.toNat, true⟩) := by
    unfold numberS
    rw [w1]
    simp only [num_dec _ (show l.status.toNat ≤ 999999999 by omega), whole_dec _ (show l.status.toNat ≤ 999999999 by omega)]
    rfl
  have n2 : numberS ⟨32 :: Lib.decDigits l.size.toNat, true⟩ = (l.size.toNat, ⟨[], true⟩) := by
    unfold numberS
    rw [w2]
    simp only [num_dec _ (show l.size.toNat ≤ 999999999 by omega), whole_dec _ (show l.size.toNat ≤ 999999999 by omega)]
    rfl
  rw [n1]
  simp only
  rw [n2]
  simp only
  rw [howF_howB _ (by omega), if_pos ⟨by simp, by omega, by simp⟩]
  have g1 : ((l.how.toNat : Nat) : Int) = l.how := by omega
  have g2 : ((l.status.toNat : Nat) : Int) = l.status := by omega
  have g3 : ((l.size.toNat : Nat) : Int) = l.size := by omega
  rw [g1, g2, g3]
end Go.Proofs.YtkbcklaloblmeaaGreatDoor.LineMath
namespace Go.Proofs.YtkbcklaloblmeaaGreatDoor.ChunkMath
open Go Go.Proofs.YtkbcklaloblmeaaGreatDoor HeadMath NormMath NormS

abbrev Bs := List UInt8
end Go.Proofs.YtkbcklaloblmeaaGreatDoor.ChunkMath
namespace Go.Proofs.YtkbcklaloblmeaaGreatDoor.NormS
open Go.RowKit HeadMath NormMath

def hexI (c : UInt8) : Int := match hexV c with
  | some a => a
  | none => -1
set_option maxHeartbeats 1000000 in
theorem refHex_any (c : UInt8) (w : World) : Calls Tryz.prog 65 #[.int .u8 c.toNat] w fun e w' => e = .returned (.int .i64 (hexI c)) ∧ w = w' := by
  have hc := u8_lt c
  rcases (show c.toNat < 48 ∨ (48 ≤ c.toNat ∧ c.toNat ≤ 57) ∨ (57 < c.toNat ∧ c.toNat < 65) ∨ (65 ≤ c.toNat ∧ c.toNat ≤ 70) ∨ (70 < c.toNat ∧ c.toNat < 97) ∨ (97 ≤ c.toNat ∧ c.toNat ≤ 102) ∨ 102 < c.toNat from by omega) with h | h | h | h | h | h | h
  · have HV := Lib.hid (show hexI c = -1 by unfold hexI; rw [hex_none (by omega) (by omega) (by omega)])
    have g2 : (c.toNat : Int) < 48 := by omega
    clear h
    go_enter Tryz.func65, Tryz.ntmps65
    go_wp2
    go_ret
    exact ⟨ret_int (by (rw [HV.out]) <;> first | rfl | omega | (simp only [IntKind.wrap_u8']; omega)), rfl⟩
  · have HV := Lib.hid (show hexI c = ((c.toNat - 48 : Nat) : Int) by unfold hexI; rw [hex_digit h])
    have g1 : (48 : Int) ≤ c.toNat := by omega
    have g2 : (c.toNat : Int) ≤ 57 := by omega
    clear h
    go_enter Tryz.func65, Tryz.ntmps65
    go_wp2
    go_ret
    exact ⟨ret_int (by (rw [HV.out]) <;> first | rfl | omega | (simp only [IntKind.wrap_u8']; omega)), rfl⟩
  · have HV := Lib.hid (show hexI c = -1 by unfold hexI; rw [hex_none (by omega) (by omega) (by omega)])
    have g1 : (57 : Int) < c.toNat := by omega
    have g2 : (c.toNat : Int) < 65 := by omega
    clear h
    go_enter Tryz.func65, Tryz.ntmps65
    go_wp2
    go_ret
    exact ⟨ret_int (by (rw [HV.out]) <;> first | rfl | omega | (simp only [IntKind.wrap_u8']; omega)), rfl⟩
  · have HV := Lib.hid (show hexI c = ((c.toNat - 55 : Nat) : Int) by unfold hexI; rw [hex_great h])
    have g1 : (65 : Int) ≤ c.toNat := by omega
    have g2 : (c.toNat : Int) ≤ 70 := by omega
    clear h
    go_enter Tryz.func65, Tryz.ntmps65
    go_wp2
    go_ret
    exact ⟨ret_int (by (rw [HV.out]) <;> first | rfl | omega | (simp only [IntKind.wrap_u8']; omega)), rfl⟩
  · have HV := Lib.hid (show hexI c = -1 by unfold hexI; rw [hex_none (by omega) (by omega) (by omega)])
    have g1 : (70 : Int) < c.toNat := by omega
    have g2 : (c.toNat : Int) < 97 := by omega
    clear h
    go_enter Tryz.func65, Tryz.ntmps65
    go_wp2
    go_ret
    exact ⟨ret_int (by (rw [HV.out]) <;> first | rfl | omega | (simp only [IntKind.wrap_u8']; omega)), rfl⟩
  · have HV := Lib.hid (show hexI c = ((c.toNat - 87 : Nat) : Int) by unfold hexI; rw [hex_small h])
    have g1 : (97 : Int) ≤ c.toNat := by omega
    have g2 : (c.toNat : Int) ≤ 102 := by omega
    clear h
    go_enter Tryz.func65, Tryz.ntmps65
    go_wp2
    go_ret
    exact ⟨ret_int (by (rw [HV.out]) <;> first | rfl | omega | (simp only [IntKind.wrap_u8']; omega)), rfl⟩
  · have HV := Lib.hid (show hexI c = -1 by unfold hexI; rw [hex_none (by omega) (by omega) (by omega)])
    have g1 : (102 : Int) < c.toNat := by omega
    clear h
    go_enter Tryz.func65, Tryz.ntmps65
    go_wp2
    go_ret
    exact ⟨ret_int (by (rw [HV.out]) <;> first | rfl | omega | (simp only [IntKind.wrap_u8']; omega)), rfl⟩

end Go.Proofs.YtkbcklaloblmeaaGreatDoor.NormS
namespace Go.Proofs.YtkbcklaloblmeaaGreatDoor.NormS
open Go.RowKit HeadMath NormMath

theorem hexN_lt (c : UInt8) : hexN c < 16 := by
  unfold hexN
  cases h : hexV c with
  | none => decide
  | some a => exact hexV_lt h
/-- The byte of two digits (of worth nought, where they are none). -/
def pairV (h l : UInt8) : UInt8 := UInt8.ofNat (16 * hexN h + hexN l)
theorem pairV_nat (h l : UInt8) : (pairV h l).toNat = 16 * hexN h + hexN l := by
  have a := hexN_lt h
  have b := hexN_lt l
  unfold pairV; simp; omega
theorem or_nat (a b : Nat) (ha : a < 16) (hb : b < 16) : Go.bits .or .i64 ((a : Int) * 16) (b : Int) = ((16 * a + b : Nat) : Int) := by
  have H : ∀ a : Fin 16, ∀ b : Fin 16, Go.bits .or .i64 (((a.1 : Nat) : Int) * 16) ((b.1 : Nat) : Int) = ((16 * a.1 + b.1 : Nat) : Int) := by decide
  exact H ⟨a, ha⟩ ⟨b, hb⟩

theorem wrap_16 {a : Nat} (h : a < 16) : wrap64 ((a : Int) * 16) = (a : Int) * 16 := by unfold wrap64; omega

theorem hexByte_short (s : ByteArray) (w : World) (h : s.size < 2) : Calls Tryz.prog 93 #[.string s] w fun e w' => e = .returned (.tuple #[.int .u8 0, .bool false]) ∧ w = w' := by
  go_enter Tryz.func93, Tryz.ntmps93
  go_wp2
  go_ret2
  exact ⟨rfl, rfl⟩
set_option maxHeartbeats 1000000 in
theorem hexByte_two (s : ByteArray) (w : World) (h : 2 ≤ s.size) :
    Calls Tryz.prog 93 #[.string s] w fun e w' => e = .returned (.tuple #[.int .u8 (pairV (s[0]'(by omega)) (s[1]'(by omega))).toNat, .bool (hexB (s[0]'(by omega)) && hexB (s[1]'(by omega)))]) ∧ w = w' := by
  have l0 : 0 < s.size := by omega
  have l1 : 1 < s.size := by omega
  obtain ⟨x, hx⟩ : ∃ x, s[0] = x := ⟨_, rfl⟩
  obtain ⟨y, hy⟩ : ∃ y, s[1] = y := ⟨_, rfl⟩
  have HX := Lib.hid hx
  have HY := Lib.hid hy
  have HP := Lib.hid (show pairV s[0] s[1] = pairV x y by rw [hx, hy])
  have HB := Lib.hid (show (hexB s[0] && hexB s[1]) = (hexB x && hexB y) by rw [hx, hy])
  have cx := hex_any x
  have cy := hex_any y
  have HV := Lib.hid (pairV_nat x y)
  have HL := Lib.hid (hexN_lt x)
  have HR := Lib.hid (hexN_lt y)
  have HO := Lib.hid (or_nat (hexN x) (hexN y) HL.out HR.out)
  unfold HexPost at cx cy
  cases hbx : hexB x with
  | true =>
    rw [hbx] at cx
    generalize hexN x = a at *
    go_enter Tryz.func93, Tryz.ntmps93
    go_wp2_with fail
    refine (cx _).mono ?_
    rintro e w1 ⟨rfl, rfl⟩
    go_wp2_with fail
    refine (cy _).mono ?_
    rintro e w1 ⟨rfl, rfl⟩
    generalize hexN y = b at *
    go_wp2
    go_ret2
    refine ⟨ret_tuple2 (int_eq ?_) (bool_eq ?_), rfl⟩
    · rw [wrap_16 HL.out, HO.out, hx, hy, HV.out]
      have h1 := HL.out
      have h2 := HR.out
      omega
    · rw [hx, hy, hbx]; rfl
  | false =>
    rw [hbx] at cx
    generalize hexN x = a at *
    go_enter Tryz.func93, Tryz.ntmps93
    go_wp2_with fail
    refine (cx _).mono ?_
    rintro e w1 ⟨rfl, rfl⟩
    go_wp2_with fail
    refine (cy _).mono ?_
    rintro e w1 ⟨rfl, rfl⟩
    generalize hexN y = b at *
    go_wp2
    go_ret2
    refine ⟨ret_tuple2 (int_eq ?_) (bool_eq ?_), rfl⟩
    · rw [wrap_16 HL.out, HO.out, hx, hy, HV.out]
      have h1 := HL.out
      have h2 := HR.out
      omega
    · rw [hx, hy, hbx]; rfl
end Go.Proofs.YtkbcklaloblmeaaGreatDoor.NormS
namespace Go.Proofs.YtkbcklaloblmeaaGreatDoor.LineMath
open Go Go.Proofs.YtkbcklaloblmeaaGreatDoor HeadMath NormMath NormS

def qS : Bs → Option (Bs × Bs)
  | [] => none
  | c :: t => if c = 32 then quotedF t else none
/-- The two numbers at a line's end. -/
def numsF (r : Bs) : Option (Nat × Nat) := match r with
  | [] => none
  | c :: t => if c ≠ 32 then none else
    if (wordOf t).length = t.length then none else
    match wholeF (wordOf t), wholeF (t.drop ((wordOf t).length + 1)) with
    | some a, some b => some (a, b)
    | _, _ => none
def textsF (r : Bs) : Option (Bs × Bs × Bs × Bs) := match qS r with
  | none => none
  | some (m, r1) => match qS r1 with
    | none => none
    | some (h, r2) => match qS r2 with
      | none => none
      | some (t, r3) => some (m, h, t, r3)
noncomputable def refF (s : Bs) : Option LineV :=
  if s.length < 30 ∨ s.getD 29 0 ≠ 32 then none
  else if (DateMath.readF (s.take 29)).2 ≠ 0 then none
  else match textsF ((s.drop 30).drop (wordOf (s.drop 30)).length) with
    | none => none
    | some (m, h, t, r3) =>
      if howF (wordOf (s.drop 30)) < 0 then none else
      match numsF r3 with
      | none => none
      | some (a, b) => some ⟨(DateMath.readF (s.take 29)).1, howF (wordOf (s.drop 30)), m, h, t, a, b⟩

theorem qS_cons (c : UInt8) (t : Bs) : qS (c :: t) = if c = 32 then quotedF t else none := rfl
theorem nums_cons (c : UInt8) (t : Bs) : numsF (c :: t) = if c ≠ 32 then none else if (wordOf t).length = t.length then none else match wholeF (wordOf t), wholeF (t.drop ((wordOf t).length + 1)) with
    | some a, some b => some (a, b)
    | _, _ => none := rfl
theorem q_some {r v t : Bs} (h : qS r = some (v, t)) : quotedS ⟨r, true⟩ = (v, ⟨t, true⟩) := by
  cases r with
  | nil => cases h
  | cons c r =>
    rw [qS_cons] at h
    by_cases hc : c = 32
    · rw [if_pos hc] at h
      subst hc
      unfold quotedS
      rw [space_yes]
      simp only [h]
    · rw [if_neg hc] at h; cases h
theorem q_none {r : Bs} (h : qS r = none) : (quotedS ⟨r, true⟩).2.fine = false := by
  cases r with
  | nil => unfold quotedS spaceS; simp only [quotedF]
  | cons c r =>
    rw [qS_cons] at h
    by_cases hc : c = 32
    · rw [if_pos hc] at h
      subst hc
      unfold quotedS
      rw [space_yes]
      simp only [h]
    · unfold quotedS
      rw [space_no _ (fun t e => hc (by injection e))]
      split <;> rfl
theorem space_bad {r : Rd} (h : r.fine = false) : (spaceS r).fine = false := by
  cases hs : (spaceS r).fine with
  | false => rfl
  | true => exact absurd (space_fine hs).1 (by rw [h]; simp)
theorem quoted_bad {r : Rd} (h : r.fine = false) : (quotedS r).2.fine = false := by
  cases hs : (quotedS r).2.fine with
  | false => rfl
  | true => exact absurd (quoted_fine hs) (by rw [space_bad h]; simp)
theorem word_bad {r : Rd} (h : r.fine = false) : (wordS r).2.fine = false := space_bad h
theorem number_bad {r : Rd} (h : r.fine = false) : (numberS r).2.fine = false := by
  unfold numberS
  simp only [word_bad h, Bool.false_and]
theorem word_stop2 (t : Bs) : t.drop (wordOf t).length = [] ∨ ∃ u, t.drop (wordOf t).length = 32 :: u := by
  induction t with
  | nil => exact .inl rfl
  | cons c t ih =>
    unfold wordOf at ih ⊢
    rw [List.takeWhile_cons]
    by_cases hc : c = 32
    · rw [if_neg (by simp [hc])]
      exact .inr ⟨t, by rw [hc]; rfl⟩
    · rw [if_pos (by simpa using hc)]
      exact ih
theorem word_le (t : Bs) : (wordOf t).length ≤ t.length := by unfold wordOf; exact (List.takeWhile_prefix _).length_le
theorem whole_word {u : Bs} {n : Nat} (h : wholeF u = some n) : wordOf u = u ∧ DateMath.numF u 9 = some n ∧ u ≠ [] := by
  unfold wholeF at h
  cases hn : DateMath.numF u 9 with
  | none => rw [hn] at h; cases h
  | some k =>
    rw [hn] at h
    simp only at h
    split at h
    · rename_i e
      injection h with h
      subst h
      refine ⟨?_, rfl, fun e2 => dec_nonnil k (by rw [e, e2])⟩
      have := word_stop u [] (fun c hc => dec_space k c (by rw [e]; exact hc)) (.inl rfl)
      rwa [List.append_nil] at this
    · cases h
theorem nums_some {r : Bs} {a b : Nat} (h : numsF r = some (a, b)) : (numberS (numberS ⟨r, true⟩).2).2 = ⟨[], true⟩ ∧ (numberS ⟨r, true⟩).1 = a ∧ (numberS (numberS ⟨r, true⟩).2).1 = b := by
  cases r with
  | nil => cases h
  | cons c t =>
    rw [nums_cons] at h
    by_cases hc : c = 32
    · subst hc
      simp only [ne_eq, not_true_eq_false, if_false] at h
      by_cases hl : (wordOf t).length = t.length
      · rw [if_pos hl] at h; cases h
      · rw [if_neg hl] at h
        cases ha : wholeF (wordOf t) with
        | none => rw [ha] at h; cases h
        | some x =>
          cases hb : wholeF (t.drop ((wordOf t).length + 1)) with
          | none => rw [ha, hb] at h; cases h
          | some y =>
            rw [ha, hb] at h
            simp only at h
            injection h with h
            injection h with h1 h2
            subst h1 h2
            have hd : t.drop (wordOf t).length = 32 :: t.drop ((wordOf t).length + 1) := by
              rcases word_stop2 t with e | ⟨u, e⟩
              · have := congrArg List.length e
                rw [List.length_drop] at this
                have := word_le t
                simp at *
                omega
              · rw [e]
                congr 1
                rw [← List.drop_drop, e]
                rfl
            obtain ⟨_, na, _⟩ := whole_word ha
            obtain ⟨wb, nb, _⟩ := whole_word hb
            have q1 : wordS ⟨32 :: t, true⟩ = (wordOf t, ⟨t.drop (wordOf t).length, true⟩) := by
              unfold wordS; rw [space_yes]
            have q2 : numberS ⟨32 :: t, true⟩ = (x, ⟨t.drop (wordOf t).length, true⟩) := by
              unfold numberS
              rw [q1]
              simp only [na, ha]
              rfl
            have q3 : wordS ⟨t.drop (wordOf t).length, true⟩ = (t.drop ((wordOf t).length + 1), ⟨[], true⟩) := by
              rw [hd]
              unfold wordS; rw [space_yes]
              simp only [wb]
              rw [List.drop_length]
            have q4 : numberS ⟨t.drop (wordOf t).length, true⟩ = (y, ⟨[], true⟩) := by
              unfold numberS
              rw [q3]
              simp only [nb, hb]
              rfl
            rw [q2]
            simp only [q4]
            exact ⟨trivial, trivial, trivial⟩
    · rw [if_pos hc] at h; cases h
theorem nums_none {r : Bs} (h : numsF r = none) : ¬ ((numberS (numberS ⟨r, true⟩).2).2.fine = true ∧ (numberS (numberS ⟨r, true⟩).2).2.rest = []) := by
  rintro ⟨h1, h2⟩
  obtain ⟨f1, s1⟩ := number_fine h1
  obtain ⟨g1, t1⟩ := number_fine (word_fine f1)
  obtain ⟨_, u, hr, hs⟩ := space_fine f1
  obtain ⟨_, t, hr0, hs0⟩ := space_fine g1
  have hr1 : r = 32 :: t := hr0
  subst hr1
  have q1 : wordS ⟨32 :: t, true⟩ = (wordOf t, ⟨t.drop (wordOf t).length, true⟩) := by
    unfold wordS; rw [space_yes]
  have e1 : (numberS ⟨32 :: t, true⟩).2.rest = t.drop (wordOf t).length := by unfold numberS; rw [q1]
  rw [e1] at hr
  rw [q1] at t1
  have q3 : (wordS (numberS ⟨32 :: t, true⟩).2).1 = wordOf u := by unfold wordS; rw [hs]
  have q4 : (numberS (numberS ⟨32 :: t, true⟩).2).2.rest = u.drop (wordOf u).length := by
    show (wordS (numberS ⟨32 :: t, true⟩).2).2.rest = _
    unfold wordS; rw [hs]
  rw [q3] at s1
  rw [q4] at h2
  have hu : t.drop ((wordOf t).length + 1) = u := by rw [← List.drop_drop, hr]; rfl
  have hl : (wordOf t).length ≠ t.length := by
    intro e
    rw [e, List.drop_length] at hr
    cases hr
  have hw : wordOf u = u := by
    have hp : wordOf u <+: u := by unfold wordOf; exact List.takeWhile_prefix _
    refine hp.eq_of_length ?_
    have := congrArg List.length h2
    rw [List.length_drop] at this
    have := word_le u
    simp at *
    omega
  rw [hw] at s1
  rw [nums_cons] at h
  simp only [ne_eq, not_true_eq_false, if_false, if_neg hl, hu] at h
  obtain ⟨x, hx⟩ := Option.isSome_iff_exists.1 t1
  obtain ⟨y, hy⟩ := Option.isSome_iff_exists.1 s1
  rw [hx, hy] at h
  cases h
theorem ref_line (s : Bs) : refF s = lineF s := by
  unfold refF lineF
  by_cases h29 : s.length < 29
  · rw [if_pos h29, if_pos (.inl (by omega))]
  · rw [if_neg h29]
    by_cases hd : (DateMath.readF (s.take 29)).2 ≠ 0
    · rw [if_pos hd, if_pos hd]
      split <;> rfl
    · rw [if_neg hd, if_neg hd]
      by_cases h30 : s.length < 30 ∨ s.getD 29 0 ≠ 32
      · rw [if_pos h30]
        have hb : (wordS ⟨s.drop 29, true⟩).2.fine = false := by
          show (spaceS ⟨s.drop 29, true⟩).fine = false
          rw [space_no]
          intro t e
          have e : s.drop 29 = 32 :: t := e
          have hl := congrArg List.length e
          rw [List.length_drop] at hl
          simp at hl
          rcases h30 with h30 | h30
          · omega
          · apply h30
            rw [List.getD_eq_getElem?_getD]
            have : (s.drop 29)[0]? = some 32 := by rw [e]; rfl
            rw [List.getElem?_drop] at this
            rw [this]; rfl
        simp only
        rw [if_neg]
        rintro ⟨f, _⟩
        rw [number_bad (number_bad (quoted_bad (quoted_bad (quoted_bad hb))))] at f
        cases f
      · rw [if_neg h30]
        have hl : 30 ≤ s.length := by omega
        have h32 : s.getD 29 0 = 32 := by
          by_cases e : s.getD 29 0 = 32
          · exact e
          · exact absurd (.inr e) h30
        have ed : s.drop 29 = 32 :: s.drop 30 := by
          rw [List.drop_eq_getElem_cons (by omega)]
          congr 1
          rw [List.getD_eq_getElem?_getD, List.getElem?_eq_getElem (by omega)] at h32
          exact h32
        have q1 : wordS ⟨s.drop 29, true⟩ = (wordOf (s.drop 30), ⟨(s.drop 30).drop (wordOf (s.drop 30)).length, true⟩) := by
          rw [ed]; unfold wordS; rw [space_yes]
        simp only [q1]
        generalize wordOf (s.drop 30) = w
        generalize (s.drop 30).drop w.length = r
        unfold textsF
        cases e1 : qS r with
        | none =>
          simp only
          rw [if_neg]
          rintro ⟨f, _⟩
          rw [number_bad (number_bad (quoted_bad (quoted_bad (q_none e1))))] at f
          cases f
        | some p1 =>
          obtain ⟨m, r1⟩ := p1
          rw [q_some e1]
          simp only
          cases e2 : qS r1 with
          | none =>
            simp only
            rw [if_neg]
            rintro ⟨f, _⟩
            rw [number_bad (number_bad (quoted_bad (q_none e2)))] at f
            cases f
          | some p2 =>
            obtain ⟨h, r2⟩ := p2
            rw [q_some e2]
            simp only
            cases e3 : qS r2 with
            | none =>
              simp only
              rw [if_neg]
              rintro ⟨f, _⟩
              rw [number_bad (number_bad (q_none e3))] at f
              cases f
            | some p3 =>
              obtain ⟨t, r3⟩ := p3
              rw [q_some e3]
              simp only
              by_cases hh : howF w < 0
              · rw [if_pos hh, if_neg]
                rintro ⟨_, f, _⟩
                omega
              · rw [if_neg hh]
                cases e4 : numsF r3 with
                | none =>
                  simp only
                  rw [if_neg]
                  rintro ⟨f, _, g⟩
                  exact nums_none e4 ⟨f, g⟩
                | some p4 =>
                  obtain ⟨a, b⟩ := p4
                  obtain ⟨n1, n2, n3⟩ := nums_some e4
                  simp only
                  rw [n1, n2, n3, if_pos ⟨rfl, by omega, rfl⟩]
end Go.Proofs.YtkbcklaloblmeaaGreatDoor.LineMath
