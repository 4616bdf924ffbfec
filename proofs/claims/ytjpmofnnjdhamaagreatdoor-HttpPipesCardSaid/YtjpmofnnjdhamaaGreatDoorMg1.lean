/-
  Single bytes: small letters, letters, digits, signs, blanks, in the program and in the reference.
  Hexadecimal digits, in the program and in the reference.
  Bodies in chunks: plain mathematics of lists of bytes. Nothing here speaks of the program.
  Single bytes: small letters, letters, digits, signs, blanks, in the program and in the reference.
  The byte that two hexadecimal digits say.
  Messages: plain mathematics of cuts and of the head's end. Nothing here speaks of the program.
  The reference's way to a head's lines: mathematics.
-/
import Derived.Test.YtjpmofnnjdhamaaGreatDoorRows
import Derived.Test.YtjpmofnnjdhamaaGreatDoorShelf
import Derived.WalkKit
import Derived.WalkSpells
import Derived.WalkLawsBesides
import Derived.Lib.Hide
import Derived.Lib.IndexBytes
import Derived.Shelf.Strings.SlTrimAscii
import Derived.Lib.Split
import Derived.Lib.SplitLaws
import Derived.Lib.IndexLaws
import Derived.Lib.IndexMore
import Derived.Test.YtjpmofnnjdhamaaGreatDoorMg0
namespace Go.Proofs.YtjpmofnnjdhamaaGreatDoor.NormS
open Go.RowKit HeadMath

theorem u8_lt (c : UInt8) : c.toNat < 256 := c.toNat_lt

theorem ret_int {k : IntKind} {a b : Int} (h : a = b) : Ending.returned (.int k a) = .returned (.int k b) := by rw [h]
theorem ret_bool {a b : Bool} (h : a = b) : Ending.returned (.bool a) = .returned (.bool b) := by rw [h]

set_option maxHeartbeats 400000 in
theorem small_any (c : UInt8) (w : World) : Calls Tryz.prog 99 #[.int .u8 c.toNat] w fun e w' => e = .returned (.int .u8 (small c).toNat) ∧ w = w' := by
  have hc := u8_lt c
  rcases (show c.toNat < 65 ∨ (65 ≤ c.toNat ∧ c.toNat ≤ 90) ∨ 90 < c.toNat from by omega) with h | h | h
  · have HS := Lib.hid (small_other (c := c) (by omega))
    have g1 : (c.toNat : Int) < 65 := by omega
    go_enter Tryz.func99, Tryz.ntmps99
    go_wp2
    go_ret
    exact ⟨ret_int (by rw [HS.out]), rfl⟩
  · have HS := Lib.hid (small_up h)
    have g1 : (65 : Int) ≤ c.toNat := by omega
    have g2 : (c.toNat : Int) ≤ 90 := by omega
    go_enter Tryz.func99, Tryz.ntmps99
    go_wp2
    go_ret
    exact ⟨ret_int (by rw [HS.out]; first | omega | (simp only [IntKind.wrap_u8']; omega)), rfl⟩
  · have HS := Lib.hid (small_other (c := c) (by omega))
    have g1 : (90 : Int) < c.toNat := by omega
    go_enter Tryz.func99, Tryz.ntmps99
    go_wp2
    go_ret
    exact ⟨ret_int (by rw [HS.out]), rfl⟩

set_option maxHeartbeats 400000 in
theorem digit_any (c : UInt8) (w : World) : Calls Tryz.prog 70 #[.int .u8 c.toNat] w fun e w' => e = .returned (.bool (digitB c)) ∧ w = w' := by
  rcases (show c.toNat < 48 ∨ (48 ≤ c.toNat ∧ c.toNat ≤ 57) ∨ 57 < c.toNat from by omega) with h | h | h
  · have HD := Lib.hid (show digitB c = false from by unfold digitB; rw [decide_eq_false_iff_not]; omega)
    have g1 : (c.toNat : Int) < 48 := by omega
    go_enter Tryz.func70, Tryz.ntmps70
    go_wp2
    go_ret
    exact ⟨ret_bool (by (rw [HD.out]) <;> exact decide_eq_false (by omega)), rfl⟩
  · have HD := Lib.hid (show digitB c = true from by unfold digitB; rw [decide_eq_true_iff]; omega)
    have g1 : (48 : Int) ≤ c.toNat := by omega
    have g2 : (c.toNat : Int) ≤ 57 := by omega
    go_enter Tryz.func70, Tryz.ntmps70
    go_wp2
    go_ret
    exact ⟨ret_bool (by (rw [HD.out]) <;> exact decide_eq_false (by omega)), rfl⟩
  · have HD := Lib.hid (show digitB c = false from by unfold digitB; rw [decide_eq_false_iff_not]; omega)
    have g1 : (57 : Int) < c.toNat := by omega
    go_enter Tryz.func70, Tryz.ntmps70
    go_wp2
    go_ret
    exact ⟨ret_bool (by (rw [HD.out]) <;> exact decide_eq_false (by omega)), rfl⟩

end Go.Proofs.YtjpmofnnjdhamaaGreatDoor.NormS
namespace Go.Proofs.YtjpmofnnjdhamaaGreatDoor.NormS
open Go.RowKit HeadMath NormMath

theorem ret_tuple2 {a b c d : Value} (h : a = c) (h' : b = d) : Ending.returned (.tuple #[a, b]) = .returned (.tuple #[c, d]) := by rw [h, h']
theorem int_eq {k : IntKind} {a b : Int} (h : a = b) : Value.int k a = .int k b := by rw [h]
theorem bool_eq {a b : Bool} (h : a = b) : Value.bool a = .bool b := by rw [h]

/-- What a digit is worth; nought where it is none. -/
def hexN (c : UInt8) : Nat := (hexV c).getD 0
def hexB (c : UInt8) : Bool := (hexV c).isSome
theorem hex_digit {c : UInt8} (h : 48 ≤ c.toNat ∧ c.toNat ≤ 57) : hexV c = some (c.toNat - 48) := by unfold hexV; rw [if_pos h]
theorem hex_small {c : UInt8} (h : 97 ≤ c.toNat ∧ c.toNat ≤ 102) : hexV c = some (c.toNat - 87) := by unfold hexV; rw [if_neg (by omega), if_pos h]
theorem hex_great {c : UInt8} (h : 65 ≤ c.toNat ∧ c.toNat ≤ 70) : hexV c = some (c.toNat - 55) := by unfold hexV; rw [if_neg (by omega), if_neg (by omega), if_pos h]
theorem hex_none {c : UInt8} (h1 : ¬ (48 ≤ c.toNat ∧ c.toNat ≤ 57)) (h2 : ¬ (97 ≤ c.toNat ∧ c.toNat ≤ 102)) (h3 : ¬ (65 ≤ c.toNat ∧ c.toNat ≤ 70)) : hexV c = none := by unfold hexV; rw [if_neg h1, if_neg h2, if_neg h3]

def HexPost (c : UInt8) (w : World) (e : Ending) (w' : World) : Prop := e = .returned (.tuple #[.int .i64 (hexN c), .bool (hexB c)]) ∧ w = w'

set_option maxHeartbeats 1000000 in
theorem hex_any (c : UInt8) (w : World) : Calls Tryz.prog 130 #[.int .u8 c.toNat] w (HexPost c w) := by
  obtain ⟨d, hd⟩ : ∃ d, small c = d := ⟨_, rfl⟩
  have hc := u8_lt c
  have HS := Lib.hid hd
  by_cases h1 : 48 ≤ c.toNat ∧ c.toNat ≤ 57
  · have e : d = c := by rw [← hd, small_other (by omega)]
    subst e
    have HV := Lib.hid (hex_digit h1)
    have HD := Lib.hid (show digitB d = true by unfold digitB; exact decide_eq_true h1)
    clear hd
    go_enter Tryz.func130, Tryz.ntmps130
    go_wp2_with fail
    refine (small_any _ _).mono ?_
    rintro e w1 ⟨rfl, rfl⟩
    rw [HS.out]
    go_wp2_with fail
    refine (digit_any _ _).mono ?_
    rintro e w1 ⟨rfl, rfl⟩
    rw [HD.out]
    go_wp2
    go_ret2
    exact ⟨ret_tuple2 (int_eq (by unfold hexN; rw [HV.out]; simp only [Option.getD_some]; first | omega | (simp only [IntKind.wrap_u8']; omega))) (bool_eq (by unfold hexB; rw [HV.out]; rfl)), rfl⟩
  · by_cases h2 : 97 ≤ d.toNat ∧ d.toNat ≤ 102
    · have HV : Hid (hexV c = some (d.toNat - 87)) := by
        by_cases hu : 65 ≤ c.toNat ∧ c.toNat ≤ 90
        · have := small_up hu; rw [hd] at this
          rw [show d.toNat - 87 = c.toNat - 55 by omega]; exact Lib.hid (hex_great (by omega))
        · have : d = c := by rw [← hd, small_other hu]
          subst this; exact Lib.hid (hex_small h2)
      have HD := Lib.hid (show digitB d = false by unfold digitB; exact decide_eq_false (by omega))
      have g1 : (97 : Int) ≤ d.toNat := by omega
      have g2 : (d.toNat : Int) ≤ 102 := by omega
      clear hd
      go_enter Tryz.func130, Tryz.ntmps130
      go_wp2_with fail
      refine (small_any _ _).mono ?_
      rintro e w1 ⟨rfl, rfl⟩
      rw [HS.out]
      go_wp2_with fail
      refine (digit_any _ _).mono ?_
      rintro e w1 ⟨rfl, rfl⟩
      rw [HD.out]
      go_wp2
      go_ret2
      exact ⟨ret_tuple2 (int_eq (by unfold hexN; rw [HV.out]; simp only [Option.getD_some]; first | omega | (simp only [IntKind.wrap_u8']; omega))) (bool_eq (by unfold hexB; rw [HV.out]; rfl)), rfl⟩
    · have HV : Hid (hexV c = none) := by
        by_cases hu : 65 ≤ c.toNat ∧ c.toNat ≤ 90
        · have := small_up hu; rw [hd] at this
          exact Lib.hid (hex_none h1 (by omega) (by omega))
        · have : d = c := by rw [← hd, small_other hu]
          subst this; exact Lib.hid (hex_none h1 h2 (by omega))
      have HD : Hid (digitB d = false) := by
        refine Lib.hid ?_
        unfold digitB; refine decide_eq_false ?_
        by_cases hu : 65 ≤ c.toNat ∧ c.toNat ≤ 90
        · have := small_up hu; rw [hd] at this; omega
        · have : d = c := by rw [← hd, small_other hu]
          subst this; exact h1
      rcases (show d.toNat < 97 ∨ 102 < d.toNat by omega) with h | h
      · have g1 : (d.toNat : Int) < 97 := by omega
        clear hd h2
        go_enter Tryz.func130, Tryz.ntmps130
        go_wp2_with fail
        refine (small_any _ _).mono ?_
        rintro e w1 ⟨rfl, rfl⟩
        rw [HS.out]
        go_wp2_with fail
        refine (digit_any _ _).mono ?_
        rintro e w1 ⟨rfl, rfl⟩
        rw [HD.out]
        go_wp2
        go_ret2
        exact ⟨ret_tuple2 (int_eq (by unfold hexN; rw [HV.out]; rfl)) (bool_eq (by unfold hexB; rw [HV.out]; rfl)), rfl⟩
      · have g1 : (97 : Int) ≤ d.toNat := by omega
        have g2 : (102 : Int) < d.toNat := by omega
        clear hd h2
        go_enter Tryz.func130, Tryz.ntmps130
        go_wp2_with fail
        refine (small_any _ _).mono ?_
        rintro e w1 ⟨rfl, rfl⟩
        rw [HS.out]
        go_wp2_with fail
        refine (digit_any _ _).mono ?_
        rintro e w1 ⟨rfl, rfl⟩
        rw [HD.out]
        go_wp2
        go_ret2
        exact ⟨ret_tuple2 (int_eq (by unfold hexN; rw [HV.out]; rfl)) (bool_eq (by unfold hexB; rw [HV.out]; rfl)), rfl⟩
end Go.Proofs.YtjpmofnnjdhamaaGreatDoor.NormS
namespace Go.Proofs.YtjpmofnnjdhamaaGreatDoor.ChunkMath
open Go Go.Proofs.YtjpmofnnjdhamaaGreatDoor HeadMath NormMath NormS

abbrev Bs := List UInt8
/-- A line to its CR LF: what was read of it, what is left; what is wrong, by its number. -/
def crF (acc : Bs) : Bs → Except Nat (Bs × Bs)
  | [] => .error 92
  | d :: r => if d = 10 then .ok (acc, r) else .error 94
def lineG : Bs → Bs → Except Nat (Bs × Bs)
  | _, [] => .error 92
  | acc, c :: r =>
    if c = 13 then crF acc r
    else if c = 10 ∨ 1024 ≤ acc.length then .error 94 else lineG (acc ++ [c]) r
def plainC (c : UInt8) : Prop := c ≠ 13 ∧ c ≠ 10
theorem lineG_plain {c : UInt8} {acc r : Bs} (h : plainC c) (hl : acc.length < 1024) : lineG acc (c :: r) = lineG (acc ++ [c]) r := by
  rw [lineG, if_neg h.1, if_neg (by rintro (e | e); exact h.2 e; omega)]
theorem lineG_long {c : UInt8} {acc r : Bs} (h : c ≠ 13) (hl : 1024 ≤ acc.length) : lineG acc (c :: r) = .error 94 := by
  rw [lineG, if_neg h, if_pos (.inr hl)]
theorem lineG_lf {acc r : Bs} : lineG acc (10 :: r) = .error 94 := by
  rw [lineG, if_neg (by decide), if_pos (.inl rfl)]
theorem lineG_cr {acc : Bs} : lineG acc [13] = .error 92 := by rw [lineG, if_pos rfl]; rfl
theorem lineG_end {acc r : Bs} : lineG acc (13 :: 10 :: r) = .ok (acc, r) := by rw [lineG, if_pos rfl, crF, if_pos rfl]
theorem lineG_bad {acc r : Bs} {d : UInt8} (h : d ≠ 10) : lineG acc (13 :: d :: r) = .error 94 := by
  rw [lineG, if_pos rfl, crF, if_neg h]
theorem lineG_text : ∀ (t acc r : Bs), (∀ c ∈ t, plainC c) → acc.length + t.length ≤ 1024 → lineG acc (t ++ 13 :: 10 :: r) = .ok (acc ++ t, r)
  | [], acc, r, _, _ => by rw [List.nil_append, lineG_end, List.append_nil]
  | c :: t, acc, r, h, hl => by
    rw [List.cons_append, lineG_plain (h c (by simp)) (by simp at hl; omega), lineG_text t (acc ++ [c]) r (fun x hx => h x (by simp [hx])) (by simp at hl ⊢; omega)]
    simp
/-- What a line takes; and that of less of it nothing is told. -/
theorem lineG_split : ∀ (s acc t r : Bs), lineG acc s = .ok (t, r) → ∃ u, s = u ++ r ∧ 2 ≤ u.length ∧ t.length + 2 = acc.length + u.length ∧ ∀ k, (k < u.length → lineG acc (s.take k) = .error 92) ∧ (u.length ≤ k → lineG acc (s.take k) = .ok (t, r.take (k - u.length)))
  | [], acc, t, r, h => by rw [lineG] at h; cases h
  | c :: s, acc, t, r, h => by
    by_cases h13 : c = 13
    · subst h13
      cases s with
      | nil => rw [lineG_cr] at h; cases h
      | cons d s =>
        by_cases h10 : d = 10
        · subst h10
          rw [lineG_end] at h
          injection h with h
          injection h with h1 h2
          subst h1; subst h2
          refine ⟨[13, 10], rfl, by simp, by simp, fun k => ⟨fun hk => ?_, fun hk => ?_⟩⟩
          · match k, hk with
            | 0, _ => rfl
            | 1, _ => rfl
          · obtain ⟨j, rfl⟩ : ∃ j, k = j + 2 := ⟨k - 2, by simp at hk; omega⟩
            simp only [List.take_succ_cons, List.length_cons, List.length_nil]
            exact lineG_end
        · rw [lineG_bad h10] at h; cases h
    · by_cases hb : c = 10 ∨ 1024 ≤ acc.length
      · rw [lineG, if_neg h13, if_pos hb] at h; cases h
      · have hp : plainC c := ⟨h13, fun e => hb (.inl e)⟩
        have hl : acc.length < 1024 := by omega
        rw [lineG_plain hp hl] at h
        obtain ⟨u, h1, h2, h3, h4⟩ := lineG_split s (acc ++ [c]) t r h
        refine ⟨c :: u, by rw [h1]; rfl, by simp; omega, by simp at h3 ⊢; omega, fun k => ?_⟩
        cases k with
        | zero => exact ⟨fun _ => rfl, fun hk => absurd hk (by simp)⟩
        | succ k =>
          rw [List.take_succ_cons, lineG_plain hp hl]
          refine ⟨fun hk => (h4 k).1 (by simpa using hk), fun hk => ?_⟩
          rw [(h4 k).2 (by simpa using hk)]
          simp
def lineF (s : Bs) : Except Nat (Bs × Bs) := lineG [] s

/-- The number that a row of hexadecimal digits is. -/
def valH (ds : Bs) : Nat := ds.foldl (fun n c => 16 * n + hexN c) 0
theorem valH_snoc (ds : Bs) (c : UInt8) : valH (ds ++ [c]) = 16 * valH ds + hexN c := by unfold valH; rw [List.foldl_append]; rfl
def extB : Bs → Bool
  | [] => true
  | c :: x => c == 59 && x.all textB
def lengthF (t : Bs) : Option Nat :=
  if (t.takeWhile hexB).length = 0 ∨ 8 < (t.takeWhile hexB).length then none
  else if extB (t.dropWhile hexB) then some (valH (t.takeWhile hexB)) else none

/-- The trailers, to the empty line; F: which lines are fields. -/
def trailG (F : Bs → Bool) : Nat → Nat → Bs → Except Nat Bs
  | 0, _, _ => .error 92
  | f + 1, n, s => match lineF s with
    | .error e => .error e
    | .ok (t, r) => if t = [] then .ok r else if F t = false ∨ n = 100 then .error 94 else trailG F f (n + 1) r
/-- A byte that must stand there. -/
def wantF (c : UInt8) : Bs → Except Nat Bs
  | [] => .error 92
  | d :: r => if d = c then .ok r else .error 94
def chunkG (F : Bs → Bool) : Nat → Bs → Bs → Except Nat (Bs × Bs)
  | 0, _, _ => .error 92
  | f + 1, body, s => match lineF s with
    | .error e => .error e
    | .ok (t, r) => match lengthF t with
      | none => .error 94
      | some n =>
        if n = 0 then (match trailG F (r.length + 1) 0 r with
          | .error e => .error e
          | .ok r2 => .ok (body, r2))
        else if 65536 < body.length + n then .error 93
        else if r.length < n then .error 92
        else match wantF 13 (r.drop n) with
          | .error e => .error e
          | .ok r2 => match wantF 10 r2 with
            | .error e => .error e
            | .ok r3 => chunkG F f (body ++ r.take n) r3
def openF (F : Bs → Bool) (b : Bs) : Except Nat (Bs × Bs) := chunkG F (b.length + 1) [] b
end Go.Proofs.YtjpmofnnjdhamaaGreatDoor.ChunkMath
namespace Go.Proofs.YtjpmofnnjdhamaaGreatDoor.HeadS
open Go.RowKit HeadMath

theorem u8_beq (a b : UInt8) : ((a.toNat : Int) == (b.toNat : Int)) = (a == b) := by
  rw [Bool.eq_iff_iff, beq_iff_eq, beq_iff_eq]
  constructor
  · intro h; exact UInt8.toNat_inj.1 (by omega)
  · rintro rfl; rfl
theorem u8_beq_lit (a : UInt8) (n : Nat) (h : n < 256) : ((a.toNat : Int) == (n : Int)) = (a == UInt8.ofNat n) := by
  have := u8_beq a (UInt8.ofNat n)
  rw [show (UInt8.ofNat n).toNat = n from by simp; omega] at this
  exact this
theorem u8_lt (c : UInt8) : c.toNat < 256 := c.toNat_lt

theorem ret_int {k : IntKind} {a b : Int} (h : a = b) : Ending.returned (.int k a) = .returned (.int k b) := by rw [h]
theorem ret_bool {a b : Bool} (h : a = b) : Ending.returned (.bool a) = .returned (.bool b) := by rw [h]

set_option maxHeartbeats 400000 in
theorem small_any (c : UInt8) (w : World) : Calls Tryz.prog 99 #[.int .u8 c.toNat] w fun e w' => e = .returned (.int .u8 (small c).toNat) ∧ w = w' := by
  have hc := u8_lt c
  rcases (show c.toNat < 65 ∨ (65 ≤ c.toNat ∧ c.toNat ≤ 90) ∨ 90 < c.toNat from by omega) with h | h | h
  · have HS := Lib.hid (small_other (c := c) (by omega))
    have g1 : (c.toNat : Int) < 65 := by omega
    go_enter Tryz.func99, Tryz.ntmps99
    go_wp2
    go_ret
    exact ⟨ret_int (by rw [HS.out]), rfl⟩
  · have HS := Lib.hid (small_up h)
    have g1 : (65 : Int) ≤ c.toNat := by omega
    have g2 : (c.toNat : Int) ≤ 90 := by omega
    go_enter Tryz.func99, Tryz.ntmps99
    go_wp2
    go_ret
    exact ⟨ret_int (by rw [HS.out]; first | omega | (simp only [IntKind.wrap_u8']; omega)), rfl⟩
  · have HS := Lib.hid (small_other (c := c) (by omega))
    have g1 : (90 : Int) < c.toNat := by omega
    go_enter Tryz.func99, Tryz.ntmps99
    go_wp2
    go_ret
    exact ⟨ret_int (by rw [HS.out]), rfl⟩

set_option maxHeartbeats 400000 in
theorem low_any (c : UInt8) (w : World) : Calls Tryz.prog 117 #[.int .u8 c.toNat] w fun e w' => e = .returned (.int .u8 (small c).toNat) ∧ w = w' := by
  have hc := u8_lt c
  rcases (show c.toNat < 65 ∨ (65 ≤ c.toNat ∧ c.toNat ≤ 90) ∨ 90 < c.toNat from by omega) with h | h | h
  · have HS := Lib.hid (small_other (c := c) (by omega))
    have g1 : (c.toNat : Int) < 65 := by omega
    go_enter Tryz.func117, Tryz.ntmps117
    go_wp2
    go_ret
    exact ⟨ret_int (by rw [HS.out]), rfl⟩
  · have HS := Lib.hid (small_up h)
    have g1 : (65 : Int) ≤ c.toNat := by omega
    have g2 : (c.toNat : Int) ≤ 90 := by omega
    go_enter Tryz.func117, Tryz.ntmps117
    go_wp2
    go_ret
    exact ⟨ret_int (by rw [HS.out]; first | omega | (simp only [IntKind.wrap_u8']; omega)), rfl⟩
  · have HS := Lib.hid (small_other (c := c) (by omega))
    have g1 : (90 : Int) < c.toNat := by omega
    go_enter Tryz.func117, Tryz.ntmps117
    go_wp2
    go_ret
    exact ⟨ret_int (by rw [HS.out]), rfl⟩

set_option maxHeartbeats 400000 in
theorem digit_any (c : UInt8) (w : World) : Calls Tryz.prog 70 #[.int .u8 c.toNat] w fun e w' => e = .returned (.bool (digitB c)) ∧ w = w' := by
  rcases (show c.toNat < 48 ∨ (48 ≤ c.toNat ∧ c.toNat ≤ 57) ∨ 57 < c.toNat from by omega) with h | h | h
  · have HD := Lib.hid (show digitB c = false from by unfold digitB; rw [decide_eq_false_iff_not]; omega)
    have g1 : (c.toNat : Int) < 48 := by omega
    go_enter Tryz.func70, Tryz.ntmps70
    go_wp2
    go_ret
    exact ⟨ret_bool (by (rw [HD.out]) <;> exact decide_eq_false (by omega)), rfl⟩
  · have HD := Lib.hid (show digitB c = true from by unfold digitB; rw [decide_eq_true_iff]; omega)
    have g1 : (48 : Int) ≤ c.toNat := by omega
    have g2 : (c.toNat : Int) ≤ 57 := by omega
    go_enter Tryz.func70, Tryz.ntmps70
    go_wp2
    go_ret
    exact ⟨ret_bool (by (rw [HD.out]) <;> exact decide_eq_false (by omega)), rfl⟩
  · have HD := Lib.hid (show digitB c = false from by unfold digitB; rw [decide_eq_false_iff_not]; omega)
    have g1 : (57 : Int) < c.toNat := by omega
    go_enter Tryz.func70, Tryz.ntmps70
    go_wp2
    go_ret
    exact ⟨ret_bool (by (rw [HD.out]) <;> exact decide_eq_false (by omega)), rfl⟩

set_option maxHeartbeats 400000 in
theorem letter_any (c : UInt8) (w : World) : Calls Tryz.prog 69 #[.int .u8 c.toNat] w fun e w' => e = .returned (.bool (letterB c)) ∧ w = w' := by
  generalize hs : small c = d
  have HS := Lib.hid hs
  rcases (show d.toNat < 97 ∨ (97 ≤ d.toNat ∧ d.toNat ≤ 122) ∨ 122 < d.toNat from by omega) with h | h | h
  · have HD := Lib.hid (show letterB c = false from by unfold letterB; rw [hs, decide_eq_false_iff_not]; omega)
    have g1 : (d.toNat : Int) < 97 := by omega
    clear hs
    go_enter Tryz.func69, Tryz.ntmps69
    go_wp2_with fail
    refine (small_any c _).mono ?_
    rintro e w1 ⟨rfl, rfl⟩
    rw [HS.out]
    go_wp2
    go_ret
    exact ⟨ret_bool (by (rw [HD.out]) <;> exact decide_eq_false (by omega)), rfl⟩
  · have HD := Lib.hid (show letterB c = true from by unfold letterB; rw [hs, decide_eq_true_iff]; omega)
    have g1 : (97 : Int) ≤ d.toNat := by omega
    have g2 : (d.toNat : Int) ≤ 122 := by omega
    clear hs
    go_enter Tryz.func69, Tryz.ntmps69
    go_wp2_with fail
    refine (small_any c _).mono ?_
    rintro e w1 ⟨rfl, rfl⟩
    rw [HS.out]
    go_wp2_with fail
    refine (small_any c _).mono ?_
    rintro e w1 ⟨rfl, rfl⟩
    rw [HS.out]
    go_wp2
    go_ret
    exact ⟨ret_bool (by (rw [HD.out]) <;> exact decide_eq_false (by omega)), rfl⟩
  · have HD := Lib.hid (show letterB c = false from by unfold letterB; rw [hs, decide_eq_false_iff_not]; omega)
    have g1 : (122 : Int) < d.toNat := by omega
    clear hs
    go_enter Tryz.func69, Tryz.ntmps69
    go_wp2_with fail
    refine (small_any c _).mono ?_
    rintro e w1 ⟨rfl, rfl⟩
    rw [HS.out]
    go_wp2_with fail
    refine (small_any c _).mono ?_
    rintro e w1 ⟨rfl, rfl⟩
    rw [HS.out]
    go_wp2
    go_ret
    exact ⟨ret_bool (by (rw [HD.out]) <;> exact decide_eq_false (by omega)), rfl⟩

set_option maxHeartbeats 400000 in
theorem blank_any (c : UInt8) (w : World) : Calls Tryz.prog 53 #[.int .u8 c.toNat] w fun e w' => e = .returned (.bool (blankB c)) ∧ w = w' := by
  have q1 := u8_beq_lit c 32 (by omega)
  have q2 := u8_beq_lit c 9 (by omega)
  have H1 := Lib.hid q1
  have H2 := Lib.hid q2
  by_cases h : c = 32
  · have g : ((c.toNat : Int) == 32) = true := q1.trans (by simpa using h)
    clear q1 q2
    go_enter Tryz.func53, Tryz.ntmps53
    go_wp2
    go_ret
    exact ⟨ret_bool (by rw [h]; rfl), rfl⟩
  · have g : ((c.toNat : Int) == 32) = false := q1.trans (by simpa using h)
    have hb : (c == 32) = false := by simpa using h
    clear q1 q2
    go_enter Tryz.func53, Tryz.ntmps53
    go_wp2
    go_ret
    refine ⟨ret_bool ?_, rfl⟩
    unfold blankB
    rw [hb, Bool.false_or]
    exact H2.out

theorem sign_letters {c : UInt8} (h : (97 ≤ c.toNat ∧ c.toNat ≤ 122) ∨ (65 ≤ c.toNat ∧ c.toNat ≤ 90) ∨ (48 ≤ c.toNat ∧ c.toNat ≤ 57)) : signB c = true := by
  unfold signB
  rw [letterB_eq]
  unfold digitB
  simp only [Bool.or_eq_true, decide_eq_true_eq]
  omega
theorem sign_marks {c : UInt8} (h : ¬ (97 ≤ c.toNat ∧ c.toNat ≤ 122)) (h2 : ¬ (65 ≤ c.toNat ∧ c.toNat ≤ 90)) (h3 : ¬ (48 ≤ c.toNat ∧ c.toNat ≤ 57)) : signB c = marks.contains c := by
  unfold signB
  rw [letterB_eq]
  unfold digitB
  rw [decide_eq_false h, decide_eq_false h2, decide_eq_false h3]; rfl

set_option maxHeartbeats 4000000 in
theorem sign_any (c : UInt8) (w : World) : Calls Tryz.prog 80 #[.int .u8 c.toNat] w fun e w' => e = .returned (.bool (signB c)) ∧ w = w' := by
  rcases (show c.toNat < 48 ∨ (48 ≤ c.toNat ∧ c.toNat ≤ 57) ∨ (57 < c.toNat ∧ c.toNat < 65) ∨ (65 ≤ c.toNat ∧ c.toNat ≤ 90) ∨ (90 < c.toNat ∧ c.toNat < 97) ∨ (97 ≤ c.toNat ∧ c.toNat ≤ 122) ∨ 122 < c.toNat from by omega) with h | h | h | h | h | h | h
  · have HM := Lib.hid (sign_marks (c := c) (by omega) (by omega) (by omega))
    have g3 : (c.toNat : Int) < 48 := by omega
    clear h
    go_enter Tryz.func80, Tryz.ntmps80
    go_wp2
    go_loop [3] (fun i => ∃ k : Nat, k ≤ 15 ∧ i = .int .i64 k ∧ ∀ j, j < k → marks.getD j 0 ≠ c) (fun i => 15 - (intOf i).toNat)
    case atStart => exact ⟨0, by omega, rfl, fun j hj => by omega⟩
    case round =>
      obtain ⟨k, hk, rfl, hall⟩ := hrel
      have HAL := Lib.hid hall
      clear hall
      by_cases hlt : k < 15
      · have hsz : k < ({ data := #[33, 35, 36, 37, 38, 39, 42, 43, 45, 46, 94, 95, 96, 124, 126] } : ByteArray).size := hlt
        have HMK := Lib.hid (show marks.getD k 0 = ({ data := #[33, 35, 36, 37, 38, 39, 42, 43, 45, 46, 94, 95, 96, 124, 126] } : ByteArray)[k] from by
          have h' : k < marks.length := hlt
          rw [List.getD_eq_getElem?_getD, List.getElem?_eq_getElem h']; rfl)
        by_cases hc : ({ data := #[33, 35, 36, 37, 38, 39, 42, 43, 45, 46, 94, 95, 96, 124, 126] } : ByteArray)[k] = c
        · have q : (((({ data := #[33, 35, 36, 37, 38, 39, 42, 43, 45, 46, 94, 95, 96, 124, 126] } : ByteArray)[k]).toNat : Int) == (c.toNat : Int)) = true := (u8_beq _ _).trans (by simpa using hc)
          have HC := Lib.hid hc
          clear hc
          go_wp2
          go_ret
          refine ⟨ret_bool ?_, rfl⟩
          rw [HM.out]
          symm
          rw [List.contains_iff_mem, ← HC.out, ← HMK.out, List.getD_eq_getElem?_getD, List.getElem?_eq_getElem (show k < marks.length from hlt)]
          exact List.getElem_mem _
        · have q : (((({ data := #[33, 35, 36, 37, 38, 39, 42, 43, 45, 46, 94, 95, 96, 124, 126] } : ByteArray)[k]).toNat : Int) == (c.toNat : Int)) = false := (u8_beq _ _).trans (by simpa using hc)
          have HC := Lib.hid hc
          clear hc
          go_wp2
          go_round
          case rel =>
            refine ⟨k + 1, by omega, by go_num, fun j hj => ?_⟩
            by_cases hjk : j = k
            · subst hjk; rw [HMK.out]; exact HC.out
            · exact HAL.out j (by omega)
          case measure => simp [intOf]; omega
      · have hk15 : k = 15 := by omega
        have HF := Lib.hid (show marks.contains c = false from by
          rw [← Bool.not_eq_true, List.contains_iff_mem]
          intro hm
          obtain ⟨j, hj, he⟩ := List.mem_iff_getElem.1 hm
          have hj' : j < 15 := hj
          refine HAL.out j (by omega) ?_
          rw [List.getD_eq_getElem?_getD, List.getElem?_eq_getElem hj]; exact he)
        subst hk15
        go_wp2
        go_ret
        exact ⟨ret_bool (by rw [HM.out, HF.out]), rfl⟩
  · have HM := Lib.hid (sign_letters (c := c) (by omega))
    have g1 : (48 : Int) ≤ c.toNat := by omega
    have g2 : (c.toNat : Int) ≤ 57 := by omega
    clear h
    go_enter Tryz.func80, Tryz.ntmps80
    go_wp2
    go_ret
    exact ⟨ret_bool (by rw [HM.out]), rfl⟩
  · have HM := Lib.hid (sign_marks (c := c) (by omega) (by omega) (by omega))
    have g4 : (57 : Int) < c.toNat := by omega
    have g3 : (c.toNat : Int) < 65 := by omega
    clear h
    go_enter Tryz.func80, Tryz.ntmps80
    go_wp2
    go_loop [3] (fun i => ∃ k : Nat, k ≤ 15 ∧ i = .int .i64 k ∧ ∀ j, j < k → marks.getD j 0 ≠ c) (fun i => 15 - (intOf i).toNat)
    case atStart => exact ⟨0, by omega, rfl, fun j hj => by omega⟩
    case round =>
      obtain ⟨k, hk, rfl, hall⟩ := hrel
      have HAL := Lib.hid hall
      clear hall
      by_cases hlt : k < 15
      · have hsz : k < ({ data := #[33, 35, 36, 37, 38, 39, 42, 43, 45, 46, 94, 95, 96, 124, 126] } : ByteArray).size := hlt
        have HMK := Lib.hid (show marks.getD k 0 = ({ data := #[33, 35, 36, 37, 38, 39, 42, 43, 45, 46, 94, 95, 96, 124, 126] } : ByteArray)[k] from by
          have h' : k < marks.length := hlt
          rw [List.getD_eq_getElem?_getD, List.getElem?_eq_getElem h']; rfl)
        by_cases hc : ({ data := #[33, 35, 36, 37, 38, 39, 42, 43, 45, 46, 94, 95, 96, 124, 126] } : ByteArray)[k] = c
        · have q : (((({ data := #[33, 35, 36, 37, 38, 39, 42, 43, 45, 46, 94, 95, 96, 124, 126] } : ByteArray)[k]).toNat : Int) == (c.toNat : Int)) = true := (u8_beq _ _).trans (by simpa using hc)
          have HC := Lib.hid hc
          clear hc
          go_wp2
          go_ret
          refine ⟨ret_bool ?_, rfl⟩
          rw [HM.out]
          symm
          rw [List.contains_iff_mem, ← HC.out, ← HMK.out, List.getD_eq_getElem?_getD, List.getElem?_eq_getElem (show k < marks.length from hlt)]
          exact List.getElem_mem _
        · have q : (((({ data := #[33, 35, 36, 37, 38, 39, 42, 43, 45, 46, 94, 95, 96, 124, 126] } : ByteArray)[k]).toNat : Int) == (c.toNat : Int)) = false := (u8_beq _ _).trans (by simpa using hc)
          have HC := Lib.hid hc
          clear hc
          go_wp2
          go_round
          case rel =>
            refine ⟨k + 1, by omega, by go_num, fun j hj => ?_⟩
            by_cases hjk : j = k
            · subst hjk; rw [HMK.out]; exact HC.out
            · exact HAL.out j (by omega)
          case measure => simp [intOf]; omega
      · have hk15 : k = 15 := by omega
        have HF := Lib.hid (show marks.contains c = false from by
          rw [← Bool.not_eq_true, List.contains_iff_mem]
          intro hm
          obtain ⟨j, hj, he⟩ := List.mem_iff_getElem.1 hm
          have hj' : j < 15 := hj
          refine HAL.out j (by omega) ?_
          rw [List.getD_eq_getElem?_getD, List.getElem?_eq_getElem hj]; exact he)
        subst hk15
        go_wp2
        go_ret
        exact ⟨ret_bool (by rw [HM.out, HF.out]), rfl⟩
  · have HM := Lib.hid (sign_letters (c := c) (by omega))
    have g1 : (65 : Int) ≤ c.toNat := by omega
    have g2 : (c.toNat : Int) ≤ 90 := by omega
    clear h
    go_enter Tryz.func80, Tryz.ntmps80
    go_wp2
    go_ret
    exact ⟨ret_bool (by rw [HM.out]), rfl⟩
  · have HM := Lib.hid (sign_marks (c := c) (by omega) (by omega) (by omega))
    have g4 : (90 : Int) < c.toNat := by omega
    have g3 : (c.toNat : Int) < 97 := by omega
    clear h
    go_enter Tryz.func80, Tryz.ntmps80
    go_wp2
    go_loop [3] (fun i => ∃ k : Nat, k ≤ 15 ∧ i = .int .i64 k ∧ ∀ j, j < k → marks.getD j 0 ≠ c) (fun i => 15 - (intOf i).toNat)
    case atStart => exact ⟨0, by omega, rfl, fun j hj => by omega⟩
    case round =>
      obtain ⟨k, hk, rfl, hall⟩ := hrel
      have HAL := Lib.hid hall
      clear hall
      by_cases hlt : k < 15
      · have hsz : k < ({ data := #[33, 35, 36, 37, 38, 39, 42, 43, 45, 46, 94, 95, 96, 124, 126] } : ByteArray).size := hlt
        have HMK := Lib.hid (show marks.getD k 0 = ({ data := #[33, 35, 36, 37, 38, 39, 42, 43, 45, 46, 94, 95, 96, 124, 126] } : ByteArray)[k] from by
          have h' : k < marks.length := hlt
          rw [List.getD_eq_getElem?_getD, List.getElem?_eq_getElem h']; rfl)
        by_cases hc : ({ data := #[33, 35, 36, 37, 38, 39, 42, 43, 45, 46, 94, 95, 96, 124, 126] } : ByteArray)[k] = c
        · have q : (((({ data := #[33, 35, 36, 37, 38, 39, 42, 43, 45, 46, 94, 95, 96, 124, 126] } : ByteArray)[k]).toNat : Int) == (c.toNat : Int)) = true := (u8_beq _ _).trans (by simpa using hc)
          have HC := Lib.hid hc
          clear hc
          go_wp2
          go_ret
          refine ⟨ret_bool ?_, rfl⟩
          rw [HM.out]
          symm
          rw [List.contains_iff_mem, ← HC.out, ← HMK.out, List.getD_eq_getElem?_getD, List.getElem?_eq_getElem (show k < marks.length from hlt)]
          exact List.getElem_mem _
        · have q : (((({ data := #[33, 35, 36, 37, 38, 39, 42, 43, 45, 46, 94, 95, 96, 124, 126] } : ByteArray)[k]).toNat : Int) == (c.toNat : Int)) = false := (u8_beq _ _).trans (by simpa using hc)
          have HC := Lib.hid hc
          clear hc
          go_wp2
          go_round
          case rel =>
            refine ⟨k + 1, by omega, by go_num, fun j hj => ?_⟩
            by_cases hjk : j = k
            · subst hjk; rw [HMK.out]; exact HC.out
            · exact HAL.out j (by omega)
          case measure => simp [intOf]; omega
      · have hk15 : k = 15 := by omega
        have HF := Lib.hid (show marks.contains c = false from by
          rw [← Bool.not_eq_true, List.contains_iff_mem]
          intro hm
          obtain ⟨j, hj, he⟩ := List.mem_iff_getElem.1 hm
          have hj' : j < 15 := hj
          refine HAL.out j (by omega) ?_
          rw [List.getD_eq_getElem?_getD, List.getElem?_eq_getElem hj]; exact he)
        subst hk15
        go_wp2
        go_ret
        exact ⟨ret_bool (by rw [HM.out, HF.out]), rfl⟩
  · have HM := Lib.hid (sign_letters (c := c) (by omega))
    have g1 : (97 : Int) ≤ c.toNat := by omega
    have g2 : (c.toNat : Int) ≤ 122 := by omega
    clear h
    go_enter Tryz.func80, Tryz.ntmps80
    go_wp2
    go_ret
    exact ⟨ret_bool (by rw [HM.out]), rfl⟩
  · have HM := Lib.hid (sign_marks (c := c) (by omega) (by omega) (by omega))
    have g4 : (122 : Int) < c.toNat := by omega
    clear h
    go_enter Tryz.func80, Tryz.ntmps80
    go_wp2
    go_loop [3] (fun i => ∃ k : Nat, k ≤ 15 ∧ i = .int .i64 k ∧ ∀ j, j < k → marks.getD j 0 ≠ c) (fun i => 15 - (intOf i).toNat)
    case atStart => exact ⟨0, by omega, rfl, fun j hj => by omega⟩
    case round =>
      obtain ⟨k, hk, rfl, hall⟩ := hrel
      have HAL := Lib.hid hall
      clear hall
      by_cases hlt : k < 15
      · have hsz : k < ({ data := #[33, 35, 36, 37, 38, 39, 42, 43, 45, 46, 94, 95, 96, 124, 126] } : ByteArray).size := hlt
        have HMK := Lib.hid (show marks.getD k 0 = ({ data := #[33, 35, 36, 37, 38, 39, 42, 43, 45, 46, 94, 95, 96, 124, 126] } : ByteArray)[k] from by
          have h' : k < marks.length := hlt
          rw [List.getD_eq_getElem?_getD, List.getElem?_eq_getElem h']; rfl)
        by_cases hc : ({ data := #[33, 35, 36, 37, 38, 39, 42, 43, 45, 46, 94, 95, 96, 124, 126] } : ByteArray)[k] = c
        · have q : (((({ data := #[33, 35, 36, 37, 38, 39, 42, 43, 45, 46, 94, 95, 96, 124, 126] } : ByteArray)[k]).toNat : Int) == (c.toNat : Int)) = true := (u8_beq _ _).trans (by simpa using hc)
          have HC := Lib.hid hc
          clear hc
          go_wp2
          go_ret
          refine ⟨ret_bool ?_, rfl⟩
          rw [HM.out]
          symm
          rw [List.contains_iff_mem, ← HC.out, ← HMK.out, List.getD_eq_getElem?_getD, List.getElem?_eq_getElem (show k < marks.length from hlt)]
          exact List.getElem_mem _
        · have q : (((({ data := #[33, 35, 36, 37, 38, 39, 42, 43, 45, 46, 94, 95, 96, 124, 126] } : ByteArray)[k]).toNat : Int) == (c.toNat : Int)) = false := (u8_beq _ _).trans (by simpa using hc)
          have HC := Lib.hid hc
          clear hc
          go_wp2
          go_round
          case rel =>
            refine ⟨k + 1, by omega, by go_num, fun j hj => ?_⟩
            by_cases hjk : j = k
            · subst hjk; rw [HMK.out]; exact HC.out
            · exact HAL.out j (by omega)
          case measure => simp [intOf]; omega
      · have hk15 : k = 15 := by omega
        have HF := Lib.hid (show marks.contains c = false from by
          rw [← Bool.not_eq_true, List.contains_iff_mem]
          intro hm
          obtain ⟨j, hj, he⟩ := List.mem_iff_getElem.1 hm
          have hj' : j < 15 := hj
          refine HAL.out j (by omega) ?_
          rw [List.getD_eq_getElem?_getD, List.getElem?_eq_getElem hj]; exact he)
        subst hk15
        go_wp2
        go_ret
        exact ⟨ret_bool (by rw [HM.out, HF.out]), rfl⟩
end Go.Proofs.YtjpmofnnjdhamaaGreatDoor.HeadS
namespace Go.Proofs.YtjpmofnnjdhamaaGreatDoor.NormS
open Go.RowKit HeadMath NormMath

theorem hexN_lt (c : UInt8) : hexN c < 16 := by
  unfold hexN
  cases h : hexV c with
  | none => decide
  | some a => exact hexV_lt h
theorem or_nat (a b : Nat) (ha : a < 16) (hb : b < 16) : Go.bits .or .i64 ((a : Int) * 16) (b : Int) = ((16 * a + b : Nat) : Int) := by
  have H : ∀ a : Fin 16, ∀ b : Fin 16, Go.bits .or .i64 (((a.1 : Nat) : Int) * 16) ((b.1 : Nat) : Int) = ((16 * a.1 + b.1 : Nat) : Int) := by decide
  exact H ⟨a, ha⟩ ⟨b, hb⟩

end Go.Proofs.YtjpmofnnjdhamaaGreatDoor.NormS
namespace Go.Proofs.YtjpmofnnjdhamaaGreatDoor.HttpMath
open Go Go.Proofs.YtjpmofnnjdhamaaGreatDoor HeadMath ChunkMath

def crlf2 : Bs := [13, 10]
def end4 : Bs := [13, 10, 13, 10]
def ba (l : Bs) : ByteArray := ⟨l.toArray⟩
theorem ba_data (l : Bs) : (ba l).data.toList = l := rfl
theorem ba_of (s : ByteArray) : ba s.data.toList = s := rfl
theorem ba_size (l : Bs) : (ba l).size = l.length := by simp [ba, ByteArray.size]
theorem ba_inj {x y : Bs} (h : ba x = ba y) : x = y := by
  have := congrArg (fun s => s.data.toList) h
  simpa [ba_data] using this

/-- The first piece with one more byte. -/
def consH (c : UInt8) : List Bs → List Bs
  | [] => [[c]]
  | x :: r => (c :: x) :: r
def cutF (sep : Bs) : Nat → Bs → List Bs
  | _, [] => [[]]
  | 0, s => [s]
  | n + 1, c :: t => if sep.isPrefixOf (c :: t) then [] :: cutF sep n ((c :: t).drop sep.length) else consH c (cutF sep n t)
/-- The pieces between instances of sep. -/
def cuts (sep s : Bs) : List Bs := cutF sep s.length s
theorem cutF_nil (sep : Bs) (n : Nat) : cutF sep n [] = [[]] := by cases n <;> rfl
theorem cutF_any {sep : Bs} (h : sep ≠ []) : ∀ (n m : Nat) (s : Bs), s.length ≤ n → s.length ≤ m → cutF sep n s = cutF sep m s
  | n, m, [], _, _ => by rw [cutF_nil, cutF_nil]
  | 0, _, c :: t, h1, _ => absurd h1 (by simp)
  | _, 0, c :: t, _, h2 => absurd h2 (by simp)
  | n + 1, m + 1, c :: t, h1, h2 => by
    have hl : 1 ≤ sep.length := by cases sep with
      | nil => exact absurd rfl h
      | cons a l => simp
    rw [cutF, cutF]
    have hd : ((c :: t).drop sep.length).length ≤ t.length := by simp; omega
    have h1' : t.length ≤ n := by simpa using h1
    have h2' : t.length ≤ m := by simpa using h2
    rw [cutF_any h n m _ (by omega) (by omega), cutF_any h n m t h1' h2']
theorem cuts_nil (sep : Bs) : cuts sep [] = [[]] := rfl
theorem cuts_hit {sep s : Bs} (h : sep ≠ []) (hp : sep.isPrefixOf s = true) : cuts sep s = [] :: cuts sep (s.drop sep.length) := by
  cases s with
  | nil => cases sep with
    | nil => exact absurd rfl h
    | cons a l => simp at hp
  | cons c t =>
    have hl : 1 ≤ sep.length := by cases sep with
      | nil => exact absurd rfl h
      | cons a l => simp
    unfold cuts
    show cutF sep (t.length + 1) (c :: t) = _
    rw [cutF, if_pos hp, cutF_any h _ ((c :: t).drop sep.length).length _ (by simp; omega) (Nat.le_refl _)]
theorem cuts_step {sep t : Bs} {c : UInt8} (hp : sep.isPrefixOf (c :: t) = false) : cuts sep (c :: t) = consH c (cuts sep t) := by
  unfold cuts
  show cutF sep (t.length + 1) (c :: t) = _
  rw [cutF, if_neg (by rw [hp]; decide)]
theorem cuts_ne (sep s : Bs) : cuts sep s ≠ [] := by
  cases s with
  | nil => simp [cuts_nil]
  | cons c t =>
    unfold cuts
    show cutF sep (t.length + 1) (c :: t) ≠ []
    rw [cutF]
    split
    · simp
    · cases cutF sep t.length t <;> simp [consH]
theorem prefix_no {d : UInt8} {l s : Bs} {c : UInt8} (h : c ≠ d) : (d :: l).isPrefixOf (c :: s) = false := by
  simp [List.isPrefixOf]; intro e; exact absurd e.symm h
/-- A piece without the first byte of sep, to the next sep. -/
theorem cuts_app {d : UInt8} {l : Bs} : ∀ (p r : Bs), (∀ c ∈ p, c ≠ d) → cuts (d :: l) (p ++ ((d :: l) ++ r)) = p :: cuts (d :: l) r
  | [], r, _ => by
    rw [List.nil_append, cuts_hit (by simp) (by rw [List.isPrefixOf_iff_prefix]; exact List.prefix_append _ _)]
    simp
  | c :: p, r, h => by
    rw [List.cons_append, cuts_step (prefix_no (h c (by simp))), cuts_app p r (fun x hx => h x (by simp [hx]))]
    rfl
theorem cuts_one {d : UInt8} {l : Bs} : ∀ (p : Bs), (∀ c ∈ p, c ≠ d) → cuts (d :: l) p = [p]
  | [], _ => rfl
  | c :: p, h => by
    rw [cuts_step (prefix_no (h c (by simp))), cuts_one p (fun x hx => h x (by simp [hx]))]
    rfl
theorem cuts_len (sep : Bs) (h : sep ≠ []) : ∀ (n : Nat) (s : Bs), s.length ≤ n → (cuts sep s).length ≤ s.length + 1
  | _, [], _ => by simp [cuts_nil]
  | 0, c :: t, hn => absurd hn (by simp)
  | n + 1, c :: t, hn => by
    have hl : 1 ≤ sep.length := by cases sep with
      | nil => exact absurd rfl h
      | cons a l => simp
    have hn' : t.length ≤ n := by simpa using hn
    cases hp : sep.isPrefixOf (c :: t) with
    | true =>
      rw [cuts_hit h hp]
      have := cuts_len sep h n ((c :: t).drop sep.length) (by simp; omega)
      simp at this ⊢; omega
    | false =>
      rw [cuts_step hp]
      have := cuts_len sep h n t hn'
      cases hc : cuts sep t with
      | nil => exact absurd hc (cuts_ne sep t)
      | cons x r => rw [hc] at this; simp [consH] at this ⊢; omega
theorem cuts_mem (sep : Bs) (h : sep ≠ []) : ∀ (n : Nat) (s : Bs), s.length ≤ n → ∀ x ∈ cuts sep s, x.length ≤ s.length
  | _, [], _ => by simp [cuts_nil]
  | 0, c :: t, hn => absurd hn (by simp)
  | n + 1, c :: t, hn => by
    have hl : 1 ≤ sep.length := by cases sep with
      | nil => exact absurd rfl h
      | cons a l => simp
    have hn' : t.length ≤ n := by simpa using hn
    intro x hx
    cases hp : sep.isPrefixOf (c :: t) with
    | true =>
      rw [cuts_hit h hp] at hx
      rcases List.mem_cons.1 hx with rfl | hx
      · simp
      · have := cuts_mem sep h n ((c :: t).drop sep.length) (by simp; omega) x hx
        simp at this ⊢; omega
    | false =>
      rw [cuts_step hp] at hx
      have ih := cuts_mem sep h n t hn'
      cases hc : cuts sep t with
      | nil => exact absurd hc (cuts_ne sep t)
      | cons y r =>
        rw [hc] at hx ih
        simp only [consH, List.mem_cons] at hx
        rcases hx with rfl | hx
        · have := ih y (by simp); simp; omega
        · have := ih x (by simp [hx]); simp; omega
/-- What strings.Split makes. -/
theorem splitK_enough {sep : Bs} (h : sep ≠ []) : ∀ (f : Nat) (s : Bs), s.length < f → ∀ j, Lib.splitK sep 0 (Lib.countFrom sep f s + j) s = Lib.splitK sep 0 (Lib.countFrom sep f s) s
  | 0, s, hf, _ => absurd hf (by simp)
  | f + 1, s, hf, j => by
    have hl : 1 ≤ sep.length := by cases sep with
      | nil => exact absurd rfl h
      | cons a l => simp
    rw [Lib.countFrom]
    by_cases hi : (Lib.index s sep == -1) = true
    · rw [if_pos hi]
      cases j with
      | zero => rfl
      | succ j =>
        have h1 : Lib.splitK sep 0 (j + 1) s = [s] := by rw [Lib.splitK, if_pos hi]
        rw [Nat.zero_add, h1]; rfl
    · rw [if_neg hi]
      have hge : 0 ≤ Lib.index s sep := by have := Lib.index_ge s sep; have : Lib.index s sep ≠ -1 := fun e => hi (beq_iff_eq.2 e); omega
      have hr := Lib.index_room s sep hge
      have ih := splitK_enough h f (s.drop ((Lib.index s sep).toNat + sep.length)) (by simp; omega) j
      rw [show 1 + Lib.countFrom sep f (s.drop ((Lib.index s sep).toNat + sep.length)) + j = (Lib.countFrom sep f (s.drop ((Lib.index s sep).toNat + sep.length)) + j) + 1 by omega, Lib.splitK, if_neg hi, ih, Nat.add_comm 1, Lib.splitK, if_neg hi]
theorem splitK_cuts {sep : Bs} (h : sep ≠ []) : ∀ (n k : Nat) (s : Bs), s.length ≤ n → s.length ≤ k → Lib.splitK sep 0 k s = cuts sep s
  | _, k, [], _, _ => by
    have : Lib.index [] sep = -1 := by cases sep with
      | nil => exact absurd rfl h
      | cons a l => rfl
    cases k with
    | zero => rfl
    | succ k => rw [Lib.splitK, this]; rfl
  | 0, _, c :: t, hn, _ => absurd hn (by simp)
  | n + 1, 0, c :: t, _, hk => absurd hk (by simp)
  | n + 1, k + 1, c :: t, hn, hk => by
    have hl : 1 ≤ sep.length := by cases sep with
      | nil => exact absurd rfl h
      | cons a l => simp
    have hn' : t.length ≤ n := by simpa using hn
    have hk' : t.length ≤ k := by simpa using hk
    cases hp : sep.isPrefixOf (c :: t) with
    | true =>
      have hi : Lib.index (c :: t) sep = 0 := by rw [Lib.index, if_pos hp]
      rw [cuts_hit h hp, Lib.splitK, hi, if_neg (by decide)]
      have := splitK_cuts h n k ((c :: t).drop sep.length) (by simp; omega) (by simp; omega)
      simpa using this
    | false =>
      rw [cuts_step hp]
      have hi : Lib.index (c :: t) sep = if Lib.index t sep == -1 then -1 else Lib.index t sep + 1 := by rw [Lib.index, hp]; rfl
      by_cases hm : (Lib.index t sep == -1) = true
      · rw [if_pos hm] at hi
        have ih := splitK_cuts h n k t hn' hk'
        have hs : Lib.splitK sep 0 k t = [t] := by cases k with
          | zero => rfl
          | succ k => rw [Lib.splitK, if_pos hm]
        rw [Lib.splitK, hi, if_pos (by decide), ← ih, hs]; rfl
      · rw [if_neg hm] at hi
        have hge : 0 ≤ Lib.index t sep := by have := Lib.index_ge t sep; have : Lib.index t sep ≠ -1 := fun e => hm (beq_iff_eq.2 e); omega
        have hr := Lib.index_room t sep hge
        obtain ⟨j, hj⟩ : ∃ j : Nat, Lib.index t sep = j := ⟨(Lib.index t sep).toNat, by omega⟩
        rw [hj] at hi hr
        obtain ⟨k2, rfl⟩ : ∃ k2, k = k2 + 1 := ⟨k - 1, by omega⟩
        have ih := splitK_cuts h n (k2 + 1) t hn' hk'
        rw [Lib.splitK, if_neg hm, hj] at ih
        rw [Lib.splitK, hi, if_neg (by rw [beq_iff_eq]; omega), ← ih]
        have e1 : ((j : Int) + 1).toNat = j + 1 := by omega
        have e2 : (c :: t).drop (((j : Int) + 1).toNat + sep.length) = t.drop ((j : Int).toNat + sep.length) := by
          rw [e1, show j + 1 + sep.length = (j + sep.length) + 1 by omega, List.drop_succ_cons]; rfl
        rw [e2, splitK_cuts h n (k2 + 1) (t.drop ((j : Int).toNat + sep.length)) (by simp; omega) (by simp; omega), splitK_cuts h n k2 (t.drop ((j : Int).toNat + sep.length)) (by simp; omega) (by simp; omega)]
        simp [consH]
theorem split_cuts (s sep : ByteArray) (h : sep.data.toList ≠ []) : Lib.splitB sep 0 (Lib.countB s sep) s = (cuts sep.data.toList s.data.toList).map ba := by
  have h1 := Lib.splitB_data sep 0 (Lib.countB s sep) s
  have h2 : Lib.splitK sep.data.toList 0 (Lib.countB s sep) s.data.toList = cuts sep.data.toList s.data.toList := by
    unfold Lib.countB Lib.count
    rw [← splitK_enough h _ _ (by omega) s.data.toList.length]
    exact splitK_cuts h _ _ _ (Nat.le_refl _) (by omega)
  rw [← h2, ← h1, List.map_map]
  have : (ba ∘ fun x : ByteArray => x.data.toList) = id := by funext x; rfl
  rw [this, List.map_id]

/-! The head. -/
def bareC (c : UInt8) : Bool := c != 13 && c != 10
def bareL (l : Bs) : Bool := l.all bareC
def headAt (b : Bs) : Int := Lib.index (b.take 8192) end4
/-- The head's lines and what stands behind it; else what is wrong. -/
def headF (b : Bs) : Except Nat (List Bs × Bs) :=
  if headAt b < 0 then .error (if b.length < 8192 then 92 else 93)
  else if (cuts crlf2 (b.take (headAt b).toNat)).all bareL then .ok (cuts crlf2 (b.take (headAt b).toNat), b.drop ((headAt b).toNat + 4)) else .error 90
theorem headAt_room {b : Bs} {e : Nat} (h : headAt b = e) : e + 4 ≤ b.length ∧ e + 4 ≤ 8192 := by
  have h1 := Lib.index_room (b.take 8192) end4 (by unfold headAt at h; rw [h]; omega)
  unfold headAt at h
  rw [h] at h1
  have : end4.length = 4 := rfl
  rw [this, List.length_take] at h1
  omega
theorem headF_none {b : Bs} (h : headAt b < 0) : headF b = .error (if b.length < 8192 then 92 else 93) := by unfold headF; rw [if_pos h]
theorem headF_bad {b : Bs} {e : Nat} (h : headAt b = e) (hb : (cuts crlf2 (b.take e)).all bareL = false) : headF b = .error 90 := by
  unfold headF
  rw [if_neg (by omega), h]
  simp [hb]
theorem headF_ok {b : Bs} {e : Nat} (h : headAt b = e) (hb : (cuts crlf2 (b.take e)).all bareL = true) : headF b = .ok (cuts crlf2 (b.take e), b.drop (e + 4)) := by
  unfold headF
  rw [if_neg (by omega), h]
  simp [hb]
/-- Lines one behind another. -/
def joinL (l0 : Bs) (ls : List Bs) : Bs := l0 ++ ls.flatMap (fun l => crlf2 ++ l)
theorem bare_ne {l : Bs} (h : bareL l = true) : ∀ c ∈ l, c ≠ 13 := by
  intro c hc e
  unfold bareL at h
  rw [List.all_eq_true] at h
  have := h c hc
  subst e
  cases this
theorem cuts_joinL : ∀ (ls : List Bs) (l0 : Bs), bareL l0 = true → (∀ l ∈ ls, bareL l = true) → cuts crlf2 (joinL l0 ls) = l0 :: ls
  | [], l0, h, _ => by
    unfold joinL
    rw [List.flatMap_nil, List.append_nil]
    exact cuts_one l0 (bare_ne h)
  | l :: ls, l0, h, hl => by
    have e : joinL l0 (l :: ls) = l0 ++ (crlf2 ++ joinL l ls) := by unfold joinL; rw [List.flatMap_cons, List.append_assoc]
    rw [e]
    show cuts (13 :: [10]) (l0 ++ ((13 :: [10]) ++ _)) = _
    rw [cuts_app l0 _ (bare_ne h)]
    exact congrArg (l0 :: ·) (cuts_joinL ls l (hl l (by simp)) (fun x hx => hl x (by simp [hx])))
theorem all_bare : ∀ (ls : List Bs), (∀ l ∈ ls, bareL l = true) → ls.all bareL = true := fun _ h => List.all_eq_true.2 h
theorem end4_no {c : UInt8} {s : Bs} (h : c ≠ 13) : end4.isPrefixOf (c :: s) = false := prefix_no h
theorem occ_bare : ∀ (l0 r : Bs) (j : Nat), bareL l0 = true → j < l0.length → Lib.occAt (l0 ++ r) end4 j = false
  | [], _, _, _, h => absurd h (by simp)
  | c :: l0, r, 0, hb, _ => by
    unfold Lib.occAt
    rw [List.drop_zero, List.cons_append]
    exact end4_no (bare_ne hb c (by simp))
  | c :: l0, r, j + 1, hb, h => by
    have := occ_bare l0 r j (by unfold bareL at hb ⊢; rw [List.all_cons, Bool.and_eq_true] at hb; exact hb.2) (by simpa using h)
    unfold Lib.occAt at this ⊢
    rwa [List.cons_append, List.drop_succ_cons]
theorem occ_shift (p r : Bs) (j : Nat) (h : p.length ≤ j) : Lib.occAt (p ++ r) end4 j = Lib.occAt r end4 (j - p.length) := by
  unfold Lib.occAt
  rw [List.drop_append, List.drop_eq_nil_of_le h, List.nil_append]
theorem occ_crlf (l r : Bs) (h : bareL l = true) (hne : l ≠ []) (j : Nat) (hj : j < 2) : Lib.occAt (crlf2 ++ (l ++ r)) end4 j = false := by
  cases l with
  | nil => exact absurd rfl hne
  | cons c l =>
    have hc := bare_ne h c (by simp)
    match j, hj with
    | 0, _ =>
      show end4.isPrefixOf (13 :: 10 :: c :: (l ++ r)) = false
      simp [end4, List.isPrefixOf]
      intro e; exact absurd e.symm hc
    | 1, _ => exact end4_no (by decide)
theorem joinL_cons (l0 l : Bs) (ls : List Bs) : joinL l0 (l :: ls) = l0 ++ (crlf2 ++ joinL l ls) := by unfold joinL; rw [List.flatMap_cons, List.append_assoc]
/-- No end stands ahead of the end. -/
theorem joinL_first : ∀ (ls : List Bs) (l0 r : Bs), bareL l0 = true → (∀ l ∈ ls, bareL l = true ∧ l ≠ []) → ∀ j, j < (joinL l0 ls).length → Lib.occAt (joinL l0 ls ++ r) end4 j = false
  | [], l0, r, h, _, j, hj => by
    have e : joinL l0 [] = l0 := by unfold joinL; simp
    rw [e] at hj ⊢
    exact occ_bare l0 r j h hj
  | l :: ls, l0, r, h, hl, j, hj => by
    rw [joinL_cons] at hj ⊢
    rw [List.append_assoc]
    by_cases h1 : j < l0.length
    · exact occ_bare l0 _ j h h1
    · rw [occ_shift _ _ _ (by omega)]
      have e : (crlf2 ++ joinL l ls) ++ r = crlf2 ++ (l ++ (ls.flatMap (fun l => crlf2 ++ l) ++ r)) := by unfold joinL; simp
      by_cases h2 : j - l0.length < 2
      · rw [e]
        exact occ_crlf l _ (hl l (by simp)).1 (hl l (by simp)).2 _ h2
      · rw [List.append_assoc, occ_shift _ _ _ (by show (2 : Nat) ≤ _; omega)]
        have hc : crlf2.length = 2 := rfl
        rw [hc]
        exact joinL_first ls l r (hl l (by simp)).1 (fun x hx => hl x (by simp [hx])) _ (by simp only [List.length_append, hc] at hj; omega)
theorem prefix_take {p s : Bs} {n : Nat} (h : p.length ≤ n) : p.isPrefixOf (s.take n) = p.isPrefixOf s := by
  rw [Bool.eq_iff_iff, List.isPrefixOf_iff_prefix, List.isPrefixOf_iff_prefix, List.prefix_take_iff]
  exact ⟨fun h => h.1, fun h' => ⟨h', h⟩⟩
theorem occ_take (s : Bs) (n j : Nat) (h : j + 4 ≤ n) : Lib.occAt (s.take n) end4 j = Lib.occAt s end4 j := by
  unfold Lib.occAt
  rw [List.drop_take, prefix_take (by show (4 : Nat) ≤ _; omega)]
theorem occ_late (s : Bs) (j : Nat) (h : s.length < j + 4) : Lib.occAt s end4 j = false := by
  unfold Lib.occAt
  rw [Bool.eq_false_iff]
  intro hp
  have := (List.isPrefixOf_iff_prefix.1 hp).length_le
  have e : end4.length = 4 := rfl
  rw [e, List.length_drop] at this
  omega
theorem headAt_first {p r : Bs} (hf : ∀ j, j < p.length → Lib.occAt (p ++ (end4 ++ r)) end4 j = false) (hl : p.length + 4 ≤ 8192) : headAt (p ++ (end4 ++ r)) = p.length := by
  unfold headAt
  refine Lib.index_first ?_ ?_ (fun j hj => ?_)
  · rw [List.length_take, List.length_append]; omega
  · rw [occ_take _ _ _ hl, occ_shift _ _ _ (Nat.le_refl _), Nat.sub_self]
    unfold Lib.occAt
    rw [List.drop_zero, List.isPrefixOf_iff_prefix]
    exact List.prefix_append _ _
  · rw [occ_take _ _ _ (by omega)]
    exact hf j hj
theorem headAt_late {p r : Bs} (hf : ∀ j, j < p.length → Lib.occAt (p ++ (end4 ++ r)) end4 j = false) (hl : 8192 < p.length + 4) : headAt (p ++ (end4 ++ r)) = -1 := by
  unfold headAt
  refine Lib.index_none (fun j hj => ?_)
  by_cases h : j + 4 ≤ 8192
  · rw [occ_take _ _ _ h]
    exact hf j (by omega)
  · refine occ_late _ _ ?_
    rw [List.length_take]; omega
/-- Bare lines, the later ones not empty, are read as they are. -/
theorem headF_lines (l0 : Bs) (ls : List Bs) (r : Bs) (h0 : bareL l0 = true) (hl : ∀ l ∈ ls, bareL l = true ∧ l ≠ []) (hn : (joinL l0 ls).length + 4 ≤ 8192) : headF (joinL l0 ls ++ (end4 ++ r)) = .ok (l0 :: ls, r) := by
  have h1 := headAt_first (r := r) (joinL_first ls l0 (end4 ++ r) h0 hl) hn
  have e : (joinL l0 ls ++ (end4 ++ r)).take (joinL l0 ls).length = joinL l0 ls := by simp
  have hc := cuts_joinL ls l0 h0 (fun l h => (hl l h).1)
  rw [headF_ok h1 (by rw [e, hc]; exact all_bare _ (by intro l h; rcases List.mem_cons.1 h with rfl | h; exact h0; exact (hl l h).1)), e, hc]
  have : (joinL l0 ls ++ (end4 ++ r)).drop ((joinL l0 ls).length + 4) = r := by
    rw [← List.append_assoc, List.drop_append, List.drop_eq_nil_of_le (by simp [end4])]
    simp [end4]
  rw [this]
theorem headF_long (l0 : Bs) (ls : List Bs) (r : Bs) (h0 : bareL l0 = true) (hl : ∀ l ∈ ls, bareL l = true ∧ l ≠ []) (hn : 8192 < (joinL l0 ls).length + 4) : headF (joinL l0 ls ++ (end4 ++ r)) = .error 93 := by
  have h1 := headAt_late (r := r) (joinL_first ls l0 (end4 ++ r) h0 hl) hn
  rw [headF_none (by omega), if_neg (by simp [end4]; omega)]
/-- What is less than the head isn't all there; what stands behind it says nothing. -/
theorem headF_split {b rest : Bs} {ls : List Bs} (h : headF b = .ok (ls, rest)) : ∃ p, b = p ++ rest ∧ 4 ≤ p.length ∧ p.length ≤ 8192 ∧ ∀ r, headF (p ++ r) = .ok (ls, r) := by
  unfold headF at h
  by_cases hm : headAt b < 0
  · rw [if_pos hm] at h; cases h
  · rw [if_neg hm] at h
    obtain ⟨e, he⟩ : ∃ e : Nat, headAt b = e := ⟨(headAt b).toNat, by omega⟩
    rw [he] at h
    have hr := headAt_room he
    simp only [Int.toNat_natCast] at h
    by_cases hb : (cuts crlf2 (b.take e)).all bareL = true
    · rw [if_pos hb] at h
      injection h with h
      injection h with h1 h2
      subst h1; subst h2
      refine ⟨b.take (e + 4), (List.take_append_drop _ _).symm, by rw [List.length_take]; omega, by rw [List.length_take]; omega, fun r => ?_⟩
      have hp : (b.take (e + 4)).length = e + 4 := by rw [List.length_take]; omega
      have hs := Lib.index_spec (b.take 8192) end4
      unfold headAt at he
      rcases hs with ⟨h1, _⟩ | ⟨i, h1, h2, h3, h4⟩
      · omega
      · obtain rfl : i = e := by omega
        have key : ∀ j, j + 4 ≤ i + 4 → Lib.occAt ((b.take (i + 4) ++ r).take 8192) end4 j = Lib.occAt (b.take 8192) end4 j := by
          intro j hj
          rw [occ_take _ _ _ (by omega), occ_take _ _ _ (by omega)]
          have t1 : (b.take (i + 4) ++ r).take (i + 4) = b.take (i + 4) := by rw [List.take_append_of_le_length (by omega), List.take_of_length_le (by omega)]
          rw [← occ_take _ (i + 4) _ hj, t1, occ_take _ _ _ hj]
        have hat : headAt (b.take (i + 4) ++ r) = i := by
          unfold headAt
          refine Lib.index_first (by rw [List.length_take, List.length_append]; omega) ((key i (Nat.le_refl _)).trans h3) (fun j hj => (key j (by omega)).trans (h4 j hj))
        have t2 : (b.take (i + 4) ++ r).take i = b.take i := by rw [List.take_append_of_le_length (by omega), List.take_take]; congr 1; omega
        rw [headF_ok hat (by rw [t2]; exact hb), t2]
        rw [List.drop_append, List.drop_eq_nil_of_le (by omega), hp, Nat.sub_self]
        rfl
    · rw [if_neg hb] at h; cases h
theorem headF_cut {b rest : Bs} {ls : List Bs} (h : headF b = .ok (ls, rest)) (k : Nat) (hk : k + rest.length < b.length) : headF (b.take k) = .error 92 := by
  unfold headF at h
  by_cases hm : headAt b < 0
  · rw [if_pos hm] at h; cases h
  · rw [if_neg hm] at h
    obtain ⟨e, he⟩ : ∃ e : Nat, headAt b = e := ⟨(headAt b).toNat, by omega⟩
    rw [he] at h
    have hr := headAt_room he
    simp only [Int.toNat_natCast] at h
    by_cases hb : (cuts crlf2 (b.take e)).all bareL = true
    · rw [if_pos hb] at h
      injection h with h
      injection h with h1 h2
      subst h2
      rw [List.length_drop] at hk
      unfold headAt at he
      rcases Lib.index_spec (b.take 8192) end4 with ⟨h1, _⟩ | ⟨i, h1, h2, h3, h4⟩
      · omega
      · obtain rfl : i = e := by omega
        have hat : headAt (b.take k) = -1 := by
          unfold headAt
          refine Lib.index_none (fun j hj => ?_)
          rw [List.length_take, List.length_take] at hj
          rw [List.take_take, Nat.min_eq_right (by omega)]
          by_cases hj2 : j + 4 ≤ k
          · rw [occ_take _ _ _ hj2, ← occ_take b 8192 j (by omega)]
            exact h4 j (by omega)
          · exact occ_late _ _ (by rw [List.length_take]; omega)
        rw [headF_none (by omega), if_pos (by rw [List.length_take]; omega)]
    · rw [if_neg hb] at h; cases h
end Go.Proofs.YtjpmofnnjdhamaaGreatDoor.HttpMath
namespace Go.Proofs.YtjpmofnnjdhamaaGreatDoor.HttpMath
open Go Go.Proofs.YtjpmofnnjdhamaaGreatDoor HeadMath ChunkMath

/-- The first piece with bytes ahead. -/
def accH (acc : Bs) : List Bs → List Bs
  | [] => [acc]
  | x :: r => (acc ++ x) :: r
theorem accH_cons (acc : Bs) (c : UInt8) (L : List Bs) : accH acc (consH c L) = accH (acc ++ [c]) L := by
  cases L with
  | nil => rfl
  | cons x r => simp [consH, accH]
theorem accH_hit (acc : Bs) (L : List Bs) : accH acc ([] :: L) = acc :: L := by simp [accH]
theorem accH_nil {L : List Bs} (h : L ≠ []) : accH [] L = L := by
  cases L with
  | nil => exact absurd rfl h
  | cons x r => rfl
/-- Where the scan of t is: what is done, from where, at which place. -/
def ScanAt (t : Bs) (D : List Bs) (f j : Nat) : Prop := f ≤ j ∧ j ≤ t.length ∧ cuts crlf2 t = D ++ accH ((t.drop f).take (j - f)) (cuts crlf2 (t.drop j)) ∧ D.all bareL = true
theorem scan_start (t : Bs) : ScanAt t [] 0 0 := ⟨Nat.le_refl _, Nat.zero_le _, by rw [Nat.sub_self, List.take_zero, List.drop_zero, accH_nil (cuts_ne _ _)]; rfl, rfl⟩
theorem take_more {b : Bs} {k i : Nat} {x : UInt8} (hk : k ≤ i) (h : b[i]? = some x) : (b.drop k).take (i + 1 - k) = (b.drop k).take (i - k) ++ [x] := by
  have e : i + 1 - k = (i - k) + 1 := by omega
  have hl : i < b.length := (List.getElem?_eq_some_iff.1 h).1
  have h2 : i - k < (b.drop k).length := by rw [List.length_drop]; omega
  rw [e, List.take_succ_eq_append_getElem h2]
  congr 2
  rw [List.getElem_drop]
  have := (List.getElem?_eq_some_iff.1 h).2
  rw [← this]
  congr 1; omega
theorem scan_step {t : Bs} {D : List Bs} {f j : Nat} {x : UInt8} (h : ScanAt t D f j) (hx : t[j]? = some x) (hn : crlf2.isPrefixOf (t.drop j) = false) : ScanAt t D f (j + 1) := by
  obtain ⟨h1, h2, h3, h4⟩ := h
  have hl : j < t.length := (List.getElem?_eq_some_iff.1 hx).1
  have hd : t.drop j = x :: t.drop (j + 1) := by
    rw [List.drop_eq_getElem_cons hl]
    have := (List.getElem?_eq_some_iff.1 hx).2
    rw [this]
  rw [hd] at h3 hn
  rw [cuts_step hn, accH_cons, ← take_more h1 hx] at h3
  exact ⟨by omega, by omega, h3, h4⟩
theorem scan_hit {t : Bs} {D : List Bs} {f j : Nat} (h : ScanAt t D f j) (hn : crlf2.isPrefixOf (t.drop j) = true) (hb : bareL ((t.drop f).take (j - f)) = true) : ScanAt t (D ++ [(t.drop f).take (j - f)]) (j + 2) (j + 2) := by
  obtain ⟨h1, h2, h3, h4⟩ := h
  have hl := (List.isPrefixOf_iff_prefix.1 hn).length_le
  rw [List.length_drop] at hl
  have h2' : crlf2.length = 2 := rfl
  rw [h2'] at hl
  rw [cuts_hit (by decide) hn, accH_hit, List.drop_drop, h2'] at h3
  refine ⟨Nat.le_refl _, by omega, ?_, ?_⟩
  · rw [Nat.sub_self, List.take_zero, accH_nil (cuts_ne _ _), List.append_assoc]
    exact h3
  · rw [List.all_append, h4]
    simp [hb]
theorem scan_end {t : Bs} {D : List Bs} {f : Nat} (h : ScanAt t D f t.length) : cuts crlf2 t = D ++ [(t.drop f).take (t.length - f)] := by
  obtain ⟨h1, _, h3, _⟩ := h
  rw [List.drop_length, cuts_nil] at h3
  rw [h3]
  simp [accH]
/-- A piece with a byte of CR LF: the head is refused. -/
theorem scan_bad {t : Bs} {D : List Bs} {f j : Nat} (h : ScanAt t D f j) (hn : j = t.length ∨ crlf2.isPrefixOf (t.drop j) = true) (hb : bareL ((t.drop f).take (j - f)) = false) : (cuts crlf2 t).all bareL = false := by
  rcases hn with rfl | hn
  · rw [scan_end h, List.all_append]
    simp [hb]
  · obtain ⟨h1, h2, h3, h4⟩ := h
    rw [cuts_hit (by decide) hn, accH_hit] at h3
    rw [h3, List.all_append]
    simp [hb]
theorem scan_done {t : Bs} {D : List Bs} {f : Nat} (h : ScanAt t D f t.length) (hb : bareL ((t.drop f).take (t.length - f)) = true) : cuts crlf2 t = D ++ [(t.drop f).take (t.length - f)] ∧ (cuts crlf2 t).all bareL = true := by
  have h3 := scan_end h
  refine ⟨h3, ?_⟩
  rw [h3, List.all_append, h.2.2.2]
  simp [hb]
theorem bare_not {l : Bs} {k : Nat} {x : UInt8} (h : l[k]? = some x) (hx : x = 13 ∨ x = 10) : bareL l = false := by
  rw [Bool.eq_false_iff]
  intro hb
  unfold bareL at hb
  rw [List.all_eq_true] at hb
  have := hb x (List.mem_of_getElem? h)
  rcases hx with rfl | rfl <;> cases this
theorem bare_all {l : Bs} (h : ∀ (k : Nat) (x : UInt8), l[k]? = some x → x ≠ 13 ∧ x ≠ 10) : bareL l = true := by
  unfold bareL
  rw [List.all_eq_true]
  intro x hx
  obtain ⟨k, hk⟩ := List.getElem?_of_mem hx
  have := h k x hk
  unfold bareC
  simp [this.1, this.2]
theorem crlf_at {t : Bs} {j : Nat} {x y : UInt8} (hx : t[j]? = some x) (hy : t[j + 1]? = some y) : crlf2.isPrefixOf (t.drop j) = (x == 13 && y == 10) := by
  have h1 := (List.getElem?_eq_some_iff.1 hx).1
  have h2 := (List.getElem?_eq_some_iff.1 hy).1
  rw [List.drop_eq_getElem_cons h1, List.drop_eq_getElem_cons h2, (List.getElem?_eq_some_iff.1 hx).2, (List.getElem?_eq_some_iff.1 hy).2]
  have e1 : ((13 : UInt8) == x) = (x == 13) := BEq.comm
  have e2 : ((10 : UInt8) == y) = (y == 10) := BEq.comm
  show (((13 : UInt8) == x) && (((10 : UInt8) == y) && List.isPrefixOf [] _)) = _
  rw [e1, e2, List.isPrefixOf, Bool.and_true]
theorem crlf_last {t : Bs} {j : Nat} (h : t.length ≤ j + 1) : crlf2.isPrefixOf (t.drop j) = false := by
  rw [Bool.eq_false_iff]
  intro hn
  have hl := (List.isPrefixOf_iff_prefix.1 hn).length_le
  rw [List.length_drop] at hl
  have h2' : crlf2.length = 2 := rfl
  omega
/-- Where the search of the head's end is. -/
def NoEnd (b : Bs) (j : Nat) : Prop := ∀ m, m < j → Lib.occAt b end4 m = false
theorem noEnd_step {b : Bs} {j : Nat} (h : NoEnd b j) (hn : Lib.occAt b end4 j = false) : NoEnd b (j + 1) := fun m hm => by
  rcases Nat.lt_or_ge m j with h1 | h1
  · exact h m h1
  · obtain rfl : m = j := by omega
    exact hn
theorem noEnd_found {b : Bs} {j : Nat} (h : NoEnd b j) (hl : j + 4 ≤ b.length) (h8 : j + 4 ≤ 8192) (ho : Lib.occAt b end4 j = true) : headAt b = j := by
  unfold headAt
  refine Lib.index_first (by rw [List.length_take]; omega) (by rw [occ_take _ _ _ h8]; exact ho) (fun m hm => ?_)
  rw [occ_take _ _ _ (by omega)]
  exact h m hm
theorem noEnd_none {b : Bs} {j : Nat} (h : NoEnd b j) (hl : b.length < j + 4 ∨ 8192 < j + 4) : headAt b < 0 := by
  have : headAt b = -1 := by
    unfold headAt
    refine Lib.index_none (fun m hm => ?_)
    by_cases h1 : m + 4 ≤ 8192
    · rw [occ_take _ _ _ h1]
      by_cases h2 : m < j
      · exact h m h2
      · exact occ_late _ _ (by omega)
    · refine occ_late _ _ ?_
      rw [List.length_take]; omega
  omega
theorem occ_take4 (b : Bs) (j : Nat) (hl : j + 4 ≤ b.length) : Lib.occAt b end4 j = ((b.drop j).take 4 == end4) := by
  unfold Lib.occAt
  rw [← prefix_take (n := 4) (by decide), Bool.eq_iff_iff, List.isPrefixOf_iff_prefix, beq_iff_eq]
  constructor
  · intro h
    exact (h.eq_of_length (by rw [List.length_take, List.length_drop]; show (4 : Nat) = _; omega)).symm
  · intro h
    rw [h]
    exact List.prefix_refl _
theorem take_in {b : Bs} {e f j : Nat} (h : j ≤ e) : ((b.take e).drop f).take (j - f) = (b.drop f).take (j - f) := by
  rw [List.drop_take, List.take_take]
  congr 1; omega
end Go.Proofs.YtjpmofnnjdhamaaGreatDoor.HttpMath
