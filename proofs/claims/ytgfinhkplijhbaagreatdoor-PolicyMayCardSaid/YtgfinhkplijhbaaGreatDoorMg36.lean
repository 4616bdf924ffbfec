/-
  The calendar, and the three texts of a time: plain mathematics. Nothing here speaks of the program.
  What the reference reads is the time of the text: plain mathematics.
-/
import Derived.Lib.Bytealg
namespace Go.Proofs.YtgfinhkplijhbaaGreatDoor.DateMath

def leapB (y : Nat) : Bool := y % 4 == 0 && (y % 100 != 0 || y % 400 == 0)
def leapN (y : Nat) : Nat := if leapB y then 1 else 0
/-- Months from 0 on. -/
def lenN (y m : Nat) : Nat := match m with | 0 => 31 | 1 => 28 + leapN y | 2 => 31 | 3 => 30 | 4 => 31 | 5 => 30 | 6 => 31 | 7 => 31 | 8 => 30 | 9 => 31 | 10 => 30 | _ => 31
def aheadN (y : Nat) : Int := 365 * ((y : Int) - 1970) + (((y : Int) - 1) / 4 - ((y : Int) - 1) / 100 + ((y : Int) - 1) / 400) - 477
def cumN (y m : Nat) : Int := match m with | 0 => 0 | m + 1 => cumN y m + lenN y m
def dayN (y m d : Nat) : Int := aheadN y + cumN y m + d - 1
structure OkD (y m d : Nat) : Prop where
  y1 : 1970 ≤ y
  y2 : y ≤ 9999
  m1 : m ≤ 11
  d1 : 1 ≤ d
  d2 : d ≤ lenN y m
theorem leap_cases (y : Nat) : (leapN y = 1 ∧ y % 4 = 0 ∧ (y % 100 ≠ 0 ∨ y % 400 = 0)) ∨ (leapN y = 0 ∧ (y % 4 ≠ 0 ∨ (y % 100 = 0 ∧ y % 400 ≠ 0))) := by
  unfold leapN leapB
  by_cases h1 : y % 4 = 0 <;> by_cases h2 : y % 100 = 0 <;> by_cases h3 : y % 400 = 0 <;> simp [h1, h2, h3]
theorem ahead_succ (y : Nat) (_h : 1 ≤ y) : aheadN (y + 1) = aheadN y + 365 + leapN y := by
  have := leap_cases y
  unfold aheadN
  omega
/-- The program's count: years from March on. -/
def civN (y m d : Int) : Int := y / 400 * 146097 + y % 400 * 365 + y % 400 / 4 - y % 400 / 100 + ((153 * m + 2) / 5 + d - 1) - 719468
def daysN (y m d : Nat) : Int := if m < 2 then civN (y - 1) (m + 10) d else civN y (m - 2) d
theorem days_eq (y m d : Nat) (_hy : 1 ≤ y) (hm : m ≤ 11) : daysN y m d = dayN y m d := by
  have := leap_cases y
  unfold daysN dayN aheadN civN
  match m, hm with
  | 0, _ => simp only [cumN]; simp; omega
  | 1, _ => simp only [cumN, lenN]; simp; omega
  | 2, _ => simp only [cumN, lenN]; simp; omega
  | 3, _ => simp only [cumN, lenN]; simp; omega
  | 4, _ => simp only [cumN, lenN]; simp; omega
  | 5, _ => simp only [cumN, lenN]; simp; omega
  | 6, _ => simp only [cumN, lenN]; simp; omega
  | 7, _ => simp only [cumN, lenN]; simp; omega
  | 8, _ => simp only [cumN, lenN]; simp; omega
  | 9, _ => simp only [cumN, lenN]; simp; omega
  | 10, _ => simp only [cumN, lenN]; simp; omega
  | 11, _ => simp only [cumN, lenN]; simp; omega
/-- Year of 400, by the day of 400 years. -/
def yoeN (n : Nat) : Nat := (n - n / 1460 + n / 36524 - n / 146096) / 365
theorem yoe_form (c q r : Nat) (hc : c ≤ 3) (hq : q ≤ 24) (hr : r ≤ 1460) (hn : 1461 * q + r ≤ 36523) : yoeN (36524 * c + 1461 * q + r) = 100 * c + 4 * q + (r - r / 1460) / 365 := by
  have e3 : (36524 * c + 1461 * q + r) / 146096 = 0 := by omega
  have e2 : (36524 * c + 1461 * q + r) / 36524 = c := by omega
  unfold yoeN
  rw [e3, e2]
  by_cases h : 24 * c + q + r < 1460
  · have e1 : (36524 * c + 1461 * q + r) / 1460 = 25 * c + q := by omega
    rw [e1]
    omega
  · have e1 : (36524 * c + 1461 * q + r) / 1460 = 25 * c + q + 1 := by omega
    have e4 : (r - r / 1460) / 365 = 3 := by
      by_cases r = 1460
      · omega
      · have : r / 1460 = 0 := by omega
        omega
    rw [e1, e4]
    have : 36524 * c + 1461 * q + r - (25 * c + q + 1) + c - 0 = 36500 * c + 1460 * q + (r - 1) := by omega
    rw [this]
    have : (r - 1) / 365 = 3 := by omega
    omega
theorem yoe_ok (n : Nat) (h : n ≤ 146096) : yoeN n ≤ 399 ∧ 365 * yoeN n + yoeN n / 4 - yoeN n / 100 ≤ n ∧ n < 365 * yoeN n + yoeN n / 4 - yoeN n / 100 + 365 + leapN (yoeN n + 1) := by
  by_cases hl : n = 146096
  · subst hl; decide
  · obtain ⟨c, q, r, rfl, hc, hq, hr, hn⟩ : ∃ c q r, n = 36524 * c + 1461 * q + r ∧ c ≤ 3 ∧ q ≤ 24 ∧ r ≤ 1460 ∧ 1461 * q + r ≤ 36523 :=
      ⟨n / 36524, n % 36524 / 1461, n % 36524 % 1461, by omega, by omega, by omega, by omega, by omega⟩
    have f := yoe_form c q r hc hq hr hn
    obtain ⟨k, hk, hk3, h1, h2⟩ : ∃ k, (r - r / 1460) / 365 = k ∧ k ≤ 3 ∧ 365 * k ≤ r ∧ (r < 365 * k + 365 ∨ (k = 3 ∧ r = 1460)) := by
      refine ⟨_, rfl, ?_⟩
      by_cases e : r = 1460
      · subst e; omega
      · have : r / 1460 = 0 := by omega
        rw [this]
        omega
    rw [hk] at f
    have hlp := leap_cases (yoeN (36524 * c + 1461 * q + r) + 1)
    rw [f] at hlp ⊢
    have a1 : (100 * c + 4 * q + k) / 4 = 25 * c + q := by omega
    have a2 : (100 * c + 4 * q + k) / 100 = c := by omega
    rw [a1, a2]
    refine ⟨by omega, by omega, ?_⟩
    rcases h2 with h2 | ⟨rfl, rfl⟩
    · omega
    · rcases hlp with ⟨hlp, _⟩ | ⟨_, hlp⟩
      · omega
      · exfalso
        have : (100 * c + 4 * q + 3 + 1) % 4 = 0 := by omega
        have b : (100 * c + 4 * q + 3 + 1) % 100 = 0 ∧ (100 * c + 4 * q + 3 + 1) % 400 ≠ 0 := by omega
        have : q = 24 := by omega
        omega
def n400 (n : Nat) : Nat := (n + 719468) % 146097
def doyN (n : Nat) : Nat := n400 n - (365 * yoeN (n400 n) + yoeN (n400 n) / 4 - yoeN (n400 n) / 100)
def mthN (n : Nat) : Nat := (5 * doyN n + 2) / 153
def dayOf (n : Nat) : Nat := doyN n - (153 * mthN n + 2) / 5 + 1
def yearM (n : Nat) : Nat := (n + 719468) / 146097 * 400 + yoeN (n400 n)
def monOf (n : Nat) : Nat := if mthN n + 2 > 11 then mthN n + 2 - 12 else mthN n + 2
def yearOf (n : Nat) : Nat := if mthN n + 2 > 11 then yearM n + 1 else yearM n
theorem doy_bound (n : Nat) : doyN n ≤ 365 ∧ mthN n ≤ 11 ∧ (153 * mthN n + 2) / 5 ≤ doyN n := by
  have hb := yoe_ok (n400 n) (by unfold n400; omega)
  have hlp := leap_cases (yoeN (n400 n) + 1)
  have h1 : doyN n ≤ 365 := by unfold doyN; omega
  refine ⟨h1, ?_, ?_⟩ <;> unfold mthN <;> omega
theorem civ_ok (n : Nat) (h : n ≤ 2932896) : OkD (yearOf n) (monOf n) (dayOf n) ∧ daysN (yearOf n) (monOf n) (dayOf n) = n := by
  have hb := yoe_ok (n400 n) (by unfold n400; omega)
  have hd := doy_bound n
  have e1 : doyN n = n400 n - (365 * yoeN (n400 n) + yoeN (n400 n) / 4 - yoeN (n400 n) / 100) := rfl
  have e2 : n400 n = (n + 719468) % 146097 := rfl
  have e3 : mthN n = (5 * doyN n + 2) / 153 := rfl
  have e4 : yearM n = (n + 719468) / 146097 * 400 + yoeN (n400 n) := rfl
  have e5 : dayOf n = doyN n - (153 * mthN n + 2) / 5 + 1 := rfl
  have hlp := leap_cases (yoeN (n400 n) + 1)
  have hlq := leap_cases (yearM n + 1)
  have hls : leapN (yearM n + 1) = leapN (yoeN (n400 n) + 1) := by omega
  unfold yearOf monOf
  generalize n400 n = a at *
  generalize yoeN a = y at *
  generalize doyN n = o at *
  generalize mthN n = m at *
  generalize yearM n = Y at *
  generalize dayOf n = d at *
  have q1 : Y % 400 = y := by omega
  have q2 : Y / 400 = (n + 719468) / 146097 := by omega
  by_cases hm : m + 2 > 11
  · rw [if_pos hm, if_pos hm]
    refine ⟨⟨?_, ?_, by omega, by omega, ?_⟩, ?_⟩
    · omega
    · omega
    · rcases (by omega : m = 10 ∨ m = 11) with rfl | rfl
      · show d ≤ 31; omega
      · show d ≤ 28 + leapN (Y + 1); omega
    · unfold daysN civN
      rw [if_pos (by omega)]
      have t1 : ((Y + 1 : Nat) : Int) - 1 = (Y : Int) := by omega
      have t2 : ((m + 2 - 12 : Nat) : Int) + 10 = (m : Int) := by omega
      have t3 : (153 * (m : Int) + 2) / 5 = (((153 * m + 2) / 5 : Nat) : Int) := by omega
      have t4 : (Y : Int) % 400 / 100 = ((y / 100 : Nat) : Int) := by omega
      have t5 : (Y : Int) % 400 / 4 = ((y / 4 : Nat) : Int) := by omega
      have t6 : (Y : Int) % 400 = (y : Int) := by omega
      have t7 : (Y : Int) / 400 = (((n + 719468) / 146097 : Nat) : Int) := by omega
      rw [t1, t2, t3, t4, t5, t6, t7]
      clear t1 t2 t3 t4 t5 t6 t7 hlq hlp hls q1 q2 e3
      omega
  · rw [if_neg hm, if_neg hm]
    refine ⟨⟨?_, ?_, by omega, by omega, ?_⟩, ?_⟩
    · omega
    · omega
    · rcases (by omega : m = 0 ∨ m = 1 ∨ m = 2 ∨ m = 3 ∨ m = 4 ∨ m = 5 ∨ m = 6 ∨ m = 7 ∨ m = 8 ∨ m = 9) with rfl | rfl | rfl | rfl | rfl | rfl | rfl | rfl | rfl | rfl
      · show d ≤ 31; omega
      · show d ≤ 30; omega
      · show d ≤ 31; omega
      · show d ≤ 30; omega
      · show d ≤ 31; omega
      · show d ≤ 31; omega
      · show d ≤ 30; omega
      · show d ≤ 31; omega
      · show d ≤ 30; omega
      · show d ≤ 31; omega
    · unfold daysN civN
      rw [if_neg (by omega)]
      have t2 : ((m + 2 : Nat) : Int) - 2 = (m : Int) := by omega
      have t3 : (153 * (m : Int) + 2) / 5 = (((153 * m + 2) / 5 : Nat) : Int) := by omega
      have t4 : (Y : Int) % 400 / 100 = ((y / 100 : Nat) : Int) := by omega
      have t5 : (Y : Int) % 400 / 4 = ((y / 4 : Nat) : Int) := by omega
      have t6 : (Y : Int) % 400 = (y : Int) := by omega
      have t7 : (Y : Int) / 400 = (((n + 719468) / 146097 : Nat) : Int) := by omega
      rw [t2, t3, t4, t5, t6, t7]
      clear t2 t3 t4 t5 t6 t7 hlq hlp hls q1 q2 e3
      omega
theorem cum_year (y : Nat) : cumN y 12 = 365 + leapN y := by simp only [cumN, lenN]; omega
theorem cum_mono (y : Nat) : ∀ (k m : Nat), cumN y m ≤ cumN y (m + k)
  | 0, m => Int.le_refl _
  | k + 1, m => by have := cum_mono y k m; show _ ≤ cumN y (m + k) + lenN y (m + k); omega
theorem ahead_mono (y : Nat) (h : 1 ≤ y) : ∀ k : Nat, aheadN y + 365 * k ≤ aheadN (y + k)
  | 0 => by simp
  | k + 1 => by have := ahead_mono y h k; have := ahead_succ (y + k) (by omega); rw [← Nat.add_assoc]; omega
theorem day_in {y m d : Nat} (h : OkD y m d) : aheadN y ≤ dayN y m d ∧ dayN y m d < aheadN (y + 1) := by
  have h1 := ahead_succ y (by have := h.y1; omega)
  have h2 := cum_year y
  have h3 := cum_mono y m 0
  have h4 := cum_mono y (11 - m) (m + 1)
  have e : m + 1 + (11 - m) = 12 := by have := h.m1; omega
  have e2 : cumN y (m + 1) = cumN y m + lenN y m := rfl
  have e3 : cumN y 0 = 0 := rfl
  rw [e] at h4
  rw [Nat.zero_add] at h3
  have := h.d1
  have := h.d2
  unfold dayN
  omega
/-- A day has one date. -/
theorem day_one {y m d y' m' d' : Nat} (h : OkD y m d) (h' : OkD y' m' d') (e : dayN y m d = dayN y' m' d') : y = y' ∧ m = m' ∧ d = d' := by
  have a := day_in h
  have b := day_in h'
  have hy : y = y' := by
    rcases Nat.lt_trichotomy y y' with q | q | q
    · have := ahead_mono (y + 1) (by omega) (y' - (y + 1))
      rw [show y + 1 + (y' - (y + 1)) = y' by omega] at this
      omega
    · exact q
    · have := ahead_mono (y' + 1) (by omega) (y - (y' + 1))
      rw [show y' + 1 + (y - (y' + 1)) = y by omega] at this
      omega
  subst hy
  have p1 := h.d1; have p2 := h.d2; have p3 := h'.d1; have p4 := h'.d2
  unfold dayN at e
  have hm : m = m' := by
    rcases Nat.lt_trichotomy m m' with q | q | q
    · have := cum_mono y (m' - (m + 1)) (m + 1)
      rw [show m + 1 + (m' - (m + 1)) = m' by omega] at this
      have e2 : cumN y (m + 1) = cumN y m + lenN y m := rfl
      omega
    · exact q
    · have := cum_mono y (m - (m' + 1)) (m' + 1)
      rw [show m' + 1 + (m - (m' + 1)) = m by omega] at this
      have e2 : cumN y (m' + 1) = cumN y m' + lenN y m' := rfl
      omega
  subst hm
  exact ⟨rfl, rfl, by omega⟩
abbrev Bs := List UInt8
def dayL : List Bs := [[83, 117, 110, 100, 97, 121], [77, 111, 110, 100, 97, 121], [84, 117, 101, 115, 100, 97, 121], [87, 101, 100, 110, 101, 115, 100, 97, 121], [84, 104, 117, 114, 115, 100, 97, 121], [70, 114, 105, 100, 97, 121], [83, 97, 116, 117, 114, 100, 97, 121]]
def monL : List Bs := [[74, 97, 110], [70, 101, 98], [77, 97, 114], [65, 112, 114], [77, 97, 121], [74, 117, 110], [74, 117, 108], [65, 117, 103], [83, 101, 112], [79, 99, 116], [78, 111, 118], [68, 101, 99]]
def dig (n : Nat) : UInt8 := UInt8.ofNat (48 + n)
def two2 (n : Nat) : Bs := [dig (n / 10 % 10), dig (n % 10)]
/-- A time by the calendar. -/
structure Mom where
  (year mon day hour min sec wd : Nat)
structure OkM (m : Mom) : Prop where
  date : OkD m.year m.mon m.day
  hour : m.hour ≤ 23
  min : m.min ≤ 59
  sec : m.sec ≤ 59
  wd : m.wd ≤ 6
def momOf (t : Nat) : Mom := ⟨yearOf (t / 86400), monOf (t / 86400), dayOf (t / 86400), t % 86400 / 3600, t % 86400 / 60 % 60, t % 86400 % 60, (t / 86400 + 4) % 7⟩
def maxT : Nat := 253402300799
theorem mom_ok (t : Nat) (h : t ≤ maxT) : OkM (momOf t) := by
  unfold maxT at h
  exact ⟨(civ_ok (t / 86400) (by omega)).1, by simp only [momOf]; omega, by simp only [momOf]; omega, by simp only [momOf]; omega, by simp only [momOf]; omega⟩
def day3 (m : Mom) : Bs := (dayL.getD m.wd []).take 3
def monT (m : Mom) : Bs := monL.getD m.mon []
def clockT (m : Mom) : Bs := two2 m.hour ++ 58 :: (two2 m.min ++ 58 :: two2 m.sec)
def plainT (m : Mom) : Bs := day3 m ++ 44 :: 32 :: (two2 m.day ++ 32 :: (monT m ++ 32 :: (two2 (m.year / 100) ++ (two2 m.year ++ 32 :: (clockT m ++ [32, 71, 77, 84])))))
theorem two2_mod (a : Nat) : two2 a = two2 (a % 100) := by
  unfold two2
  have e1 : a / 10 % 10 = a % 100 / 10 % 10 := by omega
  have e2 : a % 10 = a % 100 % 10 := by omega
  rw [e1, e2]
end Go.Proofs.YtgfinhkplijhbaaGreatDoor.DateMath
namespace Go.Proofs.YtgfinhkplijhbaaGreatDoor.DateMath

def day3L : List Bs := dayL.map (·.take 3)
theorem day3_map (M : Mom) : day3L.getD M.wd [] = day3 M := by
  unfold day3 day3L
  simp only [List.getD_eq_getElem?_getD, List.getElem?_map]
  cases dayL[M.wd]? <;> rfl
end Go.Proofs.YtgfinhkplijhbaaGreatDoor.DateMath
