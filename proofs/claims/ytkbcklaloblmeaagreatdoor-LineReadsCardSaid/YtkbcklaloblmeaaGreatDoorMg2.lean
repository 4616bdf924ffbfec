/-
  The calendar, and the three texts of a time: plain mathematics. Nothing here speaks of the program.
  What the reference reads is the time of the text: plain mathematics.
-/
import Derived.Lib.Bytealg
namespace Go.Proofs.YtkbcklaloblmeaaGreatDoor.DateMath

def leapB (y : Nat) : Bool := y % 4 == 0 && (y % 100 != 0 || y % 400 == 0)
def leapN (y : Nat) : Nat := if leapB y then 1 else 0
/-- Months from 0 on. -/
def lenN (y m : Nat) : Nat := match m with | 0 => 31 | 1 => 28 + leapN y | 2 => 31 | 3 => 30 | 4 => 31 | 5 => 30 | 6 => 31 | 7 => 31 | 8 => 30 | 9 => 31 | 10 => 30 | _ => 31
def aheadN (y : Nat) : Int := 365 * ((y : Int) - 1970) + (((y : Int) - 1) / 4 - ((y : Int) - 1) / 100 + ((y : Int) - 1) / 400) - 477
def cumN (y m : Nat) : Int := match m with | 0 => 0 | m + 1 => cumN y m + lenN y m
def dayN (y m d : Nat) : Int := aheadN y + cumN y m + d - 1
structure OkD (y m d : Nat) : Prop where
  y1 : 1970 ≤ y
  y2 : y ≤ 9999
  m1 : m ≤ 11
  d1 : 1 ≤ d
  d2 : d ≤ lenN y m
theorem leap_cases (y : Nat) : (leapN y = 1 ∧ y % 4 = 0 ∧ (y % 100 ≠ 0 ∨ y % 400 = 0)) ∨ (leapN y = 0 ∧ (y % 4 ≠ 0 ∨ (y % 100 = 0 ∧ y % 400 ≠ 0))) := by
  unfold leapN leapB
  by_cases h1 : y % 4 = 0 <;> by_cases h2 : y % 100 = 0 <;> by_cases h3 : y % 400 = 0 <;> simp [h1, h2, h3]
theorem ahead_succ (y : Nat) (_h : 1 ≤ y) : aheadN (y + 1) = aheadN y + 365 + leapN y := by
  have := leap_cases y
  unfold aheadN
  omega
/-- The program's count: years from March on. -/
def civN (y m d : Int) : Int := y / 400 * 146097 + y % 400 * 365 + y % 400 / 4 - y % 400 / 100 + ((153 * m + 2) / 5 + d - 1) - 719468
def daysN (y m d : Nat) : Int := if m < 2 then civN (y - 1) (m + 10) d else civN y (m - 2) d
theorem days_eq (y m d : Nat) (_hy : 1 ≤ y) (hm : m ≤ 11) : daysN y m d = dayN y m d := by
  have := leap_cases y
  unfold daysN dayN aheadN civN
  match m, hm with
  | 0, _ => simp only [cumN]; simp; omega
  | 1, _ => simp only [cumN, lenN]; simp; omega
  | 2, _ => simp only [cumN, lenN]; simp; omega
  | 3, _ => simp only [cumN, lenN]; simp; omega
  | 4, _ => simp only [cumN, lenN]; simp; omega
  | 5, _ => simp only [cumN, lenN]; simp; omega
  | 6, _ => simp only [cumN, lenN]; simp; omega
  | 7, _ => simp only [cumN, lenN]; simp; omega
  | 8, _ => simp only [cumN, lenN]; simp; omega
  | 9, _ => simp only [cumN, lenN]; simp; omega
  | 10, _ => simp only [cumN, lenN]; simp; omega
  | 11, _ => simp only [cumN, lenN]; simp; omega
/-- Year of 400, by the day of 400 years. -/
def yoeN (n : Nat) : Nat := (n - n / 1460 + n / 36524 - n / 146096) / 365
theorem yoe_form (c q r : Nat) (hc : c ≤ 3) (hq : q ≤ 24) (hr : r ≤ 1460) (hn : 1461 * q + r ≤ 36523) : yoeN (36524 * c + 1461 * q + r) = 100 * c + 4 * q + (r - r / 1460) / 365 := by
  have e3 : (36524 * c + 1461 * q + r) / 146096 = 0 := by omega
  have e2 : (36524 * c + 1461 * q + r) / 36524 = c := by omega
  unfold yoeN
  rw [e3, e2]
  by_cases h : 24 * c + q + r < 1460
  · have e1 : (36524 * c + 1461 * q + r) / 1460 = 25 * c + q := by omega
    rw [e1]
    omega
  · have e1 : (36524 * c + 1461 * q + r) / 1460 = 25 * c + q + 1 := by omega
    have e4 : (r - r / 1460) / 365 = 3 := by
      by_cases r = 1460
      · omega
      · have : r / 1460 = 0 := by omega
        omega
    rw [e1, e4]
    have : 36524 * c + 1461 * q + r - (25 * c + q + 1) + c - 0 = 36500 * c + 1460 * q + (r - 1) := by omega
    rw [this]
    have : (r - 1) / 365 = 3 := by omega
    omega
theorem yoe_ok (n : Nat) (h : n ≤ 146096) : yoeN n ≤ 399 ∧ 365 * yoeN n + yoeN n / 4 - yoeN n / 100 ≤ n ∧ n < 365 * yoeN n + yoeN n / 4 - yoeN n / 100 + 365 + leapN (yoeN n + 1) := by
  by_cases hl : n = 146096
  · subst hl; decide
  · obtain ⟨c, q, r, rfl, hc, hq, hr, hn⟩ : ∃ c q r, n = 36524 * c + 1461 * q + r ∧ c ≤ 3 ∧ q ≤ 24 ∧ r ≤ 1460 ∧ 1461 * q + r ≤ 36523 :=
      ⟨n / 36524, n % 36524 / 1461, n % 36524 % 1461, by omega, by omega, by omega, by omega, by omega⟩
    have f := yoe_form c q r hc hq hr hn
    obtain ⟨k, hk, hk3, h1, h2⟩ : ∃ k, (r - r / 1460) / 365 = k ∧ k ≤ 3 ∧ 365 * k ≤ r ∧ (r < 365 * k + 365 ∨ (k = 3 ∧ r = 1460)) := by
      refine ⟨_, rfl, ?_⟩
      by_cases e : r = 1460
      · subst e; omega
      · have : r / 1460 = 0 := by omega
        rw [this]
        omega
    rw [hk] at f
    have hlp := leap_cases (yoeN (36524 * c + 1461 * q + r) + 1)
    rw [f] at hlp ⊢
    have a1 : (100 * c + 4 * q + k) / 4 = 25 * c + q := by omega
    have a2 : (100 * c + 4 * q + k) / 100 = c := by omega
    rw [a1, a2]
    refine ⟨by omega, by omega, ?_⟩
    rcases h2 with h2 | ⟨rfl, rfl⟩
    · omega
    · rcases hlp with ⟨hlp, _⟩ | ⟨_, hlp⟩
      · omega
      · exfalso
        have : (100 * c + 4 * q + 3 + 1) % 4 = 0 := by omega
        have b : (100 * c + 4 * q + 3 + 1) % 100 = 0 ∧ (100 * c + 4 * q + 3 + 1) % 400 ≠ 0 := by omega
        have : q = 24 := by omega
        omega
def n400 (n : Nat) : Nat := (n + 719468) % 146097
def doyN (n : Nat) : Nat := n400 n - (365 * yoeN (n400 n) + yoeN (n400 n) / 4 - yoeN (n400 n) / 100)
def mthN (n : Nat) : Nat := (5 * doyN n + 2) / 153
def dayOf (n : Nat) : Nat := doyN n - (153 * mthN n + 2) / 5 + 1
def yearM (n : Nat) : Nat := (n + 719468) / 146097 * 400 + yoeN (n400 n)
def monOf (n : Nat) : Nat := if mthN n + 2 > 11 then mthN n + 2 - 12 else mthN n + 2
def yearOf (n : Nat) : Nat := if mthN n + 2 > 11 then yearM n + 1 else yearM n
theorem doy_bound (n : Nat) : doyN n ≤ 365 ∧ mthN n ≤ 11 ∧ (153 * mthN n + 2) / 5 ≤ doyN n := by
  have hb := yoe_ok (n400 n) (by unfold n400; omega)
  have hlp := leap_cases (yoeN (n400 n) + 1)
  have h1 : doyN n ≤ 365 := by unfold doyN; omega
  refine ⟨h1, ?_, ?_⟩ <;> unfold mthN <;> omega
theorem civ_ok (n : Nat) (h : n ≤ 2932896) : OkD (yearOf n) (monOf n) (dayOf n) ∧ daysN (yearOf n) (monOf n) (dayOf n) = n := by
  have hb := yoe_ok (n400 n) (by unfold n400; omega)
  have hd := doy_bound n
  have e1 : doyN n = n400 n - (365 * yoeN (n400 n) + yoeN (n400 n) / 4 - yoeN (n400 n) / 100) := rfl
  have e2 : n400 n = (n + 719468) % 146097 := rfl
  have e3 : mthN n = (5 * doyN n + 2) / 153 := rfl
  have e4 : yearM n = (n + 719468) / 146097 * 400 + yoeN (n400 n) := rfl
  have e5 : dayOf n = doyN n - (153 * mthN n + 2) / 5 + 1 := rfl
  have hlp := leap_cases (yoeN (n400 n) + 1)
  have hlq := leap_cases (yearM n + 1)
  have hls : leapN (yearM n + 1) = leapN (yoeN (n400 n) + 1) := by omega
  unfold yearOf monOf
  generalize n400 n = a at *
  generalize yoeN a = y at *
  generalize doyN n = o at *
  generalize mthN n = m at *
  generalize yearM n = Y at *
  generalize dayOf n = d at *
  have q1 : Y % 400 = y := by omega
  have q2 : Y / 400 = (n + 719468) / 146097 := by omega
  by_cases hm : m + 2 > 11
  · rw [if_pos hm, if_pos hm]
    refine ⟨⟨?_, ?_, by omega, by omega, ?_⟩, ?_⟩
    · omega
    · omega
    · rcases (by omega : m = 10 ∨ m = 11) with rfl | rfl
      · show d ≤ 31; omega
      · show d ≤ 28 + leapN (Y + 1); omega
    · unfold daysN civN
      rw [if_pos (by omega)]
      have t1 : ((Y + 1 : Nat) : Int) - 1 = (Y : Int) := by omega
      have t2 : ((m + 2 - 12 : Nat) : Int) + 10 = (m : Int) := by omega
      have t3 : (153 * (m : Int) + 2) / 5 = (((153 * m + 2) / 5 : Nat) : Int) := by omega
      have t4 : (Y : Int) % 400 / 100 = ((y / 100 : Nat) : Int) := by omega
      have t5 : (Y : Int) % 400 / 4 = ((y / 4 : Nat) : Int) := by omega
      have t6 : (Y : Int) % 400 = (y : Int) := by omega
      have t7 : (Y : Int) / 400 = (((n + 719468) / 146097 : Nat) : Int) := by omega
      rw [t1, t2, t3, t4, t5, t6, t7]
      clear t1 t2 t3 t4 t5 t6 t7 hlq hlp hls q1 q2 e3
      omega
  · rw [if_neg hm, if_neg hm]
    refine ⟨⟨?_, ?_, by omega, by omega, ?_⟩, ?_⟩
    · omega
    · omega
    · rcases (by omega : m = 0 ∨ m = 1 ∨ m = 2 ∨ m = 3 ∨ m = 4 ∨ m = 5 ∨ m = 6 ∨ m = 7 ∨ m = 8 ∨ m = 9) with rfl | rfl | rfl | rfl | rfl | rfl | rfl | rfl | rfl | rfl
      · show d ≤ 31; omega
      · show d ≤ 30; omega
      · show d ≤ 31; omega
      · show d ≤ 30; omega
      · show d ≤ 31; omega
      · show d ≤ 31; omega
      · show d ≤ 30; omega
      · show d ≤ 31; omega
      · show d ≤ 30; omega
      · show d ≤ 31; omega
    · unfold daysN civN
      rw [if_neg (by omega)]
      have t2 : ((m + 2 : Nat) : Int) - 2 = (m : Int) := by omega
      have t3 : (153 * (m : Int) + 2) / 5 = (((153 * m + 2) / 5 : Nat) : Int) := by omega
      have t4 : (Y : Int) % 400 / 100 = ((y / 100 : Nat) : Int) := by omega
      have t5 : (Y : Int) % 400 / 4 = ((y / 4 : Nat) : Int) := by omega
      have t6 : (Y : Int) % 400 = (y : Int) := by omega
      have t7 : (Y : Int) / 400 = (((n + 719468) / 146097 : Nat) : Int) := by omega
      rw [t2, t3, t4, t5, t6, t7]
      clear t2 t3 t4 t5 t6 t7 hlq hlp hls q1 q2 e3
      omega
theorem cum_year (y : Nat) : cumN y 12 = 365 + leapN y := by simp only [cumN, lenN]; omega
theorem cum_mono (y : Nat) : ∀ (k m : Nat), cumN y m ≤ cumN y (m + k)
  | 0, m => Int.le_refl _
  | k + 1, m => by have := cum_mono y k m; show _ ≤ cumN y (m + k) + lenN y (m + k); omega
theorem ahead_mono (y : Nat) (h : 1 ≤ y) : ∀ k : Nat, aheadN y + 365 * k ≤ aheadN (y + k)
  | 0 => by simp
  | k + 1 => by have := ahead_mono y h k; have := ahead_succ (y + k) (by omega); rw [← Nat.add_assoc]; omega
theorem day_in {y m d : Nat} (h : OkD y m d) : aheadN y ≤ dayN y m d ∧ dayN y m d < aheadN (y + 1) := by
  have h1 := ahead_succ y (by have := h.y1; omega)
  have h2 := cum_year y
  have h3 := cum_mono y m 0
  have h4 := cum_mono y (11 - m) (m + 1)
  have e : m + 1 + (11 - m) = 12 := by have := h.m1; omega
  have e2 : cumN y (m + 1) = cumN y m + lenN y m := rfl
  have e3 : cumN y 0 = 0 := rfl
  rw [e] at h4
  rw [Nat.zero_add] at h3
  have := h.d1
  have := h.d2
  unfold dayN
  omega
/-- A day has one date. -/
theorem day_one {y m d y' m' d' : Nat} (h : OkD y m d) (h' : OkD y' m' d') (e : dayN y m d = dayN y' m' d') : y = y' ∧ m = m' ∧ d = d' := by
  have a := day_in h
  have b := day_in h'
  have hy : y = y' := by
    rcases Nat.lt_trichotomy y y' with q | q | q
    · have := ahead_mono (y + 1) (by omega) (y' - (y + 1))
      rw [show y + 1 + (y' - (y + 1)) = y' by omega] at this
      omega
    · exact q
    · have := ahead_mono (y' + 1) (by omega) (y - (y' + 1))
      rw [show y' + 1 + (y - (y' + 1)) = y by omega] at this
      omega
  subst hy
  have p1 := h.d1; have p2 := h.d2; have p3 := h'.d1; have p4 := h'.d2
  unfold dayN at e
  have hm : m = m' := by
    rcases Nat.lt_trichotomy m m' with q | q | q
    · have := cum_mono y (m' - (m + 1)) (m + 1)
      rw [show m + 1 + (m' - (m + 1)) = m' by omega] at this
      have e2 : cumN y (m + 1) = cumN y m + lenN y m := rfl
      omega
    · exact q
    · have := cum_mono y (m - (m' + 1)) (m' + 1)
      rw [show m' + 1 + (m - (m' + 1)) = m by omega] at this
      have e2 : cumN y (m' + 1) = cumN y m' + lenN y m' := rfl
      omega
  subst hm
  exact ⟨rfl, rfl, by omega⟩
abbrev Bs := List UInt8
def dayL : List Bs := [[83, 117, 110, 100, 97, 121], [77, 111, 110, 100, 97, 121], [84, 117, 101, 115, 100, 97, 121], [87, 101, 100, 110, 101, 115, 100, 97, 121], [84, 104, 117, 114, 115, 100, 97, 121], [70, 114, 105, 100, 97, 121], [83, 97, 116, 117, 114, 100, 97, 121]]
def monL : List Bs := [[74, 97, 110], [70, 101, 98], [77, 97, 114], [65, 112, 114], [77, 97, 121], [74, 117, 110], [74, 117, 108], [65, 117, 103], [83, 101, 112], [79, 99, 116], [78, 111, 118], [68, 101, 99]]
def dig (n : Nat) : UInt8 := UInt8.ofNat (48 + n)
def two2 (n : Nat) : Bs := [dig (n / 10 % 10), dig (n % 10)]
def sp2 (n : Nat) : Bs := if n < 10 then [32, dig n] else two2 n
/-- A time by the calendar. -/
structure Mom where
  (year mon day hour min sec wd : Nat)
structure OkM (m : Mom) : Prop where
  date : OkD m.year m.mon m.day
  hour : m.hour ≤ 23
  min : m.min ≤ 59
  sec : m.sec ≤ 59
  wd : m.wd ≤ 6
def momOf (t : Nat) : Mom := ⟨yearOf (t / 86400), monOf (t / 86400), dayOf (t / 86400), t % 86400 / 3600, t % 86400 / 60 % 60, t % 86400 % 60, (t / 86400 + 4) % 7⟩
def secsM (m : Mom) : Int := daysN m.year m.mon m.day * 86400 + m.hour * 3600 + m.min * 60 + m.sec
def maxT : Nat := 253402300799
theorem mom_ok (t : Nat) (h : t ≤ maxT) : OkM (momOf t) := by
  unfold maxT at h
  exact ⟨(civ_ok (t / 86400) (by omega)).1, by simp only [momOf]; omega, by simp only [momOf]; omega, by simp only [momOf]; omega, by simp only [momOf]; omega⟩
theorem mom_secs (t : Nat) (h : t ≤ maxT) : secsM (momOf t) = t := by
  unfold maxT at h
  have := (civ_ok (t / 86400) (by omega)).2
  simp only [secsM, momOf]
  rw [this]
  omega
def day3 (m : Mom) : Bs := (dayL.getD m.wd []).take 3
def dayT (m : Mom) : Bs := dayL.getD m.wd []
def monT (m : Mom) : Bs := monL.getD m.mon []
def clockT (m : Mom) : Bs := two2 m.hour ++ 58 :: (two2 m.min ++ 58 :: two2 m.sec)
def plainT (m : Mom) : Bs := day3 m ++ 44 :: 32 :: (two2 m.day ++ 32 :: (monT m ++ 32 :: (two2 (m.year / 100) ++ (two2 m.year ++ 32 :: (clockT m ++ [32, 71, 77, 84])))))
def longT (m : Mom) : Bs := dayT m ++ 44 :: 32 :: (two2 m.day ++ 45 :: (monT m ++ 45 :: (two2 m.year ++ 32 :: (clockT m ++ [32, 71, 77, 84]))))
def oldT (m : Mom) : Bs := day3 m ++ 32 :: (monT m ++ 32 :: (sp2 m.day ++ 32 :: (clockT m ++ 32 :: (two2 (m.year / 100) ++ two2 m.year))))
theorem dig_nat (n : Nat) (h : n ≤ 9) : (dig n).toNat = 48 + n := by
  unfold dig
  rw [UInt8.toNat_ofNat']
  omega
theorem dig_inj {a b : Nat} (ha : a ≤ 9) (hb : b ≤ 9) (h : dig a = dig b) : a = b := by
  have := dig_nat a ha
  have := dig_nat b hb
  rw [h] at *
  omega
theorem two2_inj {a b : Nat} (ha : a ≤ 99) (hb : b ≤ 99) (h : two2 a = two2 b) : a = b := by
  unfold two2 at h
  injection h with h1 h2
  injection h2 with h2
  have := dig_inj (by omega) (by omega) h1
  have := dig_inj (by omega) (by omega) h2
  omega
theorem two2_mod (a : Nat) : two2 a = two2 (a % 100) := by
  unfold two2
  have e1 : a / 10 % 10 = a % 100 / 10 % 10 := by omega
  have e2 : a % 10 = a % 100 % 10 := by omega
  rw [e1, e2]
theorem day_three (m : Mom) (h : m.wd ≤ 6) : ∃ a b c, day3 m = [a, b, c] ∧ (m.wd, a, b, c) ∈ [((0 : Nat), (83 : UInt8), (117 : UInt8), (110 : UInt8)), (1, 77, 111, 110), (2, 84, 117, 101), (3, 87, 101, 100), (4, 84, 104, 117), (5, 70, 114, 105), (6, 83, 97, 116)] := by
  obtain ⟨y, mo, d, hh, mi, s, w⟩ := m
  simp only at h
  rcases (by omega : w = 0 ∨ w = 1 ∨ w = 2 ∨ w = 3 ∨ w = 4 ∨ w = 5 ∨ w = 6) with rfl | rfl | rfl | rfl | rfl | rfl | rfl <;> exact ⟨_, _, _, rfl, by simp⟩
theorem mon_three (m : Mom) (h : m.mon ≤ 11) : ∃ a b c, monT m = [a, b, c] ∧ (m.mon, a, b, c) ∈ [((0 : Nat), (74 : UInt8), (97 : UInt8), (110 : UInt8)), (1, 70, 101, 98), (2, 77, 97, 114), (3, 65, 112, 114), (4, 77, 97, 121), (5, 74, 117, 110), (6, 74, 117, 108), (7, 65, 117, 103), (8, 83, 101, 112), (9, 79, 99, 116), (10, 78, 111, 118), (11, 68, 101, 99)] := by
  obtain ⟨y, mo, d, hh, mi, s, w⟩ := m
  simp only at h
  rcases (by omega : mo = 0 ∨ mo = 1 ∨ mo = 2 ∨ mo = 3 ∨ mo = 4 ∨ mo = 5 ∨ mo = 6 ∨ mo = 7 ∨ mo = 8 ∨ mo = 9 ∨ mo = 10 ∨ mo = 11) with rfl | rfl | rfl | rfl | rfl | rfl | rfl | rfl | rfl | rfl | rfl | rfl <;> exact ⟨_, _, _, rfl, by simp⟩
theorem mon_inj {m m' : Mom} (h : m.mon ≤ 11) (h' : m'.mon ≤ 11) (e : monT m = monT m') : m.mon = m'.mon := by
  obtain ⟨a, b, c, e1, hm⟩ := mon_three m h
  obtain ⟨a', b', c', e2, hm'⟩ := mon_three m' h'
  rw [e1, e2] at e
  injection e with ea e
  injection e with eb e
  injection e with ec e
  subst ea eb ec
  generalize m.mon = x at *
  generalize m'.mon = y at *
  simp only [List.mem_cons, List.not_mem_nil, or_false, Prod.mk.injEq] at hm hm'
  rcases hm with ⟨rfl, rfl, rfl, rfl⟩ | ⟨rfl, rfl, rfl, rfl⟩ | ⟨rfl, rfl, rfl, rfl⟩ | ⟨rfl, rfl, rfl, rfl⟩ | ⟨rfl, rfl, rfl, rfl⟩ | ⟨rfl, rfl, rfl, rfl⟩ | ⟨rfl, rfl, rfl, rfl⟩ | ⟨rfl, rfl, rfl, rfl⟩ | ⟨rfl, rfl, rfl, rfl⟩ | ⟨rfl, rfl, rfl, rfl⟩ | ⟨rfl, rfl, rfl, rfl⟩ | ⟨rfl, rfl, rfl, rfl⟩ <;> (simp at hm'; exact hm'.symm)
theorem day_inj {m m' : Mom} (h : m.wd ≤ 6) (h' : m'.wd ≤ 6) (e : day3 m = day3 m') : m.wd = m'.wd := by
  obtain ⟨a, b, c, e1, hm⟩ := day_three m h
  obtain ⟨a', b', c', e2, hm'⟩ := day_three m' h'
  rw [e1, e2] at e
  injection e with ea e
  injection e with eb e
  injection e with ec e
  subst ea eb ec
  generalize m.wd = x at *
  generalize m'.wd = y at *
  simp only [List.mem_cons, List.not_mem_nil, or_false, Prod.mk.injEq] at hm hm'
  rcases hm with ⟨rfl, rfl, rfl, rfl⟩ | ⟨rfl, rfl, rfl, rfl⟩ | ⟨rfl, rfl, rfl, rfl⟩ | ⟨rfl, rfl, rfl, rfl⟩ | ⟨rfl, rfl, rfl, rfl⟩ | ⟨rfl, rfl, rfl, rfl⟩ | ⟨rfl, rfl, rfl, rfl⟩ <;> (simp at hm'; exact hm'.symm)
/-- The fields of a time from its pieces. -/
theorem mom_eq {m m' : Mom} (h : OkM m) (h' : OkM m') (hd : two2 m.day = two2 m'.day) (hm : monT m = monT m') (hy : m.year = m'.year) (hc : clockT m = clockT m') : secsM m = secsM m' := by
  have d1 := h.date.d2
  have d2 := h'.date.d2
  have l1 : lenN m.year m.mon ≤ 31 := by unfold lenN; split <;> first | omega | (have := leap_cases m.year; omega)
  have l2 : lenN m'.year m'.mon ≤ 31 := by unfold lenN; split <;> first | omega | (have := leap_cases m'.year; omega)
  have e1 := two2_inj (by omega) (by omega) hd
  have e2 := mon_inj h.date.m1 h'.date.m1 hm
  unfold clockT at hc
  have hc1 := List.append_inj_left hc rfl
  have hc2 := List.append_inj_right hc rfl
  injection hc2 with _ hc2
  have hc3 := List.append_inj_left hc2 rfl
  have hc4 := List.append_inj_right hc2 rfl
  injection hc4 with _ hc4
  have := h.hour; have := h.min; have := h.sec
  have := h'.hour; have := h'.min; have := h'.sec
  have e3 := two2_inj (by omega) (by omega) hc1
  have e4 := two2_inj (by omega) (by omega) hc3
  have e5 := two2_inj (by omega) (by omega) hc4
  unfold secsM
  rw [e1, e2, hy, e3, e4, e5]
theorem append3 {α : Type} {a b : List α} {x y : List α} (hl : a.length = b.length) (h : a ++ x = b ++ y) : a = b ∧ x = y := ⟨List.append_inj_left h hl, List.append_inj_right h hl⟩
theorem day3_len (m : Mom) (h : m.wd ≤ 6) : (day3 m).length = 3 := by obtain ⟨a, b, c, e, _⟩ := day_three m h; rw [e]; rfl
theorem mon_len (m : Mom) (h : m.mon ≤ 11) : (monT m).length = 3 := by obtain ⟨a, b, c, e, _⟩ := mon_three m h; rw [e]; rfl
theorem two2_len (n : Nat) : (two2 n).length = 2 := rfl
theorem sp2_len (n : Nat) : (sp2 n).length = 2 := by unfold sp2; split <;> rfl
theorem clock_len (m : Mom) : (clockT m).length = 8 := rfl
theorem day_long (m : Mom) (h : m.wd ≤ 6) : 6 ≤ (dayT m).length ∧ (dayT m).length ≤ 9 ∧ (∀ c ∈ dayT m, c ≠ 44) ∧ day3 m = (dayT m).take 3 := by
  have key : ∀ w : Nat, w ≤ 6 → 6 ≤ (dayL.getD w []).length ∧ (dayL.getD w []).length ≤ 9 ∧ (∀ c ∈ dayL.getD w [], c ≠ 44) := by decide
  have := key m.wd h
  exact ⟨this.1, this.2.1, this.2.2, rfl⟩
theorem plain_len {m : Mom} (h : OkM m) : (plainT m).length = 29 := by
  unfold plainT
  simp [day3_len m h.wd, mon_len m h.date.m1, two2_len, clock_len]
theorem old_len {m : Mom} (h : OkM m) : (oldT m).length = 24 := by
  unfold oldT
  simp [day3_len m h.wd, mon_len m h.date.m1, two2_len, sp2_len, clock_len]
theorem long_len {m : Mom} (h : OkM m) : (longT m).length = (dayT m).length + 24 := by
  unfold longT
  simp [mon_len m h.date.m1, two2_len, clock_len]
theorem year_inj {m m' : Mom} (h : OkM m) (h' : OkM m') (e1 : two2 (m.year / 100) = two2 (m'.year / 100)) (e2 : two2 m.year = two2 m'.year) : m.year = m'.year := by
  have := h.date.y2
  have := h'.date.y2
  have a := two2_inj (by omega) (by omega) e1
  rw [two2_mod m.year, two2_mod m'.year] at e2
  have b := two2_inj (by omega) (by omega) e2
  omega
theorem sp2_inj {a b : Nat} (ha : a ≤ 99) (hb : b ≤ 99) (h : sp2 a = sp2 b) : a = b := by
  unfold sp2 at h
  split at h <;> split at h
  · injection h with _ h
    injection h with h
    exact dig_inj (by omega) (by omega) h
  · unfold two2 at h
    injection h with h1 _
    have := dig_nat (b / 10 % 10) (by omega)
    rw [← h1] at this
    have h32 : (32 : UInt8).toNat = 32 := rfl
    omega
  · unfold two2 at h
    injection h with h1 _
    have := dig_nat (a / 10 % 10) (by omega)
    rw [h1] at this
    have h32 : (32 : UInt8).toNat = 32 := rfl
    omega
  · exact two2_inj ha hb h
theorem plain_inj {m m' : Mom} (h : OkM m) (h' : OkM m') (e : plainT m = plainT m') : secsM m = secsM m' ∧ m.wd = m'.wd := by
  unfold plainT at e
  obtain ⟨e0, e⟩ := append3 (by rw [day3_len m h.wd, day3_len m' h'.wd]) e
  injection e with _ e
  injection e with _ e
  obtain ⟨e1, e⟩ := append3 (by simp only [two2_len]) e
  injection e with _ e
  obtain ⟨e2, e⟩ := append3 (by rw [mon_len m h.date.m1, mon_len m' h'.date.m1]) e
  injection e with _ e
  obtain ⟨e3, e⟩ := append3 (by simp only [two2_len]) e
  obtain ⟨e4, e⟩ := append3 (by simp only [two2_len]) e
  injection e with _ e
  obtain ⟨e5, _⟩ := append3 (by simp only [clock_len]) e
  exact ⟨mom_eq h h' e1 e2 (year_inj h h' e3 e4) e5, day_inj h.wd h'.wd e0⟩
theorem day_le {m : Mom} (h : OkM m) : m.day ≤ 31 := by
  have d1 := h.date.d2
  have l1 : lenN m.year m.mon ≤ 31 := by unfold lenN; split <;> first | omega | (have := leap_cases m.year; omega)
  omega
theorem old_inj {m m' : Mom} (h : OkM m) (h' : OkM m') (e : oldT m = oldT m') : secsM m = secsM m' ∧ m.wd = m'.wd := by
  unfold oldT at e
  obtain ⟨e0, e⟩ := append3 (by rw [day3_len m h.wd, day3_len m' h'.wd]) e
  injection e with _ e
  obtain ⟨e2, e⟩ := append3 (by rw [mon_len m h.date.m1, mon_len m' h'.date.m1]) e
  injection e with _ e
  obtain ⟨e1, e⟩ := append3 (by rw [sp2_len, sp2_len]) e
  injection e with _ e
  obtain ⟨e5, e⟩ := append3 (by simp only [clock_len]) e
  injection e with _ e
  obtain ⟨e3, e4⟩ := append3 (by simp only [two2_len]) e
  have := day_le h
  have := day_le h'
  have := sp2_inj (by omega) (by omega) e1
  exact ⟨mom_eq h h' (by rw [this]) e2 (year_inj h h' e3 e4) e5, day_inj h.wd h'.wd e0⟩
theorem long_inj {m m' : Mom} (h : OkM m) (h' : OkM m') (hy : m.year ≤ 2069) (hy' : m'.year ≤ 2069) (e : longT m = longT m') : secsM m = secsM m' ∧ m.wd = m'.wd := by
  have hl : (longT m).length = (longT m').length := by rw [e]
  rw [long_len h, long_len h'] at hl
  unfold longT at e
  obtain ⟨e0, e⟩ := append3 (by omega) e
  injection e with _ e
  injection e with _ e
  obtain ⟨e1, e⟩ := append3 (by simp only [two2_len]) e
  injection e with _ e
  obtain ⟨e2, e⟩ := append3 (by rw [mon_len m h.date.m1, mon_len m' h'.date.m1]) e
  injection e with _ e
  obtain ⟨e4, e⟩ := append3 (by simp only [two2_len]) e
  injection e with _ e
  obtain ⟨e5, _⟩ := append3 (by simp only [clock_len]) e
  have y1 := h.date.y1
  have y2 := h'.date.y1
  rw [two2_mod m.year, two2_mod m'.year] at e4
  have := two2_inj (by omega) (by omega) e4
  exact ⟨mom_eq h h' e1 e2 (by omega) e5, day_inj h.wd h'.wd (by rw [(day_long m h.wd).2.2.2, (day_long m' h'.wd).2.2.2, e0])⟩
/-- The texts of a time. -/
def TextOf (t : Nat) (l : Bs) : Prop := t ≤ maxT ∧ (l = plainT (momOf t) ∨ l = oldT (momOf t) ∨ (l = longT (momOf t) ∧ (momOf t).year ≤ 2069))
theorem text_one {t t' : Nat} {l : Bs} (h : TextOf t l) (h' : TextOf t' l) : t = t' := by
  have o := mom_ok t h.1
  have o' := mom_ok t' h'.1
  have s := mom_secs t h.1
  have s' := mom_secs t' h'.1
  have l1 := plain_len o; have l2 := plain_len o'
  have l3 := old_len o; have l4 := old_len o'
  have l5 := long_len o; have l6 := long_len o'
  have l7 := day_long _ o.wd; have l8 := day_long _ o'.wd
  have fin : secsM (momOf t) = secsM (momOf t') → t = t' := fun e => by omega
  rcases h.2 with rfl | rfl | ⟨rfl, hy⟩ <;> rcases h'.2 with e | e | ⟨e, hy'⟩
  · exact fin (plain_inj o o' e).1
  · rw [e] at l1; omega
  · rw [e] at l1; omega
  · rw [e] at l3; omega
  · exact fin (old_inj o o' e).1
  · rw [e] at l3; omega
  · rw [e] at l5; omega
  · rw [e] at l5; omega
  · exact fin (long_inj o o' hy hy' e).1
open Classical in
noncomputable def readF (l : Bs) : Int × Int := if h : ∃ t, TextOf t l then ((h.choose : Nat), 0) else (0, 80)
theorem read_yes {t : Nat} {l : Bs} (h : TextOf t l) : readF l = (((t : Nat) : Int), 0) := by
  unfold readF
  have hx : ∃ t, TextOf t l := ⟨t, h⟩
  rw [dif_pos hx, text_one hx.choose_spec h]
theorem read_no {l : Bs} (h : ∀ t, ¬ TextOf t l) : readF l = (0, 80) := by
  unfold readF
  rw [dif_neg (fun ⟨t, ht⟩ => h t ht)]
/-- A number of decimal digits. -/
def digitD (c : UInt8) : Bool := decide (48 ≤ c.toNat ∧ c.toNat ≤ 57)
def valD (l : Bs) : Nat := l.foldl (fun n c => n * 10 + (c.toNat - 48)) 0
def numF (l : Bs) (most : Nat) : Option Nat := if l.length ≠ 0 ∧ l.length ≤ most ∧ l.all digitD = true then some (valD l) else none
def sl (l : Bs) (a b : Nat) : Bs := (l.drop a).take (b - a)
theorem digitD_dig (n : Nat) (h : n ≤ 9) : digitD (dig n) = true := by unfold digitD; rw [dig_nat n h]; simp; omega
theorem num_two (n : Nat) (h : n ≤ 99) : numF (two2 n) 4 = some n := by
  unfold numF
  have e : (two2 n).all digitD = true := by
    unfold two2
    simp only [List.all_cons, List.all_nil, Bool.and_true]
    rw [digitD_dig _ (by omega), digitD_dig _ (by omega)]
    rfl
  rw [if_pos ⟨by rw [two2_len]; decide, by rw [two2_len]; decide, e⟩]
  unfold valD two2
  simp only [List.foldl]
  rw [dig_nat _ (by omega), dig_nat _ (by omega)]
  congr 1
  omega
theorem num_four (n : Nat) (h : n ≤ 9999) : numF (two2 (n / 100) ++ two2 n) 4 = some n := by
  unfold numF
  have e : (two2 (n / 100) ++ two2 n).all digitD = true := by
    unfold two2
    simp only [List.cons_append, List.nil_append, List.all_cons, List.all_nil, Bool.and_true]
    rw [digitD_dig _ (by omega), digitD_dig _ (by omega), digitD_dig _ (by omega), digitD_dig _ (by omega)]
    rfl
  rw [if_pos ⟨by simp [two2_len], by simp [two2_len], e⟩]
  unfold valD two2
  simp only [List.cons_append, List.nil_append, List.foldl]
  rw [dig_nat _ (by omega), dig_nat _ (by omega), dig_nat _ (by omega), dig_nat _ (by omega)]
  congr 1
  omega
/-- Without a space ahead. -/
def noSp (l : Bs) : Bs := if l.head? = some 32 then l.tail else l
theorem num_sp (n : Nat) (h : n ≤ 99) : numF (noSp (sp2 n)) 4 = some n := by
  unfold sp2
  split
  · have e : noSp [32, dig n] = [dig n] := rfl
    rw [e]
    unfold numF
    rw [if_pos ⟨by simp, by simp, by simp [digitD_dig n (by omega)]⟩]
    unfold valD
    simp only [List.foldl]
    rw [dig_nat _ (by omega)]
    congr 1
    omega
  · have e : noSp (two2 n) = two2 n := by
      unfold noSp two2
      rw [if_neg]
      intro h
      have h := Option.some.inj (show some (dig (n / 10 % 10)) = some 32 from h)
      have := dig_nat (n / 10 % 10) (by omega)
      rw [h] at this
      have h32 : (32 : UInt8).toNat = 32 := rfl
      omega
    rw [e]
    exact num_two n h
/-- The month of a name (the last one that is so); 0: none. -/
def monK (mo : Bs) : Nat → Nat
  | 0 => 0
  | k + 1 => if monL.getD k [] = mo then k else monK mo k
theorem monK_le (mo : Bs) : ∀ k, monK mo k ≤ k - 1
  | 0 => Nat.le_refl _
  | k + 1 => by unfold monK; split <;> (have := monK_le mo k; omega)
theorem monK_mon (m : Mom) (h : m.mon ≤ 11) : monK (monT m) 12 = m.mon := by
  have key : ∀ k : Nat, k ≤ 11 → monK (monL.getD k []) 12 = k := by decide
  exact key m.mon h
/-- What is read of a date. -/
structure Raw where
  (year mon day hour min sec : Nat)
  ok : Bool
def rawOf (d mo y c : Bs) : Raw :=
  ⟨(numF y 4).getD 0, monK mo 12, (numF d 4).getD 0, (numF (sl c 0 2) 4).getD 0, (numF (sl c 3 5) 4).getD 0, (numF (sl c 6 8) 4).getD 0,
   (c.getD 2 0 == 58 && c.getD 5 0 == 58) && (numF d 4).isSome && (numF y 4).isSome && (numF (sl c 0 2) 4).isSome && (numF (sl c 3 5) 4).isSome && (numF (sl c 6 8) 4).isSome⟩
theorem raw_text (m : Mom) (h : OkM m) (d y : Bs) (Y : Nat) (hd : numF d 4 = some m.day) (hy : numF y 4 = some Y) : rawOf d (monT m) y (clockT m) = ⟨Y, m.mon, m.day, m.hour, m.min, m.sec, true⟩ := by
  have := h.hour; have := h.min; have := h.sec
  have c1 : sl (clockT m) 0 2 = two2 m.hour := rfl
  have c2 : sl (clockT m) 3 5 = two2 m.min := rfl
  have c3 : sl (clockT m) 6 8 = two2 m.sec := rfl
  unfold rawOf
  rw [c1, c2, c3, hd, hy, num_two _ (by omega), num_two _ (by omega), num_two _ (by omega), monK_mon m h.date.m1]
  rfl
/-- The program's count, in Go's division. -/
def civT (y m d : Int) : Int := (y.tdiv 400) * 146097 + y.tmod 400 * 365 + (y.tmod 400).tdiv 4 - (y.tmod 400).tdiv 100 + ((153 * m + 2).tdiv 5 + d - 1) - 719468
def daysT (y m d : Nat) : Int := if m < 2 then civT (y - 1) (m + 10) d else civT y (m - 2) d
theorem civ_t (y m d : Int) (hy : 0 ≤ y) (hm : 0 ≤ m) : civT y m d = civN y m d := by
  unfold civT civN
  rw [Int.tdiv_eq_ediv_of_nonneg hy, Int.tmod_eq_emod_of_nonneg hy, Int.tdiv_eq_ediv_of_nonneg (by omega), Int.tdiv_eq_ediv_of_nonneg (by omega), Int.tdiv_eq_ediv_of_nonneg (by omega)]
theorem days_t (y m d : Nat) (hy : 1 ≤ y) : daysT y m d = daysN y m d := by
  unfold daysT daysN
  split
  · exact civ_t _ _ _ (by omega) (by omega)
  · exact civ_t _ _ _ (by omega) (by omega)
def secsR (r : Raw) (Y : Nat) : Int := daysT Y r.mon r.day * 86400 + r.hour * 3600 + r.min * 60 + r.sec
open Classical in
noncomputable def checkF (r : Raw) (Y : Nat) (f : Mom → Bs) (l : Bs) : Int × Int := if r.ok = true ∧ 1970 ≤ Y ∧ 0 ≤ secsR r Y ∧ secsR r Y ≤ maxT ∧ f (momOf (secsR r Y).toNat) = l then (secsR r Y, 0) else (0, 80)
theorem check_of {f : Mom → Bs} {l : Bs} {r : Raw} {Y : Nat}
    (h1 : ∀ t, t ≤ maxT → 1970 ≤ Y → f (momOf t) = l → secsR r Y = t → TextOf t l)
    (h2 : ∀ t, TextOf t l → l = f (momOf t) ∧ r = ⟨r.year, (momOf t).mon, (momOf t).day, (momOf t).hour, (momOf t).min, (momOf t).sec, true⟩ ∧ Y = (momOf t).year) : checkF r Y f l = readF l := by
  unfold checkF
  split
  · rename_i h
    obtain ⟨_, hy, h3, h4, h5⟩ := h
    have := h1 (secsR r Y).toNat (by omega) hy h5 (by omega)
    rw [read_yes this]
    congr 1
    omega
  · rename_i h
    rw [read_no]
    intro t ht
    obtain ⟨e, er, ey⟩ := h2 t ht
    have o := mom_ok t ht.1
    have hs : secsR r Y = t := by
      rw [← mom_secs t ht.1]
      unfold secsR secsM
      rw [er, ey, days_t _ _ _ (by have := o.date.y1; omega)]
    have ho : r.ok = true := by rw [er]
    refine h ⟨ho, by have := o.date.y1; omega, by omega, by have := ht.1; omega, ?_⟩
    rw [hs, e]
    rfl
theorem plain_form {m : Mom} (h : OkM m) : sl (plainT m) 5 7 = two2 m.day ∧ sl (plainT m) 8 11 = monT m ∧ sl (plainT m) 12 16 = two2 (m.year / 100) ++ two2 m.year ∧ sl (plainT m) 17 25 = clockT m := by
  obtain ⟨a, b, c, e1, _⟩ := day_three m h.wd
  obtain ⟨x, y, z, e2, _⟩ := mon_three m h.date.m1
  unfold plainT
  rw [e1, e2]
  exact ⟨rfl, rfl, rfl, rfl⟩
theorem old_form {m : Mom} (h : OkM m) : sl (oldT m) 8 10 = sp2 m.day ∧ sl (oldT m) 4 7 = monT m ∧ sl (oldT m) 20 24 = two2 (m.year / 100) ++ two2 m.year ∧ sl (oldT m) 11 19 = clockT m := by
  obtain ⟨a, b, c, e1, _⟩ := day_three m h.wd
  obtain ⟨x, y, z, e2, _⟩ := mon_three m h.date.m1
  unfold oldT
  rw [e1, e2]
  unfold sp2
  split <;> exact ⟨rfl, rfl, rfl, rfl⟩
theorem sl_app (p r : Bs) (a b : Nat) : sl (p ++ r) (p.length + a) (p.length + b) = sl r a b := by
  unfold sl
  rw [List.drop_append, List.drop_eq_nil_of_le (by omega)]
  rw [show p.length + a - p.length = a by omega, show p.length + b - (p.length + a) = b - a by omega]
  rfl
theorem long_form {m : Mom} (h : OkM m) (k : Nat) (hk : (dayT m).length = k) : sl (longT m) (k + 2) (k + 4) = two2 m.day ∧ sl (longT m) (k + 5) (k + 8) = monT m ∧ sl (longT m) (k + 9) (k + 11) = two2 m.year ∧ sl (longT m) (k + 12) (k + 20) = clockT m := by
  obtain ⟨x, y, z, e2, _⟩ := mon_three m h.date.m1
  subst hk
  unfold longT
  rw [sl_app, sl_app, sl_app, sl_app, e2]
  exact ⟨rfl, rfl, rfl, rfl⟩
theorem index_hit : ∀ (p r : Bs), (∀ c ∈ p, c ≠ 44) → Go.Lib.indexByte (p ++ 44 :: r) 44 = (p.length : Int)
  | [], r, _ => by unfold Go.Lib.indexByte; rfl
  | c :: p, r, h => by
    have ih := index_hit p r (fun c hc => h c (by simp [hc]))
    have hc := h c (by simp)
    rw [List.cons_append]
    unfold Go.Lib.indexByte
    rw [ih]
    have : (c == 44) = false := by simpa using hc
    rw [this]
    simp
theorem index_miss : ∀ (p : Bs), (∀ c ∈ p, c ≠ 44) → Go.Lib.indexByte p 44 = -1
  | [], _ => rfl
  | c :: p, h => by
    have ih := index_miss p (fun c hc => h c (by simp [hc]))
    have hc := h c (by simp)
    unfold Go.Lib.indexByte
    rw [ih]
    have : (c == 44) = false := by simpa using hc
    rw [this]
    simp
theorem dig_ne (n : Nat) : n ≤ 9 → dig n ≠ 44 := fun h e => by
  have := dig_nat n h
  rw [e] at this
  have h44 : (44 : UInt8).toNat = 44 := rfl
  omega
theorem two2_ne (n : Nat) : ∀ c ∈ two2 n, c ≠ 44 := by
  intro c hc
  unfold two2 at hc
  simp only [List.mem_cons, List.not_mem_nil, or_false] at hc
  rcases hc with rfl | rfl
  · exact dig_ne _ (by omega)
  · exact dig_ne _ (by omega)
theorem sp2_ne (n : Nat) : ∀ c ∈ sp2 n, c ≠ 44 := by
  unfold sp2
  split
  · intro c hc
    simp only [List.mem_cons, List.not_mem_nil, or_false] at hc
    rcases hc with rfl | rfl
    · decide
    · exact dig_ne _ (by omega)
  · exact two2_ne n
theorem clock_ne (m : Mom) : ∀ c ∈ clockT m, c ≠ 44 := by
  intro c hc
  unfold clockT at hc
  simp only [List.mem_append, List.mem_cons] at hc
  rcases hc with h | rfl | h | rfl | h
  · exact two2_ne _ c h
  · decide
  · exact two2_ne _ c h
  · decide
  · exact two2_ne _ c h
theorem day3_ne {m : Mom} (h : m.wd ≤ 6) : ∀ c ∈ day3 m, c ≠ 44 := fun c hc => (day_long m h).2.2.1 c (List.mem_of_mem_take ((day_long m h).2.2.2 ▸ hc))
theorem mon_ne {m : Mom} (h : m.mon ≤ 11) : ∀ c ∈ monT m, c ≠ 44 := by
  have key : ∀ k : Nat, k ≤ 11 → ∀ c ∈ monL.getD k [], c ≠ 44 := by decide
  exact key m.mon h
theorem plain_comma {m : Mom} (h : OkM m) : Go.Lib.indexByte (plainT m) 44 = 3 := by
  unfold plainT
  rw [index_hit _ _ (day3_ne h.wd), day3_len m h.wd]
  rfl
theorem long_comma {m : Mom} (h : OkM m) : Go.Lib.indexByte (longT m) 44 = ((dayT m).length : Int) := by
  unfold longT
  exact index_hit _ _ (day_long m h.wd).2.2.1
theorem old_comma {m : Mom} (h : OkM m) : Go.Lib.indexByte (oldT m) 44 = -1 := by
  apply index_miss
  intro c hc
  unfold oldT at hc
  simp only [List.mem_append, List.mem_cons] at hc
  rcases hc with h1 | rfl | h1 | rfl | h1 | rfl | h1 | rfl | h1 | h1
  · exact day3_ne h.wd c h1
  · decide
  · exact mon_ne h.date.m1 c h1
  · decide
  · exact sp2_ne _ c h1
  · decide
  · exact clock_ne m c h1
  · decide
  · exact two2_ne _ c h1
  · exact two2_ne _ c h1
/-- Text of the first form. -/
theorem check_plain (l : Bs) (h : l.length = 29) (Y : Nat) (hY : Y = (rawOf (sl l 5 7) (sl l 8 11) (sl l 12 16) (sl l 17 25)).year) :
    checkF (rawOf (sl l 5 7) (sl l 8 11) (sl l 12 16) (sl l 17 25)) Y plainT l = readF l := by
  apply check_of
  · intro t ht _ e _
    exact ⟨ht, .inl e.symm⟩
  · intro t ht
    have o := mom_ok t ht.1
    have l3 := old_len o
    have l5 := long_len o
    have l7 := day_long _ o.wd
    rcases ht.2 with e | e | ⟨e, _⟩
    · obtain ⟨p1, p2, p3, p4⟩ := plain_form o
      have hr : rawOf (sl l 5 7) (sl l 8 11) (sl l 12 16) (sl l 17 25) = ⟨(momOf t).year, (momOf t).mon, (momOf t).day, (momOf t).hour, (momOf t).min, (momOf t).sec, true⟩ := by
        rw [e, p1, p2, p3, p4]
        exact raw_text _ o _ _ _ (num_two _ (by have := day_le o; omega)) (num_four _ o.date.y2)
      exact ⟨e, by rw [hr], by rw [hY, hr]⟩
    · rw [e] at h; omega
    · rw [e] at h; omega
theorem check_old (l : Bs) (h : l.length = 24) (Y : Nat) (hY : Y = (rawOf (noSp (sl l 8 10)) (sl l 4 7) (sl l 20 24) (sl l 11 19)).year) :
    checkF (rawOf (noSp (sl l 8 10)) (sl l 4 7) (sl l 20 24) (sl l 11 19)) Y oldT l = readF l := by
  apply check_of
  · intro t ht _ e _
    exact ⟨ht, .inr (.inl e.symm)⟩
  · intro t ht
    have o := mom_ok t ht.1
    have l3 := plain_len o
    have l5 := long_len o
    have l7 := day_long _ o.wd
    rcases ht.2 with e | e | ⟨e, _⟩
    · rw [e] at h; omega
    · obtain ⟨p1, p2, p3, p4⟩ := old_form o
      have hr : rawOf (noSp (sl l 8 10)) (sl l 4 7) (sl l 20 24) (sl l 11 19) = ⟨(momOf t).year, (momOf t).mon, (momOf t).day, (momOf t).hour, (momOf t).min, (momOf t).sec, true⟩ := by
        rw [e, p1, p2, p3, p4]
        exact raw_text _ o _ _ _ (num_sp _ (by have := day_le o; omega)) (num_four _ o.date.y2)
      exact ⟨e, by rw [hr], by rw [hY, hr]⟩
    · rw [e] at h; omega
/-- The year of two digits. -/
def yearL (y : Nat) : Nat := if y + 1900 < 1970 then y + 1900 + 100 else y + 1900
theorem civ_year (y m d : Int) : civN y m d < civN (y + 1) m d := by unfold civN; omega
theorem daysN_year (y m d : Nat) : ∀ k, daysN y m d + k ≤ daysN (y + k) m d
  | 0 => by simp
  | k + 1 => by
    have ih := daysN_year y m d k
    have : daysN (y + k) m d < daysN (y + k + 1) m d := by
      unfold daysN
      split
      · have := civ_year (((y + k : Nat) : Int) - 1) (m + 10) d
        have e : ((y + k + 1 : Nat) : Int) - 1 = ((y + k : Nat) : Int) - 1 + 1 := by omega
        rw [e]; exact this
      · have := civ_year ((y + k : Nat) : Int) (m - 2) d
        have e : ((y + k + 1 : Nat) : Int) = ((y + k : Nat) : Int) + 1 := by omega
        rw [e]; exact this
    have e : y + (k + 1) = y + k + 1 := rfl
    rw [e]
    omega
theorem daysN_inj {y y' m d : Nat} (h : daysN y m d = daysN y' m d) : y = y' := by
  rcases Nat.lt_trichotomy y y' with q | q | q
  · have := daysN_year y m d (y' - y)
    rw [show y + (y' - y) = y' by omega] at this
    omega
  · exact q
  · have := daysN_year y' m d (y - y')
    rw [show y' + (y - y') = y by omega] at this
    omega
theorem val_two {y : Bs} (h : y.length = 2) : (numF y 4).getD 0 ≤ 99 := by
  match y, h with
  | [a, b], _ =>
    unfold numF
    split
    · rename_i h
      have ha : digitD a = true := by have := h.2.2; simp at this; exact this.1
      have hb : digitD b = true := by have := h.2.2; simp at this; exact this.2
      unfold digitD at ha hb
      rw [decide_eq_true_iff] at ha hb
      unfold valD
      simp only [List.foldl, Option.getD_some]
      omega
    · exact Nat.zero_le _
theorem same_days {A B t h m s : Int} (h1 : A * 86400 + h * 3600 + m * 60 + s = t) (h2 : B * 86400 + h * 3600 + m * 60 + s = t) : A = B := by omega
theorem check_long (l : Bs) (k : Nat) (hk : 6 ≤ k) (hc : Go.Lib.indexByte l 44 = (k : Int)) (h : l.length = k + 24) (Y : Nat) (hY : Y = yearL (rawOf (sl l (k + 2) (k + 4)) (sl l (k + 5) (k + 8)) (sl l (k + 9) (k + 11)) (sl l (k + 12) (k + 20))).year) :
    checkF (rawOf (sl l (k + 2) (k + 4)) (sl l (k + 5) (k + 8)) (sl l (k + 9) (k + 11)) (sl l (k + 12) (k + 20))) Y longT l = readF l := by
  have hy2 : (rawOf (sl l (k + 2) (k + 4)) (sl l (k + 5) (k + 8)) (sl l (k + 9) (k + 11)) (sl l (k + 12) (k + 20))).year ≤ 99 := by
    show (numF (sl l (k + 9) (k + 11)) 4).getD 0 ≤ 99
    apply val_two
    unfold sl
    rw [List.length_take, List.length_drop]
    omega
  apply check_of
  · intro t ht hY1 e hs
    have o := mom_ok t ht
    refine ⟨ht, .inr (.inr ⟨e.symm, ?_⟩)⟩
    have hkl : (dayT (momOf t)).length = k := by
      have := long_comma o
      rw [e] at this
      omega
    obtain ⟨p1, p2, p3, p4⟩ := long_form o k hkl
    have hr : rawOf (sl l (k + 2) (k + 4)) (sl l (k + 5) (k + 8)) (sl l (k + 9) (k + 11)) (sl l (k + 12) (k + 20)) = ⟨(momOf t).year % 100, (momOf t).mon, (momOf t).day, (momOf t).hour, (momOf t).min, (momOf t).sec, true⟩ := by
      rw [← e, p1, p2, p3, p4]
      exact raw_text _ o _ _ _ (num_two _ (by have := day_le o; omega)) (by rw [two2_mod]; exact num_two _ (by omega))
    rw [hr] at hs hY
    have hm := mom_secs t ht
    unfold secsR at hs
    unfold secsM at hm
    rw [days_t _ _ _ (by omega)] at hs
    have : daysN Y (momOf t).mon (momOf t).day = daysN (momOf t).year (momOf t).mon (momOf t).day := by
      exact same_days hs hm
    have := daysN_inj this
    unfold yearL at hY
    simp only at hY
    split at hY <;> omega
  · intro t ht
    have o := mom_ok t ht.1
    have l3 := plain_len o
    have l5 := old_len o
    have l7 := day_long _ o.wd
    rcases ht.2 with e | e | ⟨e, hy⟩
    · rw [e] at h; omega
    · rw [e] at h; omega
    · have hkl : (dayT (momOf t)).length = k := by
        have := long_comma o
        rw [← e] at this
        omega
      obtain ⟨p1, p2, p3, p4⟩ := long_form o k hkl
      have hr : rawOf (sl l (k + 2) (k + 4)) (sl l (k + 5) (k + 8)) (sl l (k + 9) (k + 11)) (sl l (k + 12) (k + 20)) = ⟨(momOf t).year % 100, (momOf t).mon, (momOf t).day, (momOf t).hour, (momOf t).min, (momOf t).sec, true⟩ := by
        rw [e, p1, p2, p3, p4]
        exact raw_text _ o _ _ _ (num_two _ (by have := day_le o; omega)) (by rw [two2_mod]; exact num_two _ (by omega))
      refine ⟨e, by rw [hr], ?_⟩
      rw [hY, hr]
      have := o.date.y1
      unfold yearL
      simp only
      split <;> omega
theorem read_other (l : Bs) (h1 : ¬ (l.length = 29 ∧ Go.Lib.indexByte l 44 = 3)) (h2 : ¬ (6 ≤ Go.Lib.indexByte l 44 ∧ (l.length : Int) = Go.Lib.indexByte l 44 + 24)) (h3 : ¬ (l.length = 24 ∧ Go.Lib.indexByte l 44 < 0)) : readF l = (0, 80) := by
  apply read_no
  intro t ht
  have o := mom_ok t ht.1
  rcases ht.2 with rfl | rfl | ⟨rfl, hy⟩
  · exact h1 ⟨plain_len o, plain_comma o⟩
  · exact h3 ⟨old_len o, by rw [old_comma o]; decide⟩
  · refine h2 ⟨?_, ?_⟩
    · rw [long_comma o]; have := (day_long _ o.wd).1; omega
    · rw [long_comma o, long_len o]; omega
end Go.Proofs.YtkbcklaloblmeaaGreatDoor.DateMath
namespace Go.Proofs.YtkbcklaloblmeaaGreatDoor.DateMath

/-- The reference's clock. -/
def clockR (c : Bs) : Option (Nat × Nat × Nat) :=
  if c.length = 8 ∧ c.getD 2 0 = 58 ∧ c.getD 5 0 = 58 then
    (match numF (sl c 0 2) 4, numF (sl c 3 5) 4, numF (sl c 6 8) 4 with
    | some h, some m, some s => if h ≤ 23 ∧ m ≤ 59 ∧ s ≤ 59 then some (h, m, s) else none
    | _, _, _ => none)
  else none
def idxF : List Bs → Bs → Int
  | [], _ => -1
  | a :: l, s => if a = s then 0 else if idxF l s = -1 then -1 else idxF l s + 1
def day3L : List Bs := dayL.map (·.take 3)
/-- What the reference makes of the parts. -/
def madeF (w : Int) (y : Nat) (m : Int) (d : Nat) (c : Bs) : Int × Int :=
  match clockR c with
  | none => (0, 80)
  | some (h, mi, s) => if 0 ≤ w ∧ 0 ≤ m ∧ 1970 ≤ y ∧ y ≤ 9999 ∧ 1 ≤ d ∧ d ≤ lenN y m.toNat ∧ (dayN y m.toNat d + 4) % 7 = w then (dayN y m.toNat d * 86400 + ((h * 3600 + mi * 60 + s : Nat) : Int), 0) else (0, 80)
theorem idx_ge (l : List Bs) (s : Bs) : -1 ≤ idxF l s := by
  induction l with
  | nil => exact Int.le_refl _
  | cons a l ih =>
    unfold idxF
    split
    · omega
    · split <;> omega
theorem idx_at : ∀ (l : List Bs) (s : Bs), 0 ≤ idxF l s → (idxF l s).toNat < l.length ∧ l.getD (idxF l s).toNat [] = s
  | [], s, h => by unfold idxF at h; omega
  | a :: l, s, h => by
    unfold idxF at h ⊢
    by_cases e : a = s
    · rw [if_pos e]; exact ⟨by simp, by simpa using e⟩
    · rw [if_neg e] at h ⊢
      by_cases e2 : idxF l s = -1
      · rw [if_pos e2] at h; omega
      · rw [if_neg e2] at h ⊢
        have := idx_ge l s
        have ih := idx_at l s (by omega)
        have e3 : (idxF l s + 1).toNat = (idxF l s).toNat + 1 := by omega
        rw [e3]
        exact ⟨by simp only [List.length_cons]; omega, by simpa using ih.2⟩
theorem idx_mon (m : Mom) (h : m.mon ≤ 11) : idxF monL (monT m) = m.mon := by
  have key : ∀ k : Nat, k ≤ 11 → idxF monL (monL.getD k []) = (k : Int) := by decide
  exact key m.mon h
theorem idx_day (m : Mom) (h : m.wd ≤ 6) : idxF day3L (day3 m) = m.wd := by
  have key : ∀ k : Nat, k ≤ 6 → idxF day3L ((dayL.getD k []).take 3) = (k : Int) := by decide
  exact key m.wd h
theorem clock_two {a b : UInt8} {n : Nat} (h : numF [a, b] 4 = some n) : [a, b] = two2 n ∧ n ≤ 99 := by
  unfold numF at h
  split at h
  · rename_i hc
    have ha : digitD a = true := by have := hc.2.2; simp at this; exact this.1
    have hb : digitD b = true := by have := hc.2.2; simp at this; exact this.2
    unfold digitD at ha hb
    rw [decide_eq_true_iff] at ha hb
    have e := Option.some.inj h
    unfold valD at e
    simp only [List.foldl] at e
    refine ⟨?_, by omega⟩
    unfold two2
    have e1 : a = dig (n / 10 % 10) := UInt8.toNat_inj.1 (by rw [dig_nat _ (by omega)]; omega)
    have e2 : b = dig (n % 10) := UInt8.toNat_inj.1 (by rw [dig_nat _ (by omega)]; omega)
    rw [e1, e2]
  · cases h
theorem clock_four {a b c d : UInt8} {n : Nat} (h : numF [a, b, c, d] 4 = some n) : [a, b] = two2 (n / 100) ∧ [c, d] = two2 n ∧ n ≤ 9999 := by
  unfold numF at h
  split at h
  · rename_i hc
    have hh := hc.2.2
    simp only [List.all_cons, List.all_nil, Bool.and_true, Bool.and_eq_true] at hh
    obtain ⟨ha, hb, hc, hd⟩ := hh
    unfold digitD at ha hb hc hd
    rw [decide_eq_true_iff] at ha hb hc hd
    have e := Option.some.inj h
    unfold valD at e
    simp only [List.foldl] at e
    have e1 : a = dig (n / 100 / 10 % 10) := UInt8.toNat_inj.1 (by rw [dig_nat _ (by omega)]; omega)
    have e2 : b = dig (n / 100 % 10) := UInt8.toNat_inj.1 (by rw [dig_nat _ (by omega)]; omega)
    have e3 : c = dig (n / 10 % 10) := UInt8.toNat_inj.1 (by rw [dig_nat _ (by omega)]; omega)
    have e4 : d = dig (n % 10) := UInt8.toNat_inj.1 (by rw [dig_nat _ (by omega)]; omega)
    refine ⟨?_, ?_, by omega⟩
    · unfold two2; rw [← e1, ← e2]
    · unfold two2; rw [← e3, ← e4]
  · cases h
theorem clockR_text {m : Mom} (h : OkM m) : clockR (clockT m) = some (m.hour, m.min, m.sec) := by
  have := h.hour; have := h.min; have := h.sec
  have c1 : sl (clockT m) 0 2 = two2 m.hour := rfl
  have c2 : sl (clockT m) 3 5 = two2 m.min := rfl
  have c3 : sl (clockT m) 6 8 = two2 m.sec := rfl
  unfold clockR
  rw [if_pos ⟨rfl, rfl, rfl⟩, c1, c2, c3, num_two _ (by omega), num_two _ (by omega), num_two _ (by omega)]
  simp only
  rw [if_pos ⟨by omega, by omega, by omega⟩]
theorem clockR_of {c : Bs} {h m s : Nat} (e : clockR c = some (h, m, s)) : c = two2 h ++ 58 :: (two2 m ++ 58 :: two2 s) ∧ h ≤ 23 ∧ m ≤ 59 ∧ s ≤ 59 := by
  unfold clockR at e
  split at e
  · rename_i hc
    obtain ⟨hl, h2, h5⟩ := hc
    match c, hl with
    | [c0, c1, c2, c3, c4, c5, c6, c7], _ =>
      have s1 : sl [c0, c1, c2, c3, c4, c5, c6, c7] 0 2 = [c0, c1] := rfl
      have s2 : sl [c0, c1, c2, c3, c4, c5, c6, c7] 3 5 = [c3, c4] := rfl
      have s3 : sl [c0, c1, c2, c3, c4, c5, c6, c7] 6 8 = [c6, c7] := rfl
      obtain rfl : c2 = 58 := h2
      obtain rfl : c5 = 58 := h5
      rw [s1, s2, s3] at e
      cases n1 : numF [c0, c1] 4 with
      | none => rw [n1] at e; cases e
      | some x =>
        cases n2 : numF [c3, c4] 4 with
        | none => rw [n1, n2] at e; cases e
        | some y =>
          cases n3 : numF [c6, c7] 4 with
          | none => rw [n1, n2, n3] at e; cases e
          | some z =>
            rw [n1, n2, n3] at e
            simp only at e
            split at e
            · rename_i hb
              injection e with e
              injection e with e1 e
              injection e with e2 e3
              subst e1 e2 e3
              have q1 := (clock_two n1).1
              have q2 := (clock_two n2).1
              have q3 := (clock_two n3).1
              rw [← q1, ← q2, ← q3]
              exact ⟨rfl, hb⟩
            · cases e
  · cases e
theorem div_day (n h m s : Nat) (h1 : h ≤ 23) (h2 : m ≤ 59) (h3 : s ≤ 59) : (n * 86400 + h * 3600 + m * 60 + s) / 86400 = n ∧ (n * 86400 + h * 3600 + m * 60 + s) % 86400 = h * 3600 + m * 60 + s := by omega
theorem div_hour (h m s : Nat) (h2 : m ≤ 59) (h3 : s ≤ 59) : (h * 3600 + m * 60 + s) / 3600 = h ∧ (h * 3600 + m * 60 + s) / 60 % 60 = m % 60 ∧ (h * 3600 + m * 60 + s) % 60 = s := by omega
theorem max_day (n h m s : Nat) (hn : n ≤ 2932896) (h1 : h ≤ 23) (h2 : m ≤ 59) (h3 : s ≤ 59) : n * 86400 + h * 3600 + m * 60 + s ≤ maxT := by unfold maxT; omega
theorem wd_nat {n w : Nat} (h : ((n : Int) + 4) % 7 = (w : Int)) : (n + 4) % 7 = w := by omega
theorem ahead_max (y : Nat) (h : y ≤ 9999) : aheadN (y + 1) ≤ 2932897 := by unfold aheadN; omega
theorem ahead_min (y : Nat) (h : 1970 ≤ y) : 0 ≤ aheadN y := by unfold aheadN; omega
/-- A time of right parts is the time of its seconds. -/
theorem mom_of {m : Mom} (h : OkM m) (hw : (dayN m.year m.mon m.day + 4) % 7 = m.wd) : ∃ t : Nat, secsM m = t ∧ t ≤ maxT ∧ momOf t = m := by
  have b := day_in h.date
  have b1 := ahead_max m.year h.date.y2
  have b2 := ahead_min m.year h.date.y1
  have e := days_eq m.year m.mon m.day (by have := h.date.y1; omega) h.date.m1
  have h1 := h.hour; have h2 := h.min; have h3 := h.sec
  obtain ⟨n, hn⟩ : ∃ n : Nat, dayN m.year m.mon m.day = n := ⟨(dayN m.year m.mon m.day).toNat, by omega⟩
  have hs : secsM m = ((n * 86400 + m.hour * 3600 + m.min * 60 + m.sec : Nat) : Int) := by
    unfold secsM
    rw [e, hn]
    omega
  refine ⟨_, hs, max_day _ _ _ _ (by omega) h1 h2 h3, ?_⟩
  obtain ⟨q1, q2⟩ := civ_ok n (by omega)
  rw [days_eq _ _ _ (by have := q1.y1; omega) q1.m1] at q2
  obtain ⟨r1, r2, r3⟩ := day_one q1 h.date (by rw [q2, hn])
  obtain ⟨t1, t2⟩ := div_day n m.hour m.min m.sec h1 h2 h3
  obtain ⟨g1, g2, g3⟩ := div_hour m.hour m.min m.sec h2 h3
  rw [hn] at hw
  have g4 : (n + 4) % 7 = m.wd := wd_nat hw
  rw [Nat.mod_eq_of_lt (Nat.lt_succ_of_le h2)] at g2
  unfold momOf
  rw [t1, t2, r1, r2, r3, g1, g2, g3, g4]
/-- What is made is the time of a text of those parts, or none. -/
theorem made_text {f : Mom → Bs} {l : Bs} {w m : Int} {y d : Nat} {c : Bs} (hw : w ≤ 6) (hm : m ≤ 11)
    (h1 : ∀ M : Mom, OkM M → M.year = y → w = M.wd → m = M.mon → M.day = d → clockT M = c → f M = l)
    (h0 : ∀ t, t ≤ maxT → f (momOf t) = l → (momOf t).year = y → TextOf t l)
    (h2 : ∀ t, TextOf t l → w = (momOf t).wd ∧ y = (momOf t).year ∧ m = (momOf t).mon ∧ d = (momOf t).day ∧ c = clockT (momOf t)) : madeF w y m d c = readF l := by
  unfold madeF
  cases hc : clockR c with
  | none =>
    simp only
    rw [read_no]
    intro t ht
    obtain ⟨_, _, _, _, e⟩ := h2 t ht
    rw [e, clockR_text (mom_ok t ht.1)] at hc
    cases hc
  | some p =>
    obtain ⟨h, mi, s⟩ := p
    simp only
    obtain ⟨e, b1, b2, b3⟩ := clockR_of hc
    split
    · rename_i hq
      obtain ⟨q1, q2, q3, q4, q5, q6, q7⟩ := hq
      obtain ⟨M, hM⟩ : ∃ M : Mom, M = ⟨y, m.toNat, d, h, mi, s, w.toNat⟩ := ⟨_, rfl⟩
      have o : OkM M := by rw [hM]; exact ⟨⟨q3, q4, (show m.toNat ≤ 11 by omega), q5, q6⟩, b1, b2, b3, (show w.toNat ≤ 6 by omega)⟩
      obtain ⟨t, ht, htm, hmom⟩ := mom_of o (by rw [hM]; show (dayN y m.toNat d + 4) % 7 = ((w.toNat : Nat) : Int); omega)
      have hl := h1 M o (by rw [hM]) (by rw [hM]; show w = ((w.toNat : Nat) : Int); omega) (by rw [hM]; show m = ((m.toNat : Nat) : Int); omega) (by rw [hM]) (by rw [hM, e]; rfl)
      rw [read_yes (h0 t htm (by rw [hmom]; exact hl) (by rw [hmom, hM]))]
      rw [hM] at ht
      unfold secsM at ht
      simp only at ht
      rw [days_eq _ _ _ (by omega) (by omega)] at ht
      congr 1
      omega
    · rename_i hq
      rw [read_no]
      intro t ht
      obtain ⟨e1, e2, e3, e4, e5⟩ := h2 t ht
      have o := mom_ok t ht.1
      have d0 := o.date
      have hm2 : m.toNat = (momOf t).mon := by omega
      have q2 : daysN (momOf t).year (momOf t).mon (momOf t).day = ((t / 86400 : Nat) : Int) := (civ_ok (t / 86400) (by have := ht.1; unfold maxT at this; omega)).2
      refine hq ⟨by omega, by omega, by rw [e2]; exact d0.y1, by rw [e2]; exact d0.y2, by rw [e4]; exact d0.d1, by rw [e2, hm2, e4]; exact d0.d2, ?_⟩
      rw [e2, hm2, e4, e1]
      rw [days_eq _ _ _ (by have := d0.y1; exact Nat.le_trans (by decide) this) d0.m1] at q2
      show _ = (((t / 86400 + 4) % 7 : Nat) : Int)
      rw [q2]
      omega
theorem idx_lt (l : List Bs) (s : Bs) : idxF l s < l.length := by
  by_cases h : 0 ≤ idxF l s
  · have := (idx_at l s h).1; omega
  · omega
/-- The reference's first form. -/
def sepP (l : Bs) : Prop := l.length = 29 ∧ sl l 3 5 = [44, 32] ∧ l.getD 7 0 = 32 ∧ l.getD 11 0 = 32 ∧ l.getD 16 0 = 32 ∧ sl l 25 29 = [32, 71, 77, 84]
theorem plain_sep {m : Mom} (h : OkM m) : sepP (plainT m) := by
  refine ⟨plain_len h, ?_⟩
  obtain ⟨a, b, c, e1, _⟩ := day_three m h.wd
  obtain ⟨x, y, z, e2, _⟩ := mon_three m h.date.m1
  unfold plainT
  rw [e1, e2]
  exact ⟨rfl, rfl, rfl, rfl, rfl⟩
theorem only_plain {t : Nat} {l : Bs} (h : TextOf t l) (hl : l.length = 29) : l = plainT (momOf t) := by
  have o := mom_ok t h.1
  have l3 := old_len o; have l5 := long_len o; have l7 := day_long _ o.wd
  rcases h.2 with e | e | ⟨e, _⟩
  · exact e
  · rw [e] at hl; omega
  · rw [e] at hl; omega
theorem only_old {t : Nat} {l : Bs} (h : TextOf t l) (hl : l.length = 24) : l = oldT (momOf t) := by
  have o := mom_ok t h.1
  have l3 := plain_len o; have l5 := long_len o; have l7 := day_long _ o.wd
  rcases h.2 with e | e | ⟨e, _⟩
  · rw [e] at hl; omega
  · exact e
  · rw [e] at hl; omega
theorem ref_plain (l : Bs) (h : sepP l) : (match numF (sl l 5 7) 4, numF (sl l 12 16) 4 with | some d, some y => madeF (idxF day3L (sl l 0 3)) y (idxF monL (sl l 8 11)) d (sl l 17 25) | _, _ => (0, 80)) = readF l := by
  have hl := h.1
  have hpl : ∀ t, TextOf t l → l = plainT (momOf t) := fun t ht => only_plain ht hl
  have hnum : ∀ t, TextOf t l → numF (sl l 5 7) 4 = some (momOf t).day ∧ numF (sl l 12 16) 4 = some (momOf t).year := fun t ht => by
    have o := mom_ok t ht.1
    obtain ⟨p1, p2, p3, p4⟩ := plain_form o
    rw [hpl t ht, p1, p3]
    exact ⟨num_two _ (by have := day_le o; omega), num_four _ o.date.y2⟩
  cases n1 : numF (sl l 5 7) 4 with
  | none => exact (read_no (fun t ht => by rw [(hnum t ht).1] at n1; cases n1)).symm
  | some d =>
    cases n2 : numF (sl l 12 16) 4 with
    | none => exact (read_no (fun t ht => by rw [(hnum t ht).2] at n2; cases n2)).symm
    | some y =>
      simp only
      refine made_text (f := plainT) (by have := idx_lt day3L (sl l 0 3); have e : day3L.length = 7 := rfl; omega) (by have := idx_lt monL (sl l 8 11); have e : monL.length = 12 := rfl; omega) ?_ ?_ ?_
      · intro M o ey ew em ed ec
        obtain ⟨_, a1, a2, a3, a4, a5⟩ := h
        match l, hl with
        | [c0, c1, c2, c3, c4, c5, c6, c7, c8, c9, c10, c11, c12, c13, c14, c15, c16, c17, c18, c19, c20, c21, c22, c23, c24, c25, c26, c27, c28], _ =>
          have i1 := (idx_at _ _ (by rw [ew]; omega)).2
          rw [ew] at i1
          have i2 := (idx_at _ _ (by rw [em]; omega)).2
          rw [em] at i2
          have g1 := (clock_two (a := c5) (b := c6) n1).1
          have g2 := clock_four (a := c12) (b := c13) (c := c14) (d := c15) n2
          have f1 : day3 M = [c0, c1, c2] := by
            rw [← show sl [c0, c1, c2, c3, c4, c5, c6, c7, c8, c9, c10, c11, c12, c13, c14, c15, c16, c17, c18, c19, c20, c21, c22, c23, c24, c25, c26, c27, c28] 0 3 = [c0, c1, c2] from rfl, ← i1]
            unfold day3 day3L
            simp only [Int.toNat_natCast, List.getD_eq_getElem?_getD, List.getElem?_map]
            cases dayL[M.wd]? <;> rfl
          have f2 : monT M = [c8, c9, c10] := by
            rw [← show sl [c0, c1, c2, c3, c4, c5, c6, c7, c8, c9, c10, c11, c12, c13, c14, c15, c16, c17, c18, c19, c20, c21, c22, c23, c24, c25, c26, c27, c28] 8 11 = [c8, c9, c10] from rfl, ← i2]
            rfl
          have f3 : clockT M = [c17, c18, c19, c20, c21, c22, c23, c24] := ec
          unfold plainT
          rw [f1, f2, f3, ed, ey, ← g1, ← g2.1, ← g2.2.1]
          have a1 : [c3, c4] = [44, 32] := a1
          have a5 : [c25, c26, c27, c28] = [32, 71, 77, 84] := a5
          injection a1 with a1 a1'
          injection a1' with a1'
          rw [← a5]
          show [c0, c1, c2, 44, 32, c5, c6, 32, c8, c9, c10, 32, c12, c13, c14, c15, 32, c17, c18, c19, c20, c21, c22, c23, c24, c25, c26, c27, c28] = _
          rw [show c3 = 44 from a1, show c4 = 32 from a1', show c7 = 32 from a2, show c11 = 32 from a3, show c16 = 32 from a4]
      · intro t ht e _
        exact ⟨ht, .inl e.symm⟩
      · intro t ht
        have o := mom_ok t ht.1
        obtain ⟨p1, p2, p3, p4⟩ := plain_form o
        have q := hnum t ht
        rw [n1, n2] at q
        have e := hpl t ht
        have p0 : sl (plainT (momOf t)) 0 3 = day3 (momOf t) := by
          obtain ⟨a, b, c, e1, _⟩ := day_three _ o.wd
          unfold plainT
          rw [e1]
          rfl
        refine ⟨?_, Option.some.inj q.2, ?_, Option.some.inj q.1, ?_⟩
        · rw [e, p0, idx_day _ o.wd]
        · rw [e, p2, idx_mon _ o.date.m1]
        · rw [e, p4]
theorem num_one {b : UInt8} {n : Nat} (h : numF [b] 4 = some n) : b = dig n ∧ n ≤ 9 := by
  unfold numF at h
  split at h
  · rename_i hc
    have hb : digitD b = true := by have := hc.2.2; simpa using this
    unfold digitD at hb
    rw [decide_eq_true_iff] at hb
    have e := Option.some.inj h
    unfold valD at e
    simp only [List.foldl] at e
    exact ⟨UInt8.toNat_inj.1 (by rw [dig_nat _ (by omega)]; omega), by omega⟩
  · cases h
/-- The day of the third form. -/
def oldDay (l : Bs) : Option Nat := if l.getD 8 0 = 32 then numF (sl l 9 10) 4 else if l.getD 8 0 = 48 then none else numF (sl l 8 10) 4
def sepO (l : Bs) : Prop := l.length = 24 ∧ l.getD 3 0 = 32 ∧ l.getD 7 0 = 32 ∧ l.getD 10 0 = 32 ∧ l.getD 19 0 = 32
theorem old_sep {m : Mom} (h : OkM m) : sepO (oldT m) := by
  refine ⟨old_len h, ?_⟩
  obtain ⟨a, b, c, e1, _⟩ := day_three m h.wd
  obtain ⟨x, y, z, e2, _⟩ := mon_three m h.date.m1
  unfold oldT sp2
  rw [e1, e2]
  split <;> exact ⟨rfl, rfl, rfl, rfl⟩
theorem day3_map (M : Mom) : day3L.getD M.wd [] = day3 M := by
  unfold day3 day3L
  simp only [List.getD_eq_getElem?_getD, List.getElem?_map]
  cases dayL[M.wd]? <;> rfl
theorem oldDay_text {m : Mom} (h : OkM m) : oldDay (oldT m) = some m.day := by
  obtain ⟨a, b, c, e1, _⟩ := day_three m h.wd
  obtain ⟨x, y, z, e2, _⟩ := mon_three m h.date.m1
  have hd := day_le h
  unfold oldT sp2
  rw [e1, e2]
  split
  · have e : oldDay ([a, b, c] ++ 32 :: ([x, y, z] ++ 32 :: ([32, dig m.day] ++ 32 :: (clockT m ++ 32 :: (two2 (m.year / 100) ++ two2 m.year))))) = numF [dig m.day] 4 := rfl
    rw [e]
    have := num_sp m.day (by omega)
    unfold sp2 at this
    rw [if_pos (by assumption)] at this
    exact this
  · have h8 : dig (m.day / 10 % 10) ≠ 32 := fun e => by
      have := dig_nat (m.day / 10 % 10) (by omega)
      rw [e] at this
      have h32 : (32 : UInt8).toNat = 32 := rfl
      omega
    have h9 : dig (m.day / 10 % 10) ≠ 48 := fun e => by
      have := dig_nat (m.day / 10 % 10) (by omega)
      rw [e] at this
      have h48 : (48 : UInt8).toNat = 48 := rfl
      omega
    have e : oldDay ([a, b, c] ++ 32 :: ([x, y, z] ++ 32 :: (two2 m.day ++ 32 :: (clockT m ++ 32 :: (two2 (m.year / 100) ++ two2 m.year))))) = if dig (m.day / 10 % 10) = 32 then numF [dig (m.day % 10)] 4 else if dig (m.day / 10 % 10) = 48 then none else numF (two2 m.day) 4 := rfl
    rw [e, if_neg h8, if_neg h9]
    exact num_two _ (by omega)
theorem ref_old (l : Bs) (h : sepO l) : (match oldDay l, numF (sl l 20 24) 4 with | some d, some y => madeF (idxF day3L (sl l 0 3)) y (idxF monL (sl l 4 7)) d (sl l 11 19) | _, _ => (0, 80)) = readF l := by
  have hl := h.1
  have hpl : ∀ t, TextOf t l → l = oldT (momOf t) := fun t ht => only_old ht hl
  have hnum : ∀ t, TextOf t l → oldDay l = some (momOf t).day ∧ numF (sl l 20 24) 4 = some (momOf t).year := fun t ht => by
    have o := mom_ok t ht.1
    obtain ⟨p1, p2, p3, p4⟩ := old_form o
    rw [hpl t ht, p3]
    exact ⟨oldDay_text o, num_four _ o.date.y2⟩
  cases n1 : oldDay l with
  | none => exact (read_no (fun t ht => by rw [(hnum t ht).1] at n1; cases n1)).symm
  | some d =>
    cases n2 : numF (sl l 20 24) 4 with
    | none => exact (read_no (fun t ht => by rw [(hnum t ht).2] at n2; cases n2)).symm
    | some y =>
      simp only
      refine made_text (f := oldT) (by have := idx_lt day3L (sl l 0 3); have e : day3L.length = 7 := rfl; omega) (by have := idx_lt monL (sl l 4 7); have e : monL.length = 12 := rfl; omega) ?_ ?_ ?_
      · intro M o ey ew em ed ec
        obtain ⟨_, a1, a2, a3, a4⟩ := h
        match l, hl with
        | [c0, c1, c2, c3, c4, c5, c6, c7, c8, c9, c10, c11, c12, c13, c14, c15, c16, c17, c18, c19, c20, c21, c22, c23], _ =>
          have i1 := (idx_at _ _ (by rw [ew]; omega)).2
          rw [ew, Int.toNat_natCast, day3_map] at i1
          have i2 := (idx_at _ _ (by rw [em]; omega)).2
          rw [em, Int.toNat_natCast] at i2
          have g1 : sp2 d = [c8, c9] := by
            have n1 : (if c8 = 32 then numF [c9] 4 else if c8 = 48 then none else numF [c8, c9] 4) = some d := n1
            split at n1
            · rename_i h32
              obtain ⟨e, h9⟩ := num_one n1
              unfold sp2
              rw [if_pos (by omega), ← e, h32]
            · rename_i h32
              split at n1
              · cases n1
              · rename_i h48
                obtain ⟨e, h9⟩ := clock_two n1
                unfold sp2
                rw [if_neg, e]
                intro hlt
                unfold two2 at e
                injection e with e _
                have e0 : d / 10 % 10 = 0 := by omega
                rw [e0] at e
                exact h48 e
          have g2 := clock_four (a := c20) (b := c21) (c := c22) (d := c23) n2
          have f1 : day3 M = [c0, c1, c2] := i1
          have f2 : monT M = [c4, c5, c6] := i2
          have f3 : clockT M = [c11, c12, c13, c14, c15, c16, c17, c18] := ec
          unfold oldT
          rw [f1, f2, f3, ed, ey, g1, ← g2.1, ← g2.2.1]
          show [c0, c1, c2, 32, c4, c5, c6, 32, c8, c9, 32, c11, c12, c13, c14, c15, c16, c17, c18, 32, c20, c21, c22, c23] = _
          rw [show c3 = 32 from a1, show c7 = 32 from a2, show c10 = 32 from a3, show c19 = 32 from a4]
      · intro t ht e _
        exact ⟨ht, .inr (.inl e.symm)⟩
      · intro t ht
        have o := mom_ok t ht.1
        obtain ⟨p1, p2, p3, p4⟩ := old_form o
        have q := hnum t ht
        rw [n1, n2] at q
        have e := hpl t ht
        have p0 : sl (oldT (momOf t)) 0 3 = day3 (momOf t) := by
          obtain ⟨a, b, c, e1, _⟩ := day_three _ o.wd
          unfold oldT
          rw [e1]
          rfl
        refine ⟨?_, Option.some.inj q.2, ?_, Option.some.inj q.1, ?_⟩
        · rw [e, p0, idx_day _ o.wd]
        · rw [e, p2, idx_mon _ o.date.m1]
        · rw [e, p4]
/-- The year of the second form, as the reference tells it. -/
def year2 (y : Nat) : Nat := if 70 ≤ y then y + 1900 else y + 2000
def sepL (r : Bs) : Prop := r.getD 2 0 = 45 ∧ r.getD 6 0 = 45 ∧ r.getD 9 0 = 32 ∧ sl r 18 22 = [32, 71, 77, 84]
/-- What stands behind a day's name, a comma and a space. -/
def restT (m : Mom) : Bs := two2 m.day ++ 45 :: (monT m ++ 45 :: (two2 m.year ++ 32 :: (clockT m ++ [32, 71, 77, 84])))
theorem long_rest (m : Mom) : longT m = dayT m ++ 44 :: 32 :: restT m := rfl
theorem rest_sep {m : Mom} (h : OkM m) : sepL (restT m) := by
  obtain ⟨x, y, z, e2, _⟩ := mon_three m h.date.m1
  unfold restT
  rw [e2]
  exact ⟨rfl, rfl, rfl, rfl⟩
theorem rest_form {m : Mom} (h : OkM m) : sl (restT m) 0 2 = two2 m.day ∧ sl (restT m) 3 6 = monT m ∧ sl (restT m) 7 9 = two2 m.year ∧ sl (restT m) 10 18 = clockT m := by
  obtain ⟨x, y, z, e2, _⟩ := mon_three m h.date.m1
  unfold restT
  rw [e2]
  exact ⟨rfl, rfl, rfl, rfl⟩
theorem day_full {m m' : Mom} (h : m.wd ≤ 6) (h' : m'.wd ≤ 6) (e : dayT m = dayT m') : m.wd = m'.wd := day_inj h h' (by rw [(day_long m h).2.2.2, (day_long m' h').2.2.2, e])
theorem comma_one {p q r s : Bs} (hp : ∀ c ∈ p, c ≠ 44) (hq : ∀ c ∈ q, c ≠ 44) (h : p ++ 44 :: r = q ++ 44 :: s) : p = q ∧ r = s := by
  have h1 := index_hit p r hp
  have h2 := index_hit q s hq
  rw [h, h2] at h1
  have hl : p.length = q.length := by omega
  refine ⟨List.append_inj_left h hl, ?_⟩
  have := List.append_inj_right h hl
  injection this
theorem ref_long (w : Nat) (hw : w ≤ 6) (r : Bs) (hr : r.length = 22) :
    (match numF (sl r 0 2) 4, numF (sl r 7 9) 4 with | some d, some y => (if r.getD 2 0 = 45 ∧ r.getD 6 0 = 45 ∧ r.getD 9 0 = 32 ∧ sl r 18 22 = [32, 71, 77, 84] then madeF w (year2 y) (idxF monL (sl r 3 6)) d (sl r 10 18) else (0, 80)) | _, _ => (0, 80)) = readF (dayL.getD w [] ++ 44 :: 32 :: r) := by
  obtain ⟨l, hl⟩ : ∃ l, dayL.getD w [] ++ 44 :: 32 :: r = l := ⟨_, rfl⟩
  rw [hl]
  have hne : ∀ c ∈ dayL.getD w [], c ≠ 44 := by
    have key : ∀ k : Nat, k ≤ 6 → ∀ c ∈ dayL.getD k [], c ≠ 44 := by decide
    exact key w hw
  have hlen : 6 ≤ (dayL.getD w []).length := by
    have key : ∀ k : Nat, k ≤ 6 → 6 ≤ (dayL.getD k []).length := by decide
    exact key w hw
  have hll : l.length = (dayL.getD w []).length + 24 := by rw [← hl]; simp [hr]
  have hpl : ∀ t, TextOf t l → l = longT (momOf t) ∧ w = (momOf t).wd ∧ r = restT (momOf t) ∧ (momOf t).year ≤ 2069 := fun t ht => by
    have o := mom_ok t ht.1
    have l3 := plain_len o
    have l5 := old_len o
    rcases ht.2 with e | e | ⟨e, hy⟩
    · rw [e] at hll; omega
    · rw [e] at hll; omega
    · have e2 := e
      rw [long_rest, ← hl] at e2
      obtain ⟨q1, q2⟩ := comma_one hne (day_long _ o.wd).2.2.1 e2
      injection q2 with _ q2
      exact ⟨e, day_full (m := ⟨0, 0, 0, 0, 0, 0, w⟩) hw o.wd q1, q2, hy⟩
  have hnum : ∀ t, TextOf t l → numF (sl r 0 2) 4 = some (momOf t).day ∧ numF (sl r 7 9) 4 = some ((momOf t).year % 100) := fun t ht => by
    have o := mom_ok t ht.1
    obtain ⟨p1, p2, p3, p4⟩ := rest_form o
    rw [(hpl t ht).2.2.1, p1, p3, two2_mod (momOf t).year]
    exact ⟨num_two _ (by have := day_le o; omega), num_two _ (by omega)⟩
  cases n1 : numF (sl r 0 2) 4 with
  | none => exact (read_no (fun t ht => by rw [(hnum t ht).1] at n1; cases n1)).symm
  | some d =>
    cases n2 : numF (sl r 7 9) 4 with
    | none => exact (read_no (fun t ht => by rw [(hnum t ht).2] at n2; cases n2)).symm
    | some y =>
      simp only
      have hyy : y ≤ 99 := by
        match r, hr with
        | [c0, c1, c2, c3, c4, c5, c6, c7, c8, c9, c10, c11, c12, c13, c14, c15, c16, c17, c18, c19, c20, c21], _ => exact (clock_two (a := c7) (b := c8) n2).2
      split
      · rename_i hs
        refine made_text (f := longT) (by omega) (by have := idx_lt monL (sl r 3 6); have e : monL.length = 12 := rfl; omega) ?_ ?_ ?_
        · intro M o ey ew em ed ec
          rw [← hl, long_rest]
          have hwm : M.wd = w := by omega
          have hday : dayT M = dayL.getD w [] := by unfold dayT; rw [hwm]
          rw [hday]
          congr 2
          match r, hr with
          | [c0, c1, c2, c3, c4, c5, c6, c7, c8, c9, c10, c11, c12, c13, c14, c15, c16, c17, c18, c19, c20, c21], _ =>
            obtain ⟨a1, a2, a3, a4⟩ := hs
            have i2 := (idx_at _ _ (by rw [em]; omega)).2
            rw [em, Int.toNat_natCast] at i2
            have g1 := (clock_two (a := c0) (b := c1) n1).1
            have g2 := (clock_two (a := c7) (b := c8) n2).1
            have f2 : monT M = [c3, c4, c5] := i2
            have f3 : clockT M = [c10, c11, c12, c13, c14, c15, c16, c17] := ec
            have f4 : two2 M.year = [c7, c8] := by
              rw [g2, ey, two2_mod (year2 y)]
              congr 1
              unfold year2
              split <;> omega
            unfold restT
            rw [f2, f3, ed, f4, ← g1]
            have a4 : [c18, c19, c20, c21] = [32, 71, 77, 84] := a4
            rw [← a4]
            show 32 :: [c0, c1, 45, c3, c4, c5, 45, c7, c8, 32, c10, c11, c12, c13, c14, c15, c16, c17, c18, c19, c20, c21] = _
            rw [show c2 = 45 from a1, show c6 = 45 from a2, show c9 = 32 from a3]
        · intro t ht e hy
          refine ⟨ht, .inr (.inr ⟨e.symm, ?_⟩)⟩
          rw [hy]
          unfold year2
          split <;> omega
        · intro t ht
          have o := mom_ok t ht.1
          obtain ⟨p1, p2, p3, p4⟩ := rest_form o
          have q := hnum t ht
          rw [n1, n2] at q
          obtain ⟨e, e1, e2, e3⟩ := hpl t ht
          refine ⟨by rw [e1], ?_, ?_, Option.some.inj q.1, ?_⟩
          · have := Option.some.inj q.2
            have := o.date.y1
            unfold year2
            split <;> omega
          · rw [e2, p2, idx_mon _ o.date.m1]
          · rw [e2, p4]
      · rename_i hs
        exact (read_no (fun t ht => hs (by rw [(hpl t ht).2.2.1]; exact rest_sep (mom_ok t ht.1)))).symm
theorem rest_len {m : Mom} (h : OkM m) : (restT m).length = 22 := by
  have e := mon_len m h.date.m1
  unfold restT
  rw [List.length_append, List.length_cons, List.length_append, List.length_cons, List.length_append, List.length_cons, List.length_append, e]
  rfl
/-- No form at all. -/
theorem ref_none (l : Bs) (h1 : ¬ sepP l) (h2 : ¬ sepO l) (h3 : ∀ w : Nat, w ≤ 6 → ¬ ∃ r : Bs, l = dayL.getD w [] ++ 44 :: 32 :: r ∧ r.length = 22) : readF l = (0, 80) := by
  apply read_no
  intro t ht
  have o := mom_ok t ht.1
  obtain ⟨m, hm⟩ : ∃ m, momOf t = m := ⟨_, rfl⟩
  have h := ht.2
  rw [hm] at h o
  clear ht hm
  rcases h with e | e | ⟨e, _⟩
  · exact h1 (by rw [e]; exact plain_sep o)
  · exact h2 (by rw [e]; exact old_sep o)
  · exact h3 m.wd o.wd ⟨restT m, e.trans (long_rest m), rest_len o⟩
end Go.Proofs.YtkbcklaloblmeaaGreatDoor.DateMath
