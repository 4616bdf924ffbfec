/-
  A time's three texts with another day of the week; the pieces that they are made of.
-/
import Derived.Test.YtfnpncmdeimcbaaDoorDateRefP
import Derived.Test.YtfnpncmdeimcbaaDoorDateKnown
namespace Go.Proofs.YtfnpncmdeimcbaaDoor
open Go.RowKit DateMath

def atW (m : Mom) (v : Nat) : Mom := ⟨m.year, m.mon, m.day, m.hour, m.min, m.sec, v⟩
theorem atW_ok {m : Mom} {v : Nat} (h : OkM m) (hv : v ≤ 6) : OkM (atW m v) := ⟨h.date, h.hour, h.min, h.sec, hv⟩
theorem atW_self (m : Mom) : atW m m.wd = m := rfl
theorem read_wrong {T v : Nat} (hT : T ≤ maxT) (hv : v ≤ 6) (hne : v ≠ (momOf T).wd) : readF (plainT (atW (momOf T) v)) = (0, 80) ∧ readF (oldT (atW (momOf T) v)) = (0, 80) := by
  have o := mom_ok T hT
  have ow := atW_ok o hv
  have hs : secsM (atW (momOf T) v) = T := mom_secs T hT
  constructor
  · refine read_no fun t ht => ?_
    obtain ⟨h1, h2⟩ := plain_inj ow (mom_ok t ht.1) (only_plain ht (plain_len ow))
    rw [hs, mom_secs t ht.1] at h1
    obtain rfl : T = t := by omega
    exact hne h2
  · refine read_no fun t ht => ?_
    obtain ⟨h1, h2⟩ := old_inj ow (mom_ok t ht.1) (only_old ht (old_len ow))
    rw [hs, mom_secs t ht.1] at h1
    obtain rfl : T = t := by omega
    exact hne h2
theorem read_right {T : Nat} (hT : T ≤ maxT) : readF (plainT (momOf T)) = ((T : Int), 0) ∧ readF (oldT (momOf T)) = ((T : Int), 0) := ⟨read_yes ⟨hT, .inl rfl⟩, read_yes ⟨hT, .inr (.inl rfl)⟩⟩
theorem read_long {T : Nat} (hT : T ≤ maxT) (hy : (momOf T).year ≤ 2069) : readF (longT (momOf T)) = ((T : Int), 0) := read_yes ⟨hT, .inr (.inr ⟨rfl, hy⟩)⟩
theorem year_low {T : Nat} (hT : T < 2145916800) : (momOf T).year ≤ 2069 := by
  have hn : T / 86400 ≤ 2932896 := by omega
  obtain ⟨o, d⟩ := civ_ok (T / 86400) hn
  rw [days_eq _ _ _ (by have := o.y1; omega) o.m1] at d
  have b := day_in o
  rw [d] at b
  show yearOf (T / 86400) ≤ 2069
  rcases Nat.lt_or_ge 2069 (yearOf (T / 86400)) with h | h
  · have := ahead_mono 2070 (by decide) (yearOf (T / 86400) - 2070)
    rw [show 2070 + (yearOf (T / 86400) - 2070) = yearOf (T / 86400) by omega] at this
    have e : aheadN 2070 = 36525 := by decide
    omega
  · exact h
/-- The pieces of the plain text. -/
theorem sl_at (p q r : Bs) (a b : Nat) (ha : p.length = a) (hb : a + q.length = b) : sl (p ++ (q ++ r)) a b = q := by
  unfold sl
  rw [← ha, List.drop_left, ← hb, ← ha, show p.length + q.length - p.length = q.length by omega, List.take_left]
theorem plain_parts {m : Mom} (h : OkM m) : sl (plainT m) 5 7 = two2 m.day ∧ sl (plainT m) 8 11 = monT m ∧ sl (plainT m) 17 25 = clockT m ∧ sl (plainT m) 12 16 = two2 (m.year / 100) ++ two2 m.year ∧ sl (plainT m) 14 16 = two2 m.year ∧ sl (plainT m) 0 3 = day3 m ∧ sl (plainT m) 17 29 = clockT m ++ [32, 71, 77, 84] := by
  have l3 := day3_len m h.wd
  have lm := mon_len m h.date.m1
  have lc := clock_len m
  have l2 : ∀ n, (two2 n).length = 2 := two2_len
  unfold plainT
  refine ⟨?_, ?_, ?_, ?_, ?_, ?_, ?_⟩
  · have := sl_at (day3 m ++ [44, 32]) (two2 m.day) (32 :: (monT m ++ 32 :: (two2 (m.year / 100) ++ (two2 m.year ++ 32 :: (clockT m ++ [32, 71, 77, 84]))))) 5 7 (by simp [l3]) (by simp [l2])
    simpa using this
  · have := sl_at (day3 m ++ 44 :: 32 :: (two2 m.day ++ [32])) (monT m) (32 :: (two2 (m.year / 100) ++ (two2 m.year ++ 32 :: (clockT m ++ [32, 71, 77, 84])))) 8 11 (by simp [l3, l2]) (by simp [lm])
    simpa using this
  · have := sl_at (day3 m ++ 44 :: 32 :: (two2 m.day ++ 32 :: (monT m ++ 32 :: (two2 (m.year / 100) ++ (two2 m.year ++ [32]))))) (clockT m) [32, 71, 77, 84] 17 25 (by simp [l3, l2, lm]) (by simp [lc])
    simpa using this
  · have := sl_at (day3 m ++ 44 :: 32 :: (two2 m.day ++ 32 :: (monT m ++ [32]))) (two2 (m.year / 100) ++ two2 m.year) (32 :: (clockT m ++ [32, 71, 77, 84])) 12 16 (by simp [l3, l2, lm]) (by simp [l2])
    simpa using this
  · have := sl_at (day3 m ++ 44 :: 32 :: (two2 m.day ++ 32 :: (monT m ++ 32 :: two2 (m.year / 100)))) (two2 m.year) (32 :: (clockT m ++ [32, 71, 77, 84])) 14 16 (by simp [l3, l2, lm]) (by simp [l2])
    simpa using this
  · have := sl_at [] (day3 m) (44 :: 32 :: (two2 m.day ++ 32 :: (monT m ++ 32 :: (two2 (m.year / 100) ++ (two2 m.year ++ 32 :: (clockT m ++ [32, 71, 77, 84])))))) 0 3 rfl (by simp [l3])
    simpa using this
  · have := sl_at (day3 m ++ 44 :: 32 :: (two2 m.day ++ 32 :: (monT m ++ 32 :: (two2 (m.year / 100) ++ (two2 m.year ++ [32]))))) (clockT m ++ [32, 71, 77, 84]) [] 17 29 (by simp [l3, l2, lm]) (by simp [lc])
    simpa using this
theorem plain_tail {m : Mom} (h : OkM m) (v : Nat) : plainT (atW m v) = (dayL.getD v []).take 3 ++ sl (plainT m) 3 29 := by
  have l3 := day3_len m h.wd
  have ll := plain_len h
  have e : sl (plainT m) 3 29 = (plainT m).drop 3 := by unfold sl; rw [List.take_of_length_le (by simp [ll])]
  rw [e]
  unfold plainT
  rw [List.drop_left' l3]
  rfl
end Go.Proofs.YtfnpncmdeimcbaaDoor
