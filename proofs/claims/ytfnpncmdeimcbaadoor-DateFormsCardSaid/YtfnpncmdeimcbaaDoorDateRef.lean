/-
  What the reference reads is the time of the text: plain mathematics.
-/
import Derived.Test.YtfnpncmdeimcbaaDoorDateMath
namespace Go.Proofs.YtfnpncmdeimcbaaDoor.DateMath

/-- The reference's clock. -/
def clockR (c : Bs) : Option (Nat × Nat × Nat) :=
  if c.length = 8 ∧ c.getD 2 0 = 58 ∧ c.getD 5 0 = 58 then
    (match numF (sl c 0 2) 4, numF (sl c 3 5) 4, numF (sl c 6 8) 4 with
    | some h, some m, some s => if h ≤ 23 ∧ m ≤ 59 ∧ s ≤ 59 then some (h, m, s) else none
    | _, _, _ => none)
  else none
def idxF : List Bs → Bs → Int
  | [], _ => -1
  | a :: l, s => if a = s then 0 else if idxF l s = -1 then -1 else idxF l s + 1
def day3L : List Bs := dayL.map (·.take 3)
/-- What the reference makes of the parts. -/
def madeF (w : Int) (y : Nat) (m : Int) (d : Nat) (c : Bs) : Int × Int :=
  match clockR c with
  | none => (0, 80)
  | some (h, mi, s) => if 0 ≤ w ∧ 0 ≤ m ∧ 1970 ≤ y ∧ y ≤ 9999 ∧ 1 ≤ d ∧ d ≤ lenN y m.toNat ∧ (dayN y m.toNat d + 4) % 7 = w then (dayN y m.toNat d * 86400 + ((h * 3600 + mi * 60 + s : Nat) : Int), 0) else (0, 80)
theorem idx_ge (l : List Bs) (s : Bs) : -1 ≤ idxF l s := by
  induction l with
  | nil => exact Int.le_refl _
  | cons a l ih =>
    unfold idxF
    split
    · omega
    · split <;> omega
theorem idx_at : ∀ (l : List Bs) (s : Bs), 0 ≤ idxF l s → (idxF l s).toNat < l.length ∧ l.getD (idxF l s).toNat [] = s
  | [], s, h => by unfold idxF at h; omega
  | a :: l, s, h => by
    unfold idxF at h ⊢
    by_cases e : a = s
    · rw [if_pos e]; exact ⟨by simp, by simpa using e⟩
    · rw [if_neg e] at h ⊢
      by_cases e2 : idxF l s = -1
      · rw [if_pos e2] at h; omega
      · rw [if_neg e2] at h ⊢
        have := idx_ge l s
        have ih := idx_at l s (by omega)
        have e3 : (idxF l s + 1).toNat = (idxF l s).toNat + 1 := by omega
        rw [e3]
        exact ⟨by simp only [List.length_cons]; omega, by simpa using ih.2⟩
theorem idx_mon (m : Mom) (h : m.mon ≤ 11) : idxF monL (monT m) = m.mon := by
  have key : ∀ k : Nat, k ≤ 11 → idxF monL (monL.getD k []) = (k : Int) := by decide
  exact key m.mon h
theorem idx_day (m : Mom) (h : m.wd ≤ 6) : idxF day3L (day3 m) = m.wd := by
  have key : ∀ k : Nat, k ≤ 6 → idxF day3L ((dayL.getD k []).take 3) = (k : Int) := by decide
  exact key m.wd h
theorem clock_two {a b : UInt8} {n : Nat} (h : numF [a, b] 4 = some n) : [a, b] = two2 n ∧ n ≤ 99 := by
  unfold numF at h
  split at h
  · rename_i hc
    have ha : digitD a = true := by have := hc.2.2; simp at this; exact this.1
    have hb : digitD b = true := by have := hc.2.2; simp at this; exact this.2
    unfold digitD at ha hb
    rw [decide_eq_true_iff] at ha hb
    have e := Option.some.inj h
    unfold valD at e
    simp only [List.foldl] at e
    refine ⟨?_, by omega⟩
    unfold two2
    have e1 : a = dig (n / 10 % 10) := UInt8.toNat_inj.1 (by rw [dig_nat _ (by omega)]; omega)
    have e2 : b = dig (n % 10) := UInt8.toNat_inj.1 (by rw [dig_nat _ (by omega)]; omega)
    rw [e1, e2]
  · cases h
theorem clock_four {a b c d : UInt8} {n : Nat} (h : numF [a, b, c, d] 4 = some n) : [a, b] = two2 (n / 100) ∧ [c, d] = two2 n ∧ n ≤ 9999 := by
  unfold numF at h
  split at h
  · rename_i hc
    have hh := hc.2.2
    simp only [List.all_cons, List.all_nil, Bool.and_true, Bool.and_eq_true] at hh
    obtain ⟨ha, hb, hc, hd⟩ := hh
    unfold digitD at ha hb hc hd
    rw [decide_eq_true_iff] at ha hb hc hd
    have e := Option.some.inj h
    unfold valD at e
    simp only [List.foldl] at e
    have e1 : a = dig (n / 100 / 10 % 10) := UInt8.toNat_inj.1 (by rw [dig_nat _ (by omega)]; omega)
    have e2 : b = dig (n / 100 % 10) := UInt8.toNat_inj.1 (by rw [dig_nat _ (by omega)]; omega)
    have e3 : c = dig (n / 10 % 10) := UInt8.toNat_inj.1 (by rw [dig_nat _ (by omega)]; omega)
    have e4 : d = dig (n % 10) := UInt8.toNat_inj.1 (by rw [dig_nat _ (by omega)]; omega)
    refine ⟨?_, ?_, by omega⟩
    · unfold two2; rw [← e1, ← e2]
    · unfold two2; rw [← e3, ← e4]
  · cases h
theorem clockR_text {m : Mom} (h : OkM m) : clockR (clockT m) = some (m.hour, m.min, m.sec) := by
  have := h.hour; have := h.min; have := h.sec
  have c1 : sl (clockT m) 0 2 = two2 m.hour := rfl
  have c2 : sl (clockT m) 3 5 = two2 m.min := rfl
  have c3 : sl (clockT m) 6 8 = two2 m.sec := rfl
  unfold clockR
  rw [if_pos ⟨rfl, rfl, rfl⟩, c1, c2, c3, num_two _ (by omega), num_two _ (by omega), num_two _ (by omega)]
  simp only
  rw [if_pos ⟨by omega, by omega, by omega⟩]
theorem clockR_of {c : Bs} {h m s : Nat} (e : clockR c = some (h, m, s)) : c = two2 h ++ 58 :: (two2 m ++ 58 :: two2 s) ∧ h ≤ 23 ∧ m ≤ 59 ∧ s ≤ 59 := by
  unfold clockR at e
  split at e
  · rename_i hc
    obtain ⟨hl, h2, h5⟩ := hc
    match c, hl with
    | [c0, c1, c2, c3, c4, c5, c6, c7], _ =>
      have s1 : sl [c0, c1, c2, c3, c4, c5, c6, c7] 0 2 = [c0, c1] := rfl
      have s2 : sl [c0, c1, c2, c3, c4, c5, c6, c7] 3 5 = [c3, c4] := rfl
      have s3 : sl [c0, c1, c2, c3, c4, c5, c6, c7] 6 8 = [c6, c7] := rfl
      obtain rfl : c2 = 58 := h2
      obtain rfl : c5 = 58 := h5
      rw [s1, s2, s3] at e
      cases n1 : numF [c0, c1] 4 with
      | none => rw [n1] at e; cases e
      | some x =>
        cases n2 : numF [c3, c4] 4 with
        | none => rw [n1, n2] at e; cases e
        | some y =>
          cases n3 : numF [c6, c7] 4 with
          | none => rw [n1, n2, n3] at e; cases e
          | some z =>
            rw [n1, n2, n3] at e
            simp only at e
            split at e
            · rename_i hb
              injection e with e
              injection e with e1 e
              injection e with e2 e3
              subst e1 e2 e3
              have q1 := (clock_two n1).1
              have q2 := (clock_two n2).1
              have q3 := (clock_two n3).1
              rw [← q1, ← q2, ← q3]
              exact ⟨rfl, hb⟩
            · cases e
  · cases e
theorem div_day (n h m s : Nat) (h1 : h ≤ 23) (h2 : m ≤ 59) (h3 : s ≤ 59) : (n * 86400 + h * 3600 + m * 60 + s) / 86400 = n ∧ (n * 86400 + h * 3600 + m * 60 + s) % 86400 = h * 3600 + m * 60 + s := by omega
theorem div_hour (h m s : Nat) (h2 : m ≤ 59) (h3 : s ≤ 59) : (h * 3600 + m * 60 + s) / 3600 = h ∧ (h * 3600 + m * 60 + s) / 60 % 60 = m % 60 ∧ (h * 3600 + m * 60 + s) % 60 = s := by omega
theorem max_day (n h m s : Nat) (hn : n ≤ 2932896) (h1 : h ≤ 23) (h2 : m ≤ 59) (h3 : s ≤ 59) : n * 86400 + h * 3600 + m * 60 + s ≤ maxT := by unfold maxT; omega
theorem wd_nat {n w : Nat} (h : ((n : Int) + 4) % 7 = (w : Int)) : (n + 4) % 7 = w := by omega
theorem ahead_max (y : Nat) (h : y ≤ 9999) : aheadN (y + 1) ≤ 2932897 := by unfold aheadN; omega
theorem ahead_min (y : Nat) (h : 1970 ≤ y) : 0 ≤ aheadN y := by unfold aheadN; omega
/-- A time of right parts is the time of its seconds. -/
theorem mom_of {m : Mom} (h : OkM m) (hw : (dayN m.year m.mon m.day + 4) % 7 = m.wd) : ∃ t : Nat, secsM m = t ∧ t ≤ maxT ∧ momOf t = m := by
  have b := day_in h.date
  have b1 := ahead_max m.year h.date.y2
  have b2 := ahead_min m.year h.date.y1
  have e := days_eq m.year m.mon m.day (by have := h.date.y1; omega) h.date.m1
  have h1 := h.hour; have h2 := h.min; have h3 := h.sec
  obtain ⟨n, hn⟩ : ∃ n : Nat, dayN m.year m.mon m.day = n := ⟨(dayN m.year m.mon m.day).toNat, by omega⟩
  have hs : secsM m = ((n * 86400 + m.hour * 3600 + m.min * 60 + m.sec : Nat) : Int) := by
    unfold secsM
    rw [e, hn]
    omega
  refine ⟨_, hs, max_day _ _ _ _ (by omega) h1 h2 h3, ?_⟩
  obtain ⟨q1, q2⟩ := civ_ok n (by omega)
  rw [days_eq _ _ _ (by have := q1.y1; omega) q1.m1] at q2
  obtain ⟨r1, r2, r3⟩ := day_one q1 h.date (by rw [q2, hn])
  obtain ⟨t1, t2⟩ := div_day n m.hour m.min m.sec h1 h2 h3
  obtain ⟨g1, g2, g3⟩ := div_hour m.hour m.min m.sec h2 h3
  rw [hn] at hw
  have g4 : (n + 4) % 7 = m.wd := wd_nat hw
  rw [Nat.mod_eq_of_lt (Nat.lt_succ_of_le h2)] at g2
  unfold momOf
  rw [t1, t2, r1, r2, r3, g1, g2, g3, g4]
/-- What is made is the time of a text of those parts, or none. -/
theorem made_text {f : Mom → Bs} {l : Bs} {w m : Int} {y d : Nat} {c : Bs} (hw : w ≤ 6) (hm : m ≤ 11)
    (h1 : ∀ M : Mom, OkM M → M.year = y → w = M.wd → m = M.mon → M.day = d → clockT M = c → f M = l)
    (h0 : ∀ t, t ≤ maxT → f (momOf t) = l → (momOf t).year = y → TextOf t l)
    (h2 : ∀ t, TextOf t l → w = (momOf t).wd ∧ y = (momOf t).year ∧ m = (momOf t).mon ∧ d = (momOf t).day ∧ c = clockT (momOf t)) : madeF w y m d c = readF l := by
  unfold madeF
  cases hc : clockR c with
  | none =>
    simp only
    rw [read_no]
    intro t ht
    obtain ⟨_, _, _, _, e⟩ := h2 t ht
    rw [e, clockR_text (mom_ok t ht.1)] at hc
    cases hc
  | some p =>
    obtain ⟨h, mi, s⟩ := p
    simp only
    obtain ⟨e, b1, b2, b3⟩ := clockR_of hc
    split
    · rename_i hq
      obtain ⟨q1, q2, q3, q4, q5, q6, q7⟩ := hq
      obtain ⟨M, hM⟩ : ∃ M : Mom, M = ⟨y, m.toNat, d, h, mi, s, w.toNat⟩ := ⟨_, rfl⟩
      have o : OkM M := by rw [hM]; exact ⟨⟨q3, q4, (show m.toNat ≤ 11 by omega), q5, q6⟩, b1, b2, b3, (show w.toNat ≤ 6 by omega)⟩
      obtain ⟨t, ht, htm, hmom⟩ := mom_of o (by rw [hM]; show (dayN y m.toNat d + 4) % 7 = ((w.toNat : Nat) : Int); omega)
      have hl := h1 M o (by rw [hM]) (by rw [hM]; show w = ((w.toNat : Nat) : Int); omega) (by rw [hM]; show m = ((m.toNat : Nat) : Int); omega) (by rw [hM]) (by rw [hM, e]; rfl)
      rw [read_yes (h0 t htm (by rw [hmom]; exact hl) (by rw [hmom, hM]))]
      rw [hM] at ht
      unfold secsM at ht
      simp only at ht
      rw [days_eq _ _ _ (by omega) (by omega)] at ht
      congr 1
      omega
    · rename_i hq
      rw [read_no]
      intro t ht
      obtain ⟨e1, e2, e3, e4, e5⟩ := h2 t ht
      have o := mom_ok t ht.1
      have d0 := o.date
      have hm2 : m.toNat = (momOf t).mon := by omega
      have q2 : daysN (momOf t).year (momOf t).mon (momOf t).day = ((t / 86400 : Nat) : Int) := (civ_ok (t / 86400) (by have := ht.1; unfold maxT at this; omega)).2
      refine hq ⟨by omega, by omega, by rw [e2]; exact d0.y1, by rw [e2]; exact d0.y2, by rw [e4]; exact d0.d1, by rw [e2, hm2, e4]; exact d0.d2, ?_⟩
      rw [e2, hm2, e4, e1]
      rw [days_eq _ _ _ (by have := d0.y1; exact Nat.le_trans (by decide) this) d0.m1] at q2
      show _ = (((t / 86400 + 4) % 7 : Nat) : Int)
      rw [q2]
      omega
theorem idx_lt (l : List Bs) (s : Bs) : idxF l s < l.length := by
  by_cases h : 0 ≤ idxF l s
  · have := (idx_at l s h).1; omega
  · omega
/-- The reference's first form. -/
def sepP (l : Bs) : Prop := l.length = 29 ∧ sl l 3 5 = [44, 32] ∧ l.getD 7 0 = 32 ∧ l.getD 11 0 = 32 ∧ l.getD 16 0 = 32 ∧ sl l 25 29 = [32, 71, 77, 84]
theorem plain_sep {m : Mom} (h : OkM m) : sepP (plainT m) := by
  refine ⟨plain_len h, ?_⟩
  obtain ⟨a, b, c, e1, _⟩ := day_three m h.wd
  obtain ⟨x, y, z, e2, _⟩ := mon_three m h.date.m1
  unfold plainT
  rw [e1, e2]
  exact ⟨rfl, rfl, rfl, rfl, rfl⟩
theorem only_plain {t : Nat} {l : Bs} (h : TextOf t l) (hl : l.length = 29) : l = plainT (momOf t) := by
  have o := mom_ok t h.1
  have l3 := old_len o; have l5 := long_len o; have l7 := day_long _ o.wd
  rcases h.2 with e | e | ⟨e, _⟩
  · exact e
  · rw [e] at hl; omega
  · rw [e] at hl; omega
theorem only_old {t : Nat} {l : Bs} (h : TextOf t l) (hl : l.length = 24) : l = oldT (momOf t) := by
  have o := mom_ok t h.1
  have l3 := plain_len o; have l5 := long_len o; have l7 := day_long _ o.wd
  rcases h.2 with e | e | ⟨e, _⟩
  · rw [e] at hl; omega
  · exact e
  · rw [e] at hl; omega
theorem ref_plain (l : Bs) (h : sepP l) : (match numF (sl l 5 7) 4, numF (sl l 12 16) 4 with | some d, some y => madeF (idxF day3L (sl l 0 3)) y (idxF monL (sl l 8 11)) d (sl l 17 25) | _, _ => (0, 80)) = readF l := by
  have hl := h.1
  have hpl : ∀ t, TextOf t l → l = plainT (momOf t) := fun t ht => only_plain ht hl
  have hnum : ∀ t, TextOf t l → numF (sl l 5 7) 4 = some (momOf t).day ∧ numF (sl l 12 16) 4 = some (momOf t).year := fun t ht => by
    have o := mom_ok t ht.1
    obtain ⟨p1, p2, p3, p4⟩ := plain_form o
    rw [hpl t ht, p1, p3]
    exact ⟨num_two _ (by have := day_le o; omega), num_four _ o.date.y2⟩
  cases n1 : numF (sl l 5 7) 4 with
  | none => exact (read_no (fun t ht => by rw [(hnum t ht).1] at n1; cases n1)).symm
  | some d =>
    cases n2 : numF (sl l 12 16) 4 with
    | none => exact (read_no (fun t ht => by rw [(hnum t ht).2] at n2; cases n2)).symm
    | some y =>
      simp only
      refine made_text (f := plainT) (by have := idx_lt day3L (sl l 0 3); have e : day3L.length = 7 := rfl; omega) (by have := idx_lt monL (sl l 8 11); have e : monL.length = 12 := rfl; omega) ?_ ?_ ?_
      · intro M o ey ew em ed ec
        obtain ⟨_, a1, a2, a3, a4, a5⟩ := h
        match l, hl with
        | [c0, c1, c2, c3, c4, c5, c6, c7, c8, c9, c10, c11, c12, c13, c14, c15, c16, c17, c18, c19, c20, c21, c22, c23, c24, c25, c26, c27, c28], _ =>
          have i1 := (idx_at _ _ (by rw [ew]; omega)).2
          rw [ew] at i1
          have i2 := (idx_at _ _ (by rw [em]; omega)).2
          rw [em] at i2
          have g1 := (clock_two (a := c5) (b := c6) n1).1
          have g2 := clock_four (a := c12) (b := c13) (c := c14) (d := c15) n2
          have f1 : day3 M = [c0, c1, c2] := by
            rw [← show sl [c0, c1, c2, c3, c4, c5, c6, c7, c8, c9, c10, c11, c12, c13, c14, c15, c16, c17, c18, c19, c20, c21, c22, c23, c24, c25, c26, c27, c28] 0 3 = [c0, c1, c2] from rfl, ← i1]
            unfold day3 day3L
            simp only [Int.toNat_natCast, List.getD_eq_getElem?_getD, List.getElem?_map]
            cases dayL[M.wd]? <;> rfl
          have f2 : monT M = [c8, c9, c10] := by
            rw [← show sl [c0, c1, c2, c3, c4, c5, c6, c7, c8, c9, c10, c11, c12, c13, c14, c15, c16, c17, c18, c19, c20, c21, c22, c23, c24, c25, c26, c27, c28] 8 11 = [c8, c9, c10] from rfl, ← i2]
            rfl
          have f3 : clockT M = [c17, c18, c19, c20, c21, c22, c23, c24] := ec
          unfold plainT
          rw [f1, f2, f3, ed, ey, ← g1, ← g2.1, ← g2.2.1]
          have a1 : [c3, c4] = [44, 32] := a1
          have a5 : [c25, c26, c27, c28] = [32, 71, 77, 84] := a5
          injection a1 with a1 a1'
          injection a1' with a1'
          rw [← a5]
          show [c0, c1, c2, 44, 32, c5, c6, 32, c8, c9, c10, 32, c12, c13, c14, c15, 32, c17, c18, c19, c20, c21, c22, c23, c24, c25, c26, c27, c28] = _
          rw [show c3 = 44 from a1, show c4 = 32 from a1', show c7 = 32 from a2, show c11 = 32 from a3, show c16 = 32 from a4]
      · intro t ht e _
        exact ⟨ht, .inl e.symm⟩
      · intro t ht
        have o := mom_ok t ht.1
        obtain ⟨p1, p2, p3, p4⟩ := plain_form o
        have q := hnum t ht
        rw [n1, n2] at q
        have e := hpl t ht
        have p0 : sl (plainT (momOf t)) 0 3 = day3 (momOf t) := by
          obtain ⟨a, b, c, e1, _⟩ := day_three _ o.wd
          unfold plainT
          rw [e1]
          rfl
        refine ⟨?_, Option.some.inj q.2, ?_, Option.some.inj q.1, ?_⟩
        · rw [e, p0, idx_day _ o.wd]
        · rw [e, p2, idx_mon _ o.date.m1]
        · rw [e, p4]
theorem num_one {b : UInt8} {n : Nat} (h : numF [b] 4 = some n) : b = dig n ∧ n ≤ 9 := by
  unfold numF at h
  split at h
  · rename_i hc
    have hb : digitD b = true := by have := hc.2.2; simpa using this
    unfold digitD at hb
    rw [decide_eq_true_iff] at hb
    have e := Option.some.inj h
    unfold valD at e
    simp only [List.foldl] at e
    exact ⟨UInt8.toNat_inj.1 (by rw [dig_nat _ (by omega)]; omega), by omega⟩
  · cases h
/-- The day of the third form. -/
def oldDay (l : Bs) : Option Nat := if l.getD 8 0 = 32 then numF (sl l 9 10) 4 else if l.getD 8 0 = 48 then none else numF (sl l 8 10) 4
def sepO (l : Bs) : Prop := l.length = 24 ∧ l.getD 3 0 = 32 ∧ l.getD 7 0 = 32 ∧ l.getD 10 0 = 32 ∧ l.getD 19 0 = 32
theorem old_sep {m : Mom} (h : OkM m) : sepO (oldT m) := by
  refine ⟨old_len h, ?_⟩
  obtain ⟨a, b, c, e1, _⟩ := day_three m h.wd
  obtain ⟨x, y, z, e2, _⟩ := mon_three m h.date.m1
  unfold oldT sp2
  rw [e1, e2]
  split <;> exact ⟨rfl, rfl, rfl, rfl⟩
theorem day3_map (M : Mom) : day3L.getD M.wd [] = day3 M := by
  unfold day3 day3L
  simp only [List.getD_eq_getElem?_getD, List.getElem?_map]
  cases dayL[M.wd]? <;> rfl
theorem oldDay_text {m : Mom} (h : OkM m) : oldDay (oldT m) = some m.day := by
  obtain ⟨a, b, c, e1, _⟩ := day_three m h.wd
  obtain ⟨x, y, z, e2, _⟩ := mon_three m h.date.m1
  have hd := day_le h
  unfold oldT sp2
  rw [e1, e2]
  split
  · have e : oldDay ([a, b, c] ++ 32 :: ([x, y, z] ++ 32 :: ([32, dig m.day] ++ 32 :: (clockT m ++ 32 :: (two2 (m.year / 100) ++ two2 m.year))))) = numF [dig m.day] 4 := rfl
    rw [e]
    have := num_sp m.day (by omega)
    unfold sp2 at this
    rw [if_pos (by assumption)] at this
    exact this
  · have h8 : dig (m.day / 10 % 10) ≠ 32 := fun e => by
      have := dig_nat (m.day / 10 % 10) (by omega)
      rw [e] at this
      have h32 : (32 : UInt8).toNat = 32 := rfl
      omega
    have h9 : dig (m.day / 10 % 10) ≠ 48 := fun e => by
      have := dig_nat (m.day / 10 % 10) (by omega)
      rw [e] at this
      have h48 : (48 : UInt8).toNat = 48 := rfl
      omega
    have e : oldDay ([a, b, c] ++ 32 :: ([x, y, z] ++ 32 :: (two2 m.day ++ 32 :: (clockT m ++ 32 :: (two2 (m.year / 100) ++ two2 m.year))))) = if dig (m.day / 10 % 10) = 32 then numF [dig (m.day % 10)] 4 else if dig (m.day / 10 % 10) = 48 then none else numF (two2 m.day) 4 := rfl
    rw [e, if_neg h8, if_neg h9]
    exact num_two _ (by omega)
theorem ref_old (l : Bs) (h : sepO l) : (match oldDay l, numF (sl l 20 24) 4 with | some d, some y => madeF (idxF day3L (sl l 0 3)) y (idxF monL (sl l 4 7)) d (sl l 11 19) | _, _ => (0, 80)) = readF l := by
  have hl := h.1
  have hpl : ∀ t, TextOf t l → l = oldT (momOf t) := fun t ht => only_old ht hl
  have hnum : ∀ t, TextOf t l → oldDay l = some (momOf t).day ∧ numF (sl l 20 24) 4 = some (momOf t).year := fun t ht => by
    have o := mom_ok t ht.1
    obtain ⟨p1, p2, p3, p4⟩ := old_form o
    rw [hpl t ht, p3]
    exact ⟨oldDay_text o, num_four _ o.date.y2⟩
  cases n1 : oldDay l with
  | none => exact (read_no (fun t ht => by rw [(hnum t ht).1] at n1; cases n1)).symm
  | some d =>
    cases n2 : numF (sl l 20 24) 4 with
    | none => exact (read_no (fun t ht => by rw [(hnum t ht).2] at n2; cases n2)).symm
    | some y =>
      simp only
      refine made_text (f := oldT) (by have := idx_lt day3L (sl l 0 3); have e : day3L.length = 7 := rfl; omega) (by have := idx_lt monL (sl l 4 7); have e : monL.length = 12 := rfl; omega) ?_ ?_ ?_
      · intro M o ey ew em ed ec
        obtain ⟨_, a1, a2, a3, a4⟩ := h
        match l, hl with
        | [c0, c1, c2, c3, c4, c5, c6, c7, c8, c9, c10, c11, c12, c13, c14, c15, c16, c17, c18, c19, c20, c21, c22, c23], _ =>
          have i1 := (idx_at _ _ (by rw [ew]; omega)).2
          rw [ew, Int.toNat_natCast, day3_map] at i1
          have i2 := (idx_at _ _ (by rw [em]; omega)).2
          rw [em, Int.toNat_natCast] at i2
          have g1 : sp2 d = [c8, c9] := by
            have n1 : (if c8 = 32 then numF [c9] 4 else if c8 = 48 then none else numF [c8, c9] 4) = some d := n1
            split at n1
            · rename_i h32
              obtain ⟨e, h9⟩ := num_one n1
              unfold sp2
              rw [if_pos (by omega), ← e, h32]
            · rename_i h32
              split at n1
              · cases n1
              · rename_i h48
                obtain ⟨e, h9⟩ := clock_two n1
                unfold sp2
                rw [if_neg, e]
                intro hlt
                unfold two2 at e
                injection e with e _
                have e0 : d / 10 % 10 = 0 := by omega
                rw [e0] at e
                exact h48 e
          have g2 := clock_four (a := c20) (b := c21) (c := c22) (d := c23) n2
          have f1 : day3 M = [c0, c1, c2] := i1
          have f2 : monT M = [c4, c5, c6] := i2
          have f3 : clockT M = [c11, c12, c13, c14, c15, c16, c17, c18] := ec
          unfold oldT
          rw [f1, f2, f3, ed, ey, g1, ← g2.1, ← g2.2.1]
          show [c0, c1, c2, 32, c4, c5, c6, 32, c8, c9, 32, c11, c12, c13, c14, c15, c16, c17, c18, 32, c20, c21, c22, c23] = _
          rw [show c3 = 32 from a1, show c7 = 32 from a2, show c10 = 32 from a3, show c19 = 32 from a4]
      · intro t ht e _
        exact ⟨ht, .inr (.inl e.symm)⟩
      · intro t ht
        have o := mom_ok t ht.1
        obtain ⟨p1, p2, p3, p4⟩ := old_form o
        have q := hnum t ht
        rw [n1, n2] at q
        have e := hpl t ht
        have p0 : sl (oldT (momOf t)) 0 3 = day3 (momOf t) := by
          obtain ⟨a, b, c, e1, _⟩ := day_three _ o.wd
          unfold oldT
          rw [e1]
          rfl
        refine ⟨?_, Option.some.inj q.2, ?_, Option.some.inj q.1, ?_⟩
        · rw [e, p0, idx_day _ o.wd]
        · rw [e, p2, idx_mon _ o.date.m1]
        · rw [e, p4]
/-- The year of the second form, as the reference tells it. -/
def year2 (y : Nat) : Nat := if 70 ≤ y then y + 1900 else y + 2000
def sepL (r : Bs) : Prop := r.getD 2 0 = 45 ∧ r.getD 6 0 = 45 ∧ r.getD 9 0 = 32 ∧ sl r 18 22 = [32, 71, 77, 84]
/-- What stands behind a day's name, a comma and a space. -/
def restT (m : Mom) : Bs := two2 m.day ++ 45 :: (monT m ++ 45 :: (two2 m.year ++ 32 :: (clockT m ++ [32, 71, 77, 84])))
theorem long_rest (m : Mom) : longT m = dayT m ++ 44 :: 32 :: restT m := rfl
theorem rest_sep {m : Mom} (h : OkM m) : sepL (restT m) := by
  obtain ⟨x, y, z, e2, _⟩ := mon_three m h.date.m1
  unfold restT
  rw [e2]
  exact ⟨rfl, rfl, rfl, rfl⟩
theorem rest_form {m : Mom} (h : OkM m) : sl (restT m) 0 2 = two2 m.day ∧ sl (restT m) 3 6 = monT m ∧ sl (restT m) 7 9 = two2 m.year ∧ sl (restT m) 10 18 = clockT m := by
  obtain ⟨x, y, z, e2, _⟩ := mon_three m h.date.m1
  unfold restT
  rw [e2]
  exact ⟨rfl, rfl, rfl, rfl⟩
theorem day_full {m m' : Mom} (h : m.wd ≤ 6) (h' : m'.wd ≤ 6) (e : dayT m = dayT m') : m.wd = m'.wd := day_inj h h' (by rw [(day_long m h).2.2.2, (day_long m' h').2.2.2, e])
theorem comma_one {p q r s : Bs} (hp : ∀ c ∈ p, c ≠ 44) (hq : ∀ c ∈ q, c ≠ 44) (h : p ++ 44 :: r = q ++ 44 :: s) : p = q ∧ r = s := by
  have h1 := index_hit p r hp
  have h2 := index_hit q s hq
  rw [h, h2] at h1
  have hl : p.length = q.length := by omega
  refine ⟨List.append_inj_left h hl, ?_⟩
  have := List.append_inj_right h hl
  injection this
theorem ref_long (w : Nat) (hw : w ≤ 6) (r : Bs) (hr : r.length = 22) :
    (match numF (sl r 0 2) 4, numF (sl r 7 9) 4 with | some d, some y => (if r.getD 2 0 = 45 ∧ r.getD 6 0 = 45 ∧ r.getD 9 0 = 32 ∧ sl r 18 22 = [32, 71, 77, 84] then madeF w (year2 y) (idxF monL (sl r 3 6)) d (sl r 10 18) else (0, 80)) | _, _ => (0, 80)) = readF (dayL.getD w [] ++ 44 :: 32 :: r) := by
  obtain ⟨l, hl⟩ : ∃ l, dayL.getD w [] ++ 44 :: 32 :: r = l := ⟨_, rfl⟩
  rw [hl]
  have hne : ∀ c ∈ dayL.getD w [], c ≠ 44 := by
    have key : ∀ k : Nat, k ≤ 6 → ∀ c ∈ dayL.getD k [], c ≠ 44 := by decide
    exact key w hw
  have hlen : 6 ≤ (dayL.getD w []).length := by
    have key : ∀ k : Nat, k ≤ 6 → 6 ≤ (dayL.getD k []).length := by decide
    exact key w hw
  have hll : l.length = (dayL.getD w []).length + 24 := by rw [← hl]; simp [hr]
  have hpl : ∀ t, TextOf t l → l = longT (momOf t) ∧ w = (momOf t).wd ∧ r = restT (momOf t) ∧ (momOf t).year ≤ 2069 := fun t ht => by
    have o := mom_ok t ht.1
    have l3 := plain_len o
    have l5 := old_len o
    rcases ht.2 with e | e | ⟨e, hy⟩
    · rw [e] at hll; omega
    · rw [e] at hll; omega
    · have e2 := e
      rw [long_rest, ← hl] at e2
      obtain ⟨q1, q2⟩ := comma_one hne (day_long _ o.wd).2.2.1 e2
      injection q2 with _ q2
      exact ⟨e, day_full (m := ⟨0, 0, 0, 0, 0, 0, w⟩) hw o.wd q1, q2, hy⟩
  have hnum : ∀ t, TextOf t l → numF (sl r 0 2) 4 = some (momOf t).day ∧ numF (sl r 7 9) 4 = some ((momOf t).year % 100) := fun t ht => by
    have o := mom_ok t ht.1
    obtain ⟨p1, p2, p3, p4⟩ := rest_form o
    rw [(hpl t ht).2.2.1, p1, p3, two2_mod (momOf t).year]
    exact ⟨num_two _ (by have := day_le o; omega), num_two _ (by omega)⟩
  cases n1 : numF (sl r 0 2) 4 with
  | none => exact (read_no (fun t ht => by rw [(hnum t ht).1] at n1; cases n1)).symm
  | some d =>
    cases n2 : numF (sl r 7 9) 4 with
    | none => exact (read_no (fun t ht => by rw [(hnum t ht).2] at n2; cases n2)).symm
    | some y =>
      simp only
      have hyy : y ≤ 99 := by
        match r, hr with
        | [c0, c1, c2, c3, c4, c5, c6, c7, c8, c9, c10, c11, c12, c13, c14, c15, c16, c17, c18, c19, c20, c21], _ => exact (clock_two (a := c7) (b := c8) n2).2
      split
      · rename_i hs
        refine made_text (f := longT) (by omega) (by have := idx_lt monL (sl r 3 6); have e : monL.length = 12 := rfl; omega) ?_ ?_ ?_
        · intro M o ey ew em ed ec
          rw [← hl, long_rest]
          have hwm : M.wd = w := by omega
          have hday : dayT M = dayL.getD w [] := by unfold dayT; rw [hwm]
          rw [hday]
          congr 2
          match r, hr with
          | [c0, c1, c2, c3, c4, c5, c6, c7, c8, c9, c10, c11, c12, c13, c14, c15, c16, c17, c18, c19, c20, c21], _ =>
            obtain ⟨a1, a2, a3, a4⟩ := hs
            have i2 := (idx_at _ _ (by rw [em]; omega)).2
            rw [em, Int.toNat_natCast] at i2
            have g1 := (clock_two (a := c0) (b := c1) n1).1
            have g2 := (clock_two (a := c7) (b := c8) n2).1
            have f2 : monT M = [c3, c4, c5] := i2
            have f3 : clockT M = [c10, c11, c12, c13, c14, c15, c16, c17] := ec
            have f4 : two2 M.year = [c7, c8] := by
              rw [g2, ey, two2_mod (year2 y)]
              congr 1
              unfold year2
              split <;> omega
            unfold restT
            rw [f2, f3, ed, f4, ← g1]
            have a4 : [c18, c19, c20, c21] = [32, 71, 77, 84] := a4
            rw [← a4]
            show 32 :: [c0, c1, 45, c3, c4, c5, 45, c7, c8, 32, c10, c11, c12, c13, c14, c15, c16, c17, c18, c19, c20, c21] = _
            rw [show c2 = 45 from a1, show c6 = 45 from a2, show c9 = 32 from a3]
        · intro t ht e hy
          refine ⟨ht, .inr (.inr ⟨e.symm, ?_⟩)⟩
          rw [hy]
          unfold year2
          split <;> omega
        · intro t ht
          have o := mom_ok t ht.1
          obtain ⟨p1, p2, p3, p4⟩ := rest_form o
          have q := hnum t ht
          rw [n1, n2] at q
          obtain ⟨e, e1, e2, e3⟩ := hpl t ht
          refine ⟨by rw [e1], ?_, ?_, Option.some.inj q.1, ?_⟩
          · have := Option.some.inj q.2
            have := o.date.y1
            unfold year2
            split <;> omega
          · rw [e2, p2, idx_mon _ o.date.m1]
          · rw [e2, p4]
      · rename_i hs
        exact (read_no (fun t ht => hs (by rw [(hpl t ht).2.2.1]; exact rest_sep (mom_ok t ht.1)))).symm
theorem rest_len {m : Mom} (h : OkM m) : (restT m).length = 22 := by
  have e := mon_len m h.date.m1
  unfold restT
  rw [List.length_append, List.length_cons, List.length_append, List.length_cons, List.length_append, List.length_cons, List.length_append, e]
  rfl
/-- No form at all. -/
theorem ref_none (l : Bs) (h1 : ¬ sepP l) (h2 : ¬ sepO l) (h3 : ∀ w : Nat, w ≤ 6 → ¬ ∃ r : Bs, l = dayL.getD w [] ++ 44 :: 32 :: r ∧ r.length = 22) : readF l = (0, 80) := by
  apply read_no
  intro t ht
  have o := mom_ok t ht.1
  obtain ⟨m, hm⟩ : ∃ m, momOf t = m := ⟨_, rfl⟩
  have h := ht.2
  rw [hm] at h o
  clear ht hm
  rcases h with e | e | ⟨e, _⟩
  · exact h1 (by rw [e]; exact plain_sep o)
  · exact h2 (by rw [e]; exact old_sep o)
  · exact h3 m.wd o.wd ⟨restT m, e.trans (long_rest m), rest_len o⟩
end Go.Proofs.YtfnpncmdeimcbaaDoor.DateMath
