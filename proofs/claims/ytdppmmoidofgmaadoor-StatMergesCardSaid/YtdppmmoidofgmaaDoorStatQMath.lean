/-
  What a quantile is: it grows with its hundredth, and at a hundred it is the greatest size's.
-/
import Derived.Test.YtdppmmoidofgmaaDoorStatQuant
namespace Go.Proofs.YtdppmmoidofgmaaDoor
open Go.RowKit

theorem walk_spec (L : Cs) (W : Int) (hW : W ≤ preF L 32) : ∀ n k, n + k = 32 → 0 < n → k ≤ walkF L W n k ∧ walkF L W n k < 32 ∧ W ≤ preF L (walkF L W n k + 1) ∧ ∀ j, k ≤ j → j < walkF L W n k → preF L (j + 1) < W
  | 0, _, _, h => absurd h (Nat.lt_irrefl 0)
  | n + 1, k, h, _ => by
    unfold walkF
    split
    · rename_i hd
      exact ⟨Nat.le_refl _, by omega, hd, fun j h1 h2 => by omega⟩
    · rename_i hd
      by_cases h0 : n = 0
      · subst h0
        obtain rfl : k = 31 := by omega
        exact absurd hW hd
      · have ih := walk_spec L W hW n (k + 1) (by omega) (by omega)
        refine ⟨by omega, ih.2.1, ih.2.2.1, fun j h1 h2 => ?_⟩
        by_cases hj : j = k
        · subst hj; omega
        · exact ih.2.2.2 j (by omega) h2
theorem walk_mono {L : Cs} {W V : Int} (h : W ≤ V) (hV : V ≤ preF L 32) : walkF L W 32 0 ≤ walkF L V 32 0 := by
  have h1 := walk_spec L W (by omega) 32 0 rfl (by omega)
  have h2 := walk_spec L V hV 32 0 rfl (by omega)
  rcases Nat.lt_or_ge (walkF L V 32 0) (walkF L W 32 0) with h3 | h3
  · have := h1.2.2.2 _ (Nat.zero_le _) h3
    have := h2.2.2.1
    omega
  · exact h3
theorem want_mono {t p q : Int} (ht : 0 < t) (hpq : p ≤ q) : wantF t p ≤ wantF t q := by
  have h1 : t / 100 * p ≤ t / 100 * q := Int.mul_le_mul_of_nonneg_left hpq (by omega)
  have h2 : t % 100 * p ≤ t % 100 * q := Int.mul_le_mul_of_nonneg_left hpq (by omega)
  unfold wantF
  generalize t / 100 * p = a at *
  generalize t / 100 * q = b at *
  generalize t % 100 * p = c at *
  generalize t % 100 * q = d at *
  omega
theorem want_top {t : Int} (ht : 0 < t) : wantF t 100 = t := by unfold wantF; omega
theorem want_le {t p : Int} (ht : 0 < t) (hp : p ≤ 100) : wantF t p ≤ t := by
  have := want_mono ht hp
  rw [want_top ht] at this
  exact this
theorem pow_mono {i j : Nat} (h : i ≤ j) (hj : j < 32) : (2 : Int) ^ i ≤ 2 ^ j := by
  have h' : ∀ i j : Fin 32, i.val ≤ j.val → (2 : Int) ^ i.val ≤ 2 ^ j.val := by decide +kernel
  exact h' ⟨i, by omega⟩ ⟨j, hj⟩ h
theorem qu_mono {L : Cs} {p q : Int} (h : pctF p ≤ pctF q) : quF L p ≤ quF L q := by
  unfold quF
  by_cases h0 : preF L 32 ≤ 0
  · rw [if_pos h0, if_pos h0]; exact Int.le_refl _
  · rw [if_neg h0, if_neg h0]
    have hq : pctF q ≤ 100 := by unfold pctF; omega
    have hw := want_mono (t := preF L 32) (p := pctF p) (q := pctF q) (by omega) h
    have hl := want_le (t := preF L 32) (by omega) hq
    have hs := walk_spec L _ hl 32 0 rfl (by omega)
    have := pow_mono (walk_mono hw hl) hs.2.1
    omega
theorem bitsN_mono {a b : Nat} (h : a ≤ b) (hb : b < 2 ^ 64) : bitsN a ≤ bitsN b := by
  have ha := bitsN_spec (n := a) (by omega)
  have hb := bitsN_spec hb
  rcases Nat.lt_or_ge (bitsN b) (bitsN a) with h1 | h1
  · exfalso
    by_cases h0 : a = 0
    · subst h0
      exact absurd h1 (by rw [show bitsN 0 = 0 from by decide]; omega)
    · have h2 := ha.2 h0
      have h3 : 2 ^ bitsN b ≤ 2 ^ (bitsN a - 1) := Nat.pow_le_pow_right (by decide) (by omega)
      omega
  · exact h1
/-- The sizes counted: one more of its own. -/
theorem gI_add {L : Cs} (hl : L.length = 45) (how status size : Int) (j : Nat) (hj : j ≤ 31) : gI (addF L how status size) (12 + j) = gI L (12 + j) + if j = bitsN (sizeF size).toNat then 1 else 0 := by
  have hk := sizeF_bits size
  have lw : (wayF L how).length = 45 := by unfold wayF; split <;> simp [bump_len, hl]
  have lc : (clsF (wayF L how) status).length = 45 := by unfold clsF; split <;> simp [bump_len, lw]
  have ew : gI (wayF L how) (12 + j) = gI L (12 + j) := by
    unfold wayF
    split
    · rw [gI_bump (by omega), if_neg (by omega)]
    · rfl
  have ec : gI (clsF (wayF L how) status) (12 + j) = gI L (12 + j) := by
    unfold clsF
    split
    · rw [gI_bump (by omega), if_neg (by omega), ew]
    · exact ew
  unfold addF
  rw [gI_bump (by rw [bump_len]; omega)]
  by_cases h : j = bitsN (sizeF size).toNat
  · rw [if_pos (by omega), if_pos h, gI_bump (by omega), if_neg (by omega), ← h, ec]
  · rw [if_neg (by omega), if_neg h, gI_bump (by omega), if_neg (by omega), ec]
    omega
def cntF (l : List Int) : Cs := l.foldl (fun L s => addF L 0 200 s) zeroC
def mostF (l : List Int) : Int := l.foldl max 0
theorem cnt_snoc (l : List Int) (s : Int) : cntF (l ++ [s]) = addF (cntF l) 0 200 s := by simp [cntF]
theorem most_snoc (l : List Int) (s : Int) : mostF (l ++ [s]) = max (mostF l) s := by simp [mostF]
theorem snoc_ind {P : List Int → Prop} (h0 : P []) (h1 : ∀ l s, P l → P (l ++ [s])) (l : List Int) : P l := by
  have h : ∀ n (l : List Int), l.length = n → P l := by
    intro n
    induction n with
    | zero => intro l hl; obtain rfl := List.eq_nil_of_length_eq_zero hl; exact h0
    | succ n ih =>
      intro l hl
      have hne : l ≠ [] := fun e => by subst e; cases hl
      rw [← List.dropLast_concat_getLast hne]
      exact h1 _ _ (ih _ (by rw [List.length_dropLast]; omega))
  exact h _ l rfl
theorem cnt_fair (l : List Int) : Fair (cntF l) (l.length * 1073741827) := by
  refine snoc_ind (P := fun l => Fair (cntF l) (l.length * 1073741827)) ?_ ?_ l
  · exact zero_fair.mono (by simp)
  · intro l s h
    rw [cnt_snoc]
    exact (h.add 0 200 s).mono (by rw [List.length_append]; simp only [List.length_cons, List.length_nil]; omega)
def Small (l : List Int) : Prop := ∀ s ∈ l, 0 ≤ s ∧ s < 1073741824
theorem most_in (l : List Int) (h : Small l) : 0 ≤ mostF l ∧ mostF l < 1073741824 := by
  revert h
  refine snoc_ind (P := fun l => Small l → 0 ≤ mostF l ∧ mostF l < 1073741824) ?_ ?_ l
  · intro _; exact ⟨by decide, by decide⟩
  · intro l s ih h
    have h1 := ih (fun x hx => h x (by simp [hx]))
    have h2 := h s (by simp)
    rw [most_snoc]
    omega
theorem cnt_top (l : List Int) (h : Small l) : (∀ j, j ≤ 31 → bitsN (mostF l).toNat < j → gI (cntF l) (12 + j) = 0) ∧ (l ≠ [] → 1 ≤ gI (cntF l) (12 + bitsN (mostF l).toNat)) ∧ (mostF l = 0 ∨ l ≠ []) := by
  revert h
  refine snoc_ind (P := fun l => Small l → (∀ j, j ≤ 31 → bitsN (mostF l).toNat < j → gI (cntF l) (12 + j) = 0) ∧ (l ≠ [] → 1 ≤ gI (cntF l) (12 + bitsN (mostF l).toNat)) ∧ (mostF l = 0 ∨ l ≠ [])) ?_ ?_ l
  · intro _
    refine ⟨fun j _ _ => ?_, fun h => absurd rfl h, .inl rfl⟩
    show gI zeroC _ = 0
    have := zero_fair.pos (12 + j)
    omega
  · intro l s ih h
    have hsm : Small l := fun x hx => h x (by simp [hx])
    obtain ⟨i1, i2, i3⟩ := ih hsm
    have hs := h s (by simp)
    have hm := most_in l hsm
    have hlen := (cnt_fair l).len
    have hse : sizeF s = s := by unfold sizeF; omega
    have e1 : bitsN (mostF l).toNat ≤ bitsN (max (mostF l) s).toNat := bitsN_mono (by omega) (by omega)
    have e2 : bitsN s.toNat ≤ bitsN (max (mostF l) s).toNat := bitsN_mono (by omega) (by omega)
    have e3 : bitsN (max (mostF l) s).toNat ≤ 31 := bitsN_le (by omega)
    rw [cnt_snoc, most_snoc]
    refine ⟨fun j hj hlt => ?_, fun _ => ?_, .inr (by simp)⟩
    · rw [gI_add hlen _ _ _ j hj, hse, if_neg (by omega), i1 j hj (by omega)]
      rfl
    · rw [gI_add hlen _ _ _ _ e3, hse]
      have hp := (cnt_fair l).pos (12 + bitsN (max (mostF l) s).toNat)
      by_cases hms : mostF l ≤ s
      · rw [if_pos (by rw [Int.max_eq_right hms])]
        omega
      · have hne : l ≠ [] := by
          rcases i3 with i3 | i3
          · omega
          · exact i3
        have h1 := i2 hne
        rw [show max (mostF l) s = mostF l by omega]
        split <;> omega
theorem preF_zero {L : Cs} {b : Nat} (h : ∀ j, j ≤ 31 → b < j → gI L (12 + j) = 0) : ∀ k, b + 1 ≤ k → k ≤ 32 → preF L k = preF L (b + 1)
  | 0, h1, _ => absurd h1 (by omega)
  | k + 1, h1, h2 => by
    by_cases hk : k = b
    · subst hk; rfl
    · show preF L k + gI L (12 + k) = _
      rw [h k (by omega) (by omega), preF_zero h k (by omega) (by omega)]
      omega
/-- At a hundred: all the digits of the greatest. -/
theorem qu_top (l : List Int) (h : Small l) (hne : l ≠ []) : quF (cntF l) 100 = 2 ^ bitsN (mostF l).toNat - 1 := by
  obtain ⟨h1, h2, _⟩ := cnt_top l h
  have h2 := h2 hne
  have hm := most_in l h
  have hf := cnt_fair l
  obtain ⟨b, hb⟩ : ∃ b, bitsN (mostF l).toNat = b := ⟨_, rfl⟩
  have hb31 : b ≤ 31 := by rw [← hb]; exact bitsN_le (by omega)
  rw [hb] at h1 h2 ⊢
  obtain ⟨L, hL⟩ : ∃ L, cntF l = L := ⟨_, rfl⟩
  rw [hL] at h1 h2 hf ⊢
  have ht : preF L 32 = preF L (b + 1) := preF_zero h1 32 (by omega) (by omega)
  have hb0 := (preF_bd hf b).1
  have hst : preF L (b + 1) = preF L b + gI L (12 + b) := rfl
  unfold quF
  rw [if_neg (by omega), show pctF 100 = 100 from by decide, want_top (by omega)]
  have hs := walk_spec L (preF L 32) (Int.le_refl _) 32 0 rfl (by omega)
  obtain ⟨i, hi⟩ : ∃ i, walkF L (preF L 32) 32 0 = i := ⟨_, rfl⟩
  rw [hi] at hs ⊢
  have hib : i = b := by
    rcases Nat.lt_trichotomy i b with hlt | heq | hgt
    · have := preF_mono hf (i := i + 1) (j := b) (by omega)
      have := hs.2.2.1
      omega
    · exact heq
    · have := hs.2.2.2 b (Nat.zero_le _) hgt
      omega
  rw [hib]
theorem qu_top_bd (l : List Int) (h : Small l) (hne : l ≠ []) : mostF l ≤ quF (cntF l) 100 ∧ quF (cntF l) 100 ≤ 2 * mostF l := by
  rw [qu_top l h hne]
  have hm := most_in l h
  obtain ⟨m, hm'⟩ : ∃ m : Nat, mostF l = (m : Int) := ⟨(mostF l).toNat, by omega⟩
  rw [hm', Int.toNat_natCast]
  have hs := bitsN_spec (n := m) (by omega)
  have hc : ((2 ^ bitsN m : Nat) : Int) = (2 : Int) ^ bitsN m := by simp
  rw [← hc]
  by_cases h0 : m = 0
  · subst h0
    exact ⟨by decide, by decide⟩
  · have h2 := hs.2 h0
    have h3 : 1 ≤ bitsN m := by
      rcases Nat.eq_zero_or_pos (bitsN m) with h | h
      · have := hs.1
        rw [h] at this
        omega
      · exact h
    obtain ⟨b, hb⟩ : ∃ b, bitsN m = b + 1 := ⟨bitsN m - 1, by omega⟩
    rw [hb] at hs h2 ⊢
    have hp : 2 ^ (b + 1) = 2 ^ b * 2 := Nat.pow_succ _ _
    have h1 := hs.1
    rw [Nat.add_sub_cancel] at h2
    generalize 2 ^ b = P at *
    omega
end Go.Proofs.YtdppmmoidofgmaaDoor
