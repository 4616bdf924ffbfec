/-
  A text's words: the spans by runes are the spans by bytes.
-/
import Derived.Lib.FieldsP
import Derived.Lib.SpaceUEq
import Derived.Lib.MapLaws
import Derived.Lib.TrimU
import Derived.Test.YtjdiaighfhljgaaDoorSpares
namespace Go.Proofs.YtjdiaighfhljgaaDoor

def blankR (r : Nat) : Bool := r == 32 || r == 9
def spansB (s : ByteArray) : Nat → Nat → Option Nat → List (Nat × Nat) → List (Nat × Nat) × Option Nat
  | 0, _, st, acc => (acc, st)
  | f + 1, pos, st, acc =>
    if pos < s.size then
      (if blankR (s.get! pos).toNat then
        (match st with
         | some a => spansB s f (pos + 1) none (acc ++ [(a, pos)])
         | none => spansB s f (pos + 1) none acc)
       else spansB s f (pos + 1) (some (st.getD pos)) acc)
    else (acc, st)
theorem spansB_end (s : ByteArray) (f pos : Nat) (st : Option Nat) (acc : List (Nat × Nat)) (h : ¬ pos < s.size) : spansB s f pos st acc = (acc, st) := by
  cases f with
  | zero => rfl
  | succ f => simp [spansB, h]
theorem spansB_plain (s : ByteArray) (f pos : Nat) (st : Option Nat) (acc : List (Nat × Nat)) (h : pos < s.size) (hb : blankR (s.get! pos).toNat = false) : spansB s (f + 1) pos st acc = spansB s f (pos + 1) (some (st.getD pos)) acc := by
  cases st <;> (rw [spansB, if_pos h, hb]; rfl)
theorem spansB_blank (s : ByteArray) (f pos : Nat) (acc : List (Nat × Nat)) (h : pos < s.size) (hb : blankR (s.get! pos).toNat = true) : spansB s (f + 1) pos none acc = spansB s f (pos + 1) none acc := by
  rw [spansB, if_pos h, hb]; rfl
theorem spansB_close (s : ByteArray) (f pos a : Nat) (acc : List (Nat × Nat)) (h : pos < s.size) (hb : blankR (s.get! pos).toNat = true) : spansB s (f + 1) pos (some a) acc = spansB s f (pos + 1) none (acc ++ [(a, pos)]) := by
  rw [spansB, if_pos h, hb]; rfl
theorem spansB_skip (s : ByteArray) : ∀ (k f pos : Nat) (st : Option Nat) (acc : List (Nat × Nat)), pos + (k + 1) ≤ s.size → (∀ j, j < k + 1 → blankR (s.get! (pos + j)).toNat = false) → spansB s (f + (k + 1)) pos st acc = spansB s f (pos + (k + 1)) (some (st.getD pos)) acc
  | 0, f, pos, st, acc, h, hz => spansB_plain s f pos st acc (by omega) (hz 0 (by omega))
  | k + 1, f, pos, st, acc, h, hz => by
    have h0 := hz 0 (by omega)
    rw [show f + (k + 1 + 1) = (f + (k + 1)) + 1 by omega, spansB_plain s _ pos st acc (by omega) h0, spansB_skip s k f (pos + 1) _ acc (by omega) (fun j hj => by have := hz (j + 1) (by omega); rwa [show pos + (j + 1) = pos + 1 + j by omega] at this)]
    rw [show pos + 1 + (k + 1) = pos + (k + 1 + 1) by omega]
    rfl
theorem blank_small {r : Nat} (h : blankR r = true) : r < 128 := by
  unfold blankR at h
  simp at h
  omega
theorem blank_great {r : Nat} (h : 128 ≤ r) : blankR r = false := by
  cases hb : blankR r with
  | false => rfl
  | true => have := blank_small hb; omega
/-- A blank rune is its byte. -/
theorem rune_blank (s : ByteArray) (pos : Nat) (hb : blankR (Utf8.decode s pos).1 = true) : (Utf8.decode s pos).2 = 1 ∧ blankR (s.get! pos).toNat = true := by
  have hs := blank_small hb
  rw [Lib.decode_at] at hb hs ⊢
  rcases Lib.decodeN_shape (s.size - pos) (s.get! pos).toNat (s.get! (pos + 1)).toNat (s.get! (pos + 2)).toNat (s.get! (pos + 3)).toNat with ⟨h1, h2⟩ | ⟨h1, _, _, h3, h2⟩ | ⟨h1, _, _, _, h3, _, h2⟩ | ⟨h1, _, _, _, _, h3, _, h2⟩ | h2
  · rw [h2] at hb ⊢; exact ⟨rfl, hb⟩
  · rw [h2] at hs; simp only at hs; omega
  · rw [h2] at hs; simp only at hs; omega
  · rw [h2] at hs; simp only at hs; omega
  · rw [h2] at hs; simp only at hs; omega
/-- Another rune's bytes are no blanks. -/
theorem rune_plain (s : ByteArray) (pos : Nat) (hp : pos < s.size) (hb : blankR (Utf8.decode s pos).1 = false) : pos + (Utf8.decode s pos).2 ≤ s.size ∧ ∀ j, j < (Utf8.decode s pos).2 → blankR (s.get! (pos + j)).toNat = false := by
  have hle := Lib.decodeN_le_n' (s.size - pos) (s.get! pos).toNat (s.get! (pos + 1)).toNat (s.get! (pos + 2)).toNat (s.get! (pos + 3)).toNat (by omega)
  have hc := Lib.decodeN_conts (s.size - pos) (s.get! pos).toNat (s.get! (pos + 1)).toNat (s.get! (pos + 2)).toNat (s.get! (pos + 3)).toNat
  have hsh := Lib.decodeN_shape (s.size - pos) (s.get! pos).toNat (s.get! (pos + 1)).toNat (s.get! (pos + 2)).toNat (s.get! (pos + 3)).toNat
  rw [← Lib.decode_at] at hle hc hsh
  refine ⟨by omega, fun j hj => ?_⟩
  obtain ⟨c1, c2, c3, c4⟩ := hc
  match j, hj with
  | 0, _ =>
    rw [Nat.add_zero]
    by_cases h : (s.get! pos).toNat < 128
    · rcases hsh with ⟨_, h2⟩ | ⟨h1, _⟩ | ⟨h1, _⟩ | ⟨h1, _⟩ | h2
      · rw [h2] at hb; exact hb
      · omega
      · omega
      · omega
      · rw [Lib.decode_at] at h2
        unfold Lib.decodeN at h2
        rw [if_pos h] at h2
        have := congrArg Prod.fst h2
        simp only at this
        omega
    · exact blank_great (by omega)
  | 1, hj => exact blank_great (by have := (c1 (by omega)).1; omega)
  | 2, hj => exact blank_great (by have := (c2 (by omega)).1; omega)
  | 3, hj => exact blank_great (by have := (c3 (by omega)).1; omega)
  | j + 4, hj => omega
theorem spans_same (s : ByteArray) : ∀ (n f f' pos : Nat) (st : Option Nat) (acc : List (Nat × Nat)), s.size - pos ≤ n → s.size ≤ pos + f → s.size ≤ pos + f' → Lib.spansFromP blankR s f pos st acc = spansB s f' pos st acc := by
  intro n
  induction n with
  | zero =>
    intro f f' pos st acc hn hf hf'
    rw [Lib.spansFromP_end _ _ _ _ _ _ (by omega), spansB_end _ _ _ _ _ (by omega)]
  | succ n ih =>
    intro f f' pos st acc hn hf hf'
    by_cases hp : pos < s.size
    · obtain ⟨g, rfl⟩ : ∃ g, f = g + 1 := ⟨f - 1, by omega⟩
      cases hb : blankR (Utf8.decode s pos).1 with
      | true =>
        obtain ⟨h1, h2⟩ := rune_blank s pos hb
        obtain ⟨g', rfl⟩ : ∃ g', f' = g' + 1 := ⟨f' - 1, by omega⟩
        cases st with
        | none => rw [Lib.spansFromP, if_pos hp, if_pos hb, h1, spansB_blank s g' pos acc hp h2]; exact ih _ _ _ _ _ (by omega) (by omega) (by omega)
        | some a => rw [Lib.spansFromP, if_pos hp, if_pos hb, h1, spansB_close s g' pos a acc hp h2]; exact ih _ _ _ _ _ (by omega) (by omega) (by omega)
      | false =>
        obtain ⟨h1, h2⟩ := rune_plain s pos hp hb
        have h3 := Lib.width_pos s pos
        obtain ⟨k, hk⟩ : ∃ k, (Utf8.decode s pos).2 = k + 1 := ⟨(Utf8.decode s pos).2 - 1, by omega⟩
        rw [hk] at h1 h2
        obtain ⟨g', rfl⟩ : ∃ g', f' = g' + (k + 1) := ⟨f' - (k + 1), by omega⟩
        rw [spansB_skip s k g' pos st acc h1 h2]
        cases st with
        | none => rw [Lib.spansFromP, if_pos hp, if_neg (by rw [hb]; simp), hk]; exact ih _ _ _ _ _ (by omega) (by omega) (by omega)
        | some a => rw [Lib.spansFromP, if_pos hp, if_neg (by rw [hb]; simp), hk]; exact ih _ _ _ _ _ (by omega) (by omega) (by omega)
    · rw [Lib.spansFromP_end _ _ _ _ _ _ hp, spansB_end _ _ _ _ _ hp]
/-- A text's words. -/
def cutsOf (s : ByteArray) (l : List (Nat × Nat)) : List ByteArray := l.map fun x => s.extract x.1 x.2
def wordsL (s : ByteArray) : List ByteArray := cutsOf s (Lib.closeSpans s (spansB s s.size 0 none []))
theorem words_goes (s : ByteArray) : Lib.goFieldsP blankR s = wordsL s := by
  unfold Lib.goFieldsP Lib.spansOfP wordsL cutsOf
  rw [spans_same s s.size s.size s.size 0 none [] (by omega) (by omega) (by omega)]
theorem get_at (s : ByteArray) (k : Nat) (h : k < s.size) : s.get! k = s[k] := by
  show s.data[k]! = _
  exact getElem!_pos s.data k h
end Go.Proofs.YtjdiaighfhljgaaDoor
