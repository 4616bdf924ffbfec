/-
  A text's words: the spans by runes are the spans by bytes.
  A text's words, as lists; the words of words with blanks between.
-/
import Derived.Lib.FieldsP
import Derived.Lib.SpaceUEq
import Derived.Lib.MapLaws
import Derived.Lib.TrimU
import Derived.Test.YthdolhfaiofogaaMg0
namespace Go.Proofs.Ythdolhfaiofogaa

def blankR (r : Nat) : Bool := r == 32 || r == 9
def spansB (s : ByteArray) : Nat → Nat → Option Nat → List (Nat × Nat) → List (Nat × Nat) × Option Nat
  | 0, _, st, acc => (acc, st)
  | f + 1, pos, st, acc =>
    if pos < s.size then
      (if blankR (s.get! pos).toNat then
        (match st with
         | some a => spansB s f (pos + 1) none (acc ++ [(a, pos)])
         | none => spansB s f (pos + 1) none acc)
       else spansB s f (pos + 1) (some (st.getD pos)) acc)
    else (acc, st)
theorem spansB_end (s : ByteArray) (f pos : Nat) (st : Option Nat) (acc : List (Nat × Nat)) (h : ¬ pos < s.size) : spansB s f pos st acc = (acc, st) := by
  cases f with
  | zero => rfl
  | succ f => simp [spansB, h]
theorem spansB_plain (s : ByteArray) (f pos : Nat) (st : Option Nat) (acc : List (Nat × Nat)) (h : pos < s.size) (hb : blankR (s.get! pos).toNat = false) : spansB s (f + 1) pos st acc = spansB s f (pos + 1) (some (st.getD pos)) acc := by
  cases st <;> (rw [spansB, if_pos h, hb]; rfl)
theorem spansB_blank (s : ByteArray) (f pos : Nat) (acc : List (Nat × Nat)) (h : pos < s.size) (hb : blankR (s.get! pos).toNat = true) : spansB s (f + 1) pos none acc = spansB s f (pos + 1) none acc := by
  rw [spansB, if_pos h, hb]; rfl
theorem spansB_close (s : ByteArray) (f pos a : Nat) (acc : List (Nat × Nat)) (h : pos < s.size) (hb : blankR (s.get! pos).toNat = true) : spansB s (f + 1) pos (some a) acc = spansB s f (pos + 1) none (acc ++ [(a, pos)]) := by
  rw [spansB, if_pos h, hb]; rfl
theorem spansB_skip (s : ByteArray) : ∀ (k f pos : Nat) (st : Option Nat) (acc : List (Nat × Nat)), pos + (k + 1) ≤ s.size → (∀ j, j < k + 1 → blankR (s.get! (pos + j)).toNat = false) → spansB s (f + (k + 1)) pos st acc = spansB s f (pos + (k + 1)) (some (st.getD pos)) acc
  | 0, f, pos, st, acc, h, hz => spansB_plain s f pos st acc (by omega) (hz 0 (by omega))
  | k + 1, f, pos, st, acc, h, hz => by
    have h0 := hz 0 (by omega)
    rw [show f + (k + 1 + 1) = (f + (k + 1)) + 1 by omega, spansB_plain s _ pos st acc (by omega) h0, spansB_skip s k f (pos + 1) _ acc (by omega) (fun j hj => by have := hz (j + 1) (by omega); rwa [show pos + (j + 1) = pos + 1 + j by omega] at this)]
    rw [show pos + 1 + (k + 1) = pos + (k + 1 + 1) by omega]
    rfl
theorem blank_small {r : Nat} (h : blankR r = true) : r < 128 := by
  unfold blankR at h
  simp at h
  omega
theorem blank_great {r : Nat} (h : 128 ≤ r) : blankR r = false := by
  cases hb : blankR r with
  | false => rfl
  | true => have := blank_small hb; omega
/-- A blank rune is its byte. -/
theorem rune_blank (s : ByteArray) (pos : Nat) (hb : blankR (Utf8.decode s pos).1 = true) : (Utf8.decode s pos).2 = 1 ∧ blankR (s.get! pos).toNat = true := by
  have hs := blank_small hb
  rw [Lib.decode_at] at hb hs ⊢
  rcases Lib.decodeN_shape (s.size - pos) (s.get! pos).toNat (s.get! (pos + 1)).toNat (s.get! (pos + 2)).toNat (s.get! (pos + 3)).toNat with ⟨h1, h2⟩ | ⟨h1, _, _, h3, h2⟩ | ⟨h1, _, _, _, h3, _, h2⟩ | ⟨h1, _, _, _, _, h3, _, h2⟩ | h2
  · rw [h2] at hb ⊢; exact ⟨rfl, hb⟩
  · rw [h2] at hs; simp only at hs; omega
  · rw [h2] at hs; simp only at hs; omega
  · rw [h2] at hs; simp only at hs; omega
  · rw [h2] at hs; simp only at hs; omega
/-- Another rune's bytes are no blanks. -/
theorem rune_plain (s : ByteArray) (pos : Nat) (hp : pos < s.size) (hb : blankR (Utf8.decode s pos).1 = false) : pos + (Utf8.decode s pos).2 ≤ s.size ∧ ∀ j, j < (Utf8.decode s pos).2 → blankR (s.get! (pos + j)).toNat = false := by
  have hle := Lib.decodeN_le_n' (s.size - pos) (s.get! pos).toNat (s.get! (pos + 1)).toNat (s.get! (pos + 2)).toNat (s.get! (pos + 3)).toNat (by omega)
  have hc := Lib.decodeN_conts (s.size - pos) (s.get! pos).toNat (s.get! (pos + 1)).toNat (s.get! (pos + 2)).toNat (s.get! (pos + 3)).toNat
  have hsh := Lib.decodeN_shape (s.size - pos) (s.get! pos).toNat (s.get! (pos + 1)).toNat (s.get! (pos + 2)).toNat (s.get! (pos + 3)).toNat
  rw [← Lib.decode_at] at hle hc hsh
  refine ⟨by omega, fun j hj => ?_⟩
  obtain ⟨c1, c2, c3, c4⟩ := hc
  match j, hj with
  | 0, _ =>
    rw [Nat.add_zero]
    by_cases h : (s.get! pos).toNat < 128
    · rcases hsh with ⟨_, h2⟩ | ⟨h1, _⟩ | ⟨h1, _⟩ | ⟨h1, _⟩ | h2
      · rw [h2] at hb; exact hb
      · omega
      · omega
      · omega
      · rw [Lib.decode_at] at h2
        unfold Lib.decodeN at h2
        rw [if_pos h] at h2
        have := congrArg Prod.fst h2
        simp only at this
        omega
    · exact blank_great (by omega)
  | 1, hj => exact blank_great (by have := (c1 (by omega)).1; omega)
  | 2, hj => exact blank_great (by have := (c2 (by omega)).1; omega)
  | 3, hj => exact blank_great (by have := (c3 (by omega)).1; omega)
  | j + 4, hj => omega
theorem spans_same (s : ByteArray) : ∀ (n f f' pos : Nat) (st : Option Nat) (acc : List (Nat × Nat)), s.size - pos ≤ n → s.size ≤ pos + f → s.size ≤ pos + f' → Lib.spansFromP blankR s f pos st acc = spansB s f' pos st acc := by
  intro n
  induction n with
  | zero =>
    intro f f' pos st acc hn hf hf'
    rw [Lib.spansFromP_end _ _ _ _ _ _ (by omega), spansB_end _ _ _ _ _ (by omega)]
  | succ n ih =>
    intro f f' pos st acc hn hf hf'
    by_cases hp : pos < s.size
    · obtain ⟨g, rfl⟩ : ∃ g, f = g + 1 := ⟨f - 1, by omega⟩
      cases hb : blankR (Utf8.decode s pos).1 with
      | true =>
        obtain ⟨h1, h2⟩ := rune_blank s pos hb
        obtain ⟨g', rfl⟩ : ∃ g', f' = g' + 1 := ⟨f' - 1, by omega⟩
        cases st with
        | none => rw [Lib.spansFromP, if_pos hp, if_pos hb, h1, spansB_blank s g' pos acc hp h2]; exact ih _ _ _ _ _ (by omega) (by omega) (by omega)
        | some a => rw [Lib.spansFromP, if_pos hp, if_pos hb, h1, spansB_close s g' pos a acc hp h2]; exact ih _ _ _ _ _ (by omega) (by omega) (by omega)
      | false =>
        obtain ⟨h1, h2⟩ := rune_plain s pos hp hb
        have h3 := Lib.width_pos s pos
        obtain ⟨k, hk⟩ : ∃ k, (Utf8.decode s pos).2 = k + 1 := ⟨(Utf8.decode s pos).2 - 1, by omega⟩
        rw [hk] at h1 h2
        obtain ⟨g', rfl⟩ : ∃ g', f' = g' + (k + 1) := ⟨f' - (k + 1), by omega⟩
        rw [spansB_skip s k g' pos st acc h1 h2]
        cases st with
        | none => rw [Lib.spansFromP, if_pos hp, if_neg (by rw [hb]; simp), hk]; exact ih _ _ _ _ _ (by omega) (by omega) (by omega)
        | some a => rw [Lib.spansFromP, if_pos hp, if_neg (by rw [hb]; simp), hk]; exact ih _ _ _ _ _ (by omega) (by omega) (by omega)
    · rw [Lib.spansFromP_end _ _ _ _ _ _ hp, spansB_end _ _ _ _ _ hp]
/-- A text's words. -/
def cutsOf (s : ByteArray) (l : List (Nat × Nat)) : List ByteArray := l.map fun x => s.extract x.1 x.2
def wordsL (s : ByteArray) : List ByteArray := cutsOf s (Lib.closeSpans s (spansB s s.size 0 none []))
theorem words_goes (s : ByteArray) : Lib.goFieldsP blankR s = wordsL s := by
  unfold Lib.goFieldsP Lib.spansOfP wordsL cutsOf
  rw [spans_same s s.size s.size s.size 0 none [] (by omega) (by omega) (by omega)]
/-- The scan at a place. -/
def WordsInv (s : ByteArray) (k : Nat) (R : List ByteArray) (z : Int) : Prop :=
  (k ≤ s.size ∧ ∃ (st : Option Nat) (acc : List (Nat × Nat)), z = (match st with | none => -1 | some a => (a : Int)) ∧ (∀ a, st = some a → a < k) ∧ R = cutsOf s acc ∧ spansB s (s.size - k) k st acc = spansB s s.size 0 none []) ∨
  (k = s.size + 1 ∧ z = -1 ∧ R = wordsL s)
theorem words_zero (s : ByteArray) : WordsInv s 0 [] (-1) := .inl ⟨Nat.zero_le _, none, [], rfl, (fun a h => by cases h), rfl, rfl⟩
theorem get_at (s : ByteArray) (k : Nat) (h : k < s.size) : s.get! k = s[k] := by
  show s.data[k]! = _
  exact getElem!_pos s.data k h
theorem words_in {s : ByteArray} {k : Nat} {R : List ByteArray} {z : Int} (h : WordsInv s k R z) (hk : k ≤ s.size) : z = -1 ∨ ∃ a : Nat, z = a ∧ a < k := by
  rcases h with ⟨_, st, acc, h1, h2, _⟩ | ⟨h1, _⟩
  · cases st with
    | none => exact .inl h1
    | some a => exact .inr ⟨a, h1, h2 a rfl⟩
  · omega
theorem words_plain {s : ByteArray} {k : Nat} {R : List ByteArray} (hk : k < s.size) (hb : blankR s[k].toNat = false) (h : WordsInv s k R (-1)) : WordsInv s (k + 1) R k := by
  rcases h with ⟨_, st, acc, h1, h2, h3, h4⟩ | ⟨h1, _⟩
  · cases st with
    | some a => have h1' : (-1 : Int) = (a : Int) := h1; omega
    | none =>
      refine .inl ⟨hk, some k, acc, rfl, (fun a ha => by cases ha; omega), h3, ?_⟩
      rw [← h4, show s.size - k = (s.size - (k + 1)) + 1 by omega, spansB_plain s _ k none acc hk (by rw [get_at s k hk]; exact hb)]
      rfl
  · omega
theorem words_on {s : ByteArray} {k a : Nat} {R : List ByteArray} (hk : k < s.size) (hb : blankR s[k].toNat = false) (h : WordsInv s k R (a : Int)) : WordsInv s (k + 1) R a := by
  rcases h with ⟨_, st, acc, h1, h2, h3, h4⟩ | ⟨h1, _⟩
  · cases st with
    | none => have h1' : (a : Int) = -1 := h1; omega
    | some b =>
      obtain rfl : a = b := by have h1' : (a : Int) = (b : Int) := h1; omega
      refine .inl ⟨hk, some a, acc, rfl, (fun c hc => by cases hc; have := h2 a rfl; omega), h3, ?_⟩
      rw [← h4, show s.size - k = (s.size - (k + 1)) + 1 by omega, spansB_plain s _ k (some a) acc hk (by rw [get_at s k hk]; exact hb)]
      rfl
  · omega
theorem words_blank {s : ByteArray} {k : Nat} {R : List ByteArray} (hk : k < s.size) (hb : blankR s[k].toNat = true) (h : WordsInv s k R (-1)) : WordsInv s (k + 1) R (-1) := by
  rcases h with ⟨_, st, acc, h1, h2, h3, h4⟩ | ⟨h1, _⟩
  · cases st with
    | some a => have h1' : (-1 : Int) = (a : Int) := h1; omega
    | none =>
      refine .inl ⟨hk, none, acc, rfl, (fun a ha => by cases ha), h3, ?_⟩
      rw [← h4, show s.size - k = (s.size - (k + 1)) + 1 by omega, spansB_blank s _ k acc hk (by rw [get_at s k hk]; exact hb)]
  · omega
theorem words_close {s : ByteArray} {k a : Nat} {R : List ByteArray} (hk : k < s.size) (hb : blankR s[k].toNat = true) (h : WordsInv s k R (a : Int)) : WordsInv s (k + 1) (R ++ [s.extract a k]) (-1) := by
  rcases h with ⟨_, st, acc, h1, h2, h3, h4⟩ | ⟨h1, _⟩
  · cases st with
    | none => have h1' : (a : Int) = -1 := h1; omega
    | some b =>
      obtain rfl : a = b := by have h1' : (a : Int) = (b : Int) := h1; omega
      refine .inl ⟨hk, none, acc ++ [(a, k)], rfl, (fun c hc => by cases hc), by rw [h3]; simp [cutsOf], ?_⟩
      rw [← h4, show s.size - k = (s.size - (k + 1)) + 1 by omega, spansB_close s _ k a acc hk (by rw [get_at s k hk]; exact hb)]
  · omega
theorem words_last {s : ByteArray} {k : Nat} {R : List ByteArray} (hk : k = s.size) (h : WordsInv s k R (-1)) : WordsInv s (k + 1) R (-1) := by
  subst hk
  rcases h with ⟨_, st, acc, h1, h2, h3, h4⟩ | ⟨h1, _⟩
  · cases st with
    | some a => have h1' : (-1 : Int) = (a : Int) := h1; omega
    | none =>
      refine .inr ⟨rfl, rfl, ?_⟩
      rw [h3, wordsL, ← h4, spansB_end s _ _ _ _ (by omega)]
      rfl
  · omega
theorem words_lastClose {s : ByteArray} {k a : Nat} {R : List ByteArray} (hk : k = s.size) (h : WordsInv s k R (a : Int)) : WordsInv s (k + 1) (R ++ [s.extract a k]) (-1) := by
  subst hk
  rcases h with ⟨_, st, acc, h1, h2, h3, h4⟩ | ⟨h1, _⟩
  · cases st with
    | none => have h1' : (a : Int) = -1 := h1; omega
    | some b =>
      obtain rfl : a = b := by have h1' : (a : Int) = (b : Int) := h1; omega
      refine .inr ⟨rfl, rfl, ?_⟩
      rw [h3, wordsL, ← h4, spansB_end s _ _ _ _ (by omega)]
      simp [cutsOf, Lib.closeSpans]
  · omega
theorem words_done {s : ByteArray} {k : Nat} {R : List ByteArray} {z : Int} (hk : ¬ k ≤ s.size) (h : WordsInv s k R z) : R = wordsL s := by
  rcases h with ⟨h1, _⟩ | ⟨_, _, h2⟩
  · exact absurd h1 hk
  · exact h2
end Go.Proofs.Ythdolhfaiofogaa
namespace Go.Proofs.Ythdolhfaiofogaa

def wl : List UInt8 → List UInt8 → List (List UInt8)
  | [], cur => if cur.isEmpty then [] else [cur]
  | c :: r, cur => if blankR c.toNat then (if cur.isEmpty then wl r [] else cur :: wl r []) else wl r (cur ++ [c])
def plainL (w : List UInt8) : Prop := ∀ c ∈ w, blankR c.toNat = false
theorem wl_word : ∀ (w r cur : List UInt8), plainL w → wl (w ++ r) cur = wl r (cur ++ w)
  | [], r, cur, _ => by simp
  | c :: w, r, cur, h => by
    have hc : blankR c.toNat = false := h c (by simp)
    rw [List.cons_append, wl, hc, if_neg (by simp), wl_word w r (cur ++ [c]) (fun x hx => h x (by simp [hx]))]
    simp
theorem wl_sep {c : UInt8} (hc : blankR c.toNat = true) (r cur : List UInt8) (h : cur ≠ []) : wl (c :: r) cur = cur :: wl r [] := by
  rw [wl, if_pos hc, if_neg (by simpa using h)]
theorem wl_one {w : List UInt8} (h : plainL w) (hn : w ≠ []) : wl w [] = [w] := by
  have := wl_word w [] [] h
  rw [List.append_nil, List.nil_append] at this
  rw [this, wl, if_neg (by simpa using hn)]
theorem wl_cons {w : List UInt8} {c : UInt8} (h : plainL w) (hn : w ≠ []) (hc : blankR c.toNat = true) (r : List UInt8) : wl (w ++ c :: r) [] = w :: wl r [] := by
  rw [wl_word w (c :: r) [] h, List.nil_append, wl_sep hc r w hn]
theorem wl_good : ∀ (s cur : List UInt8), plainL cur → ∀ w ∈ wl s cur, plainL w ∧ w ≠ []
  | [], cur, hc, w, hw => by
    rw [wl] at hw
    split at hw
    · cases hw
    · rename_i he
      obtain rfl : w = cur := by simpa using hw
      exact ⟨hc, by simpa using he⟩
  | c :: r, cur, hc, w, hw => by
    rw [wl] at hw
    split at hw
    · split at hw
      · exact wl_good r [] (fun _ h => by cases h) w hw
      · rename_i he
        rcases List.mem_cons.1 hw with rfl | hw
        · exact ⟨hc, by simpa using he⟩
        · exact wl_good r [] (fun _ h => by cases h) w hw
    · rename_i hb
      refine wl_good r (cur ++ [c]) (fun x hx => ?_) w hw
      rcases List.mem_append.1 hx with h | h
      · exact hc x h
      · obtain rfl : x = c := by simpa using h
        simpa using hb
theorem words_list_aux (s : ByteArray) : ∀ (f pos : Nat) (st : Option Nat) (acc : List (Nat × Nat)), s.size - pos ≤ f → pos ≤ s.size → (∀ a, st = some a → a < pos) →
    (cutsOf s (Lib.closeSpans s (spansB s f pos st acc))).map (·.data.toList) = (cutsOf s acc).map (·.data.toList) ++ wl (s.data.toList.drop pos) (match st with | none => [] | some a => (s.data.toList.drop a).take (pos - a)) := by
  intro f
  induction f with
  | zero =>
    intro pos st acc hf hp hst
    have he : pos = s.size := by omega
    subst he
    have hd : s.data.toList.drop s.size = [] := List.drop_of_length_le (by simp)
    rw [hd]
    cases st with
    | none => simp [spansB, Lib.closeSpans, wl]
    | some a =>
      have ha := hst a rfl
      have hne : ((s.data.toList.drop a).take (s.size - a)).isEmpty = false := by
        rw [List.isEmpty_eq_false_iff]
        intro h
        have := congrArg List.length h
        simp at this
        omega
      show List.map _ (cutsOf s (Lib.closeSpans s (acc, some a))) = _
      rw [wl, hne]
      simp [Lib.closeSpans, cutsOf]
  | succ f ih =>
    intro pos st acc hf hp hst
    by_cases hlt : pos < s.size
    · have hd : s.data.toList.drop pos = s[pos] :: s.data.toList.drop (pos + 1) := by
        rw [List.drop_eq_getElem_cons (by simpa using hlt)]; rfl
      rw [hd]
      cases hb : blankR (s.get! pos).toNat with
      | true =>
        have hb' : blankR s[pos].toNat = true := by rw [← get_at s pos hlt]; exact hb
        cases st with
        | none =>
          rw [spansB_blank s f pos acc hlt hb, ih (pos + 1) none acc (by omega) (by omega) (fun a h => by cases h), wl, if_pos hb']
          rfl
        | some a =>
          have ha := hst a rfl
          have hne : ((s.data.toList.drop a).take (pos - a)) ≠ [] := by
            intro h
            have := congrArg List.length h
            simp at this
            omega
          rw [spansB_close s f pos a acc hlt hb, ih (pos + 1) none _ (by omega) (by omega) (fun a h => by cases h), wl_sep hb' _ _ hne]
          simp [cutsOf]
      | false =>
        have hb' : blankR s[pos].toNat = false := by rw [← get_at s pos hlt]; exact hb
        rw [spansB_plain s f pos st acc hlt hb, ih (pos + 1) _ acc (by omega) (by omega) (fun a h => by
          injection h with h
          cases st with
          | none => simp at h; omega
          | some b => simp at h; have := hst b rfl; omega), wl, hb', if_neg (by simp)]
        congr 2
        cases st with
        | none =>
          show (s.data.toList.drop pos).take (pos + 1 - pos) = _
          rw [hd, show pos + 1 - pos = 1 by omega]
          rfl
        | some a =>
          have ha := hst a rfl
          show (s.data.toList.drop a).take (pos + 1 - a) = (s.data.toList.drop a).take (pos - a) ++ [s[pos]]
          rw [show pos + 1 - a = (pos - a) + 1 by omega, List.take_add, List.drop_drop, show a + (pos - a) = pos by omega, hd]
          rfl
    · have he : pos = s.size := by omega
      subst he
      rw [spansB_end s _ _ _ _ hlt]
      have := ih s.size st acc (by omega) (by omega) hst
      rwa [spansB_end s _ _ _ _ hlt] at this
theorem words_list (s : ByteArray) : (wordsL s).map (·.data.toList) = wl s.data.toList [] := by
  have := words_list_aux s s.size 0 none [] (by omega) (by omega) (fun a h => by cases h)
  simpa [wordsL, cutsOf] using this
theorem bytes_inj {a b : ByteArray} (h : a.data.toList = b.data.toList) : a = b := by
  cases a; cases b
  simp at h
  rw [h]
theorem map_inj : ∀ {L M : List ByteArray}, L.map (·.data.toList) = M.map (·.data.toList) → L = M
  | [], [], _ => rfl
  | [], _ :: _, h => by cases h
  | _ :: _, [], h => by cases h
  | a :: L, b :: M, h => by
    simp only [List.map_cons, List.cons.injEq] at h
    rw [bytes_inj h.1, map_inj h.2]
theorem words_good {s w : ByteArray} (h : w ∈ wordsL s) : plainL w.data.toList ∧ w.data.toList ≠ [] := by
  have : w.data.toList ∈ wl s.data.toList [] := by rw [← words_list]; exact List.mem_map_of_mem h
  exact wl_good _ _ (fun _ h => by cases h) _ this
end Go.Proofs.Ythdolhfaiofogaa
