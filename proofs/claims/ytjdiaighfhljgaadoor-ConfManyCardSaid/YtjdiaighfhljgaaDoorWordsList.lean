/-
  A text's words, as lists; the words of words with blanks between.
-/
import Derived.Test.YtjdiaighfhljgaaDoorWordsMath
namespace Go.Proofs.YtjdiaighfhljgaaDoor

def wl : List UInt8 → List UInt8 → List (List UInt8)
  | [], cur => if cur.isEmpty then [] else [cur]
  | c :: r, cur => if blankR c.toNat then (if cur.isEmpty then wl r [] else cur :: wl r []) else wl r (cur ++ [c])
def plainL (w : List UInt8) : Prop := ∀ c ∈ w, blankR c.toNat = false
theorem wl_word : ∀ (w r cur : List UInt8), plainL w → wl (w ++ r) cur = wl r (cur ++ w)
  | [], r, cur, _ => by simp
  | c :: w, r, cur, h => by
    have hc : blankR c.toNat = false := h c (by simp)
    rw [List.cons_append, wl, hc, if_neg (by simp), wl_word w r (cur ++ [c]) (fun x hx => h x (by simp [hx]))]
    simp
theorem wl_sep {c : UInt8} (hc : blankR c.toNat = true) (r cur : List UInt8) (h : cur ≠ []) : wl (c :: r) cur = cur :: wl r [] := by
  rw [wl, if_pos hc, if_neg (by simpa using h)]
theorem wl_one {w : List UInt8} (h : plainL w) (hn : w ≠ []) : wl w [] = [w] := by
  have := wl_word w [] [] h
  rw [List.append_nil, List.nil_append] at this
  rw [this, wl, if_neg (by simpa using hn)]
theorem wl_cons {w : List UInt8} {c : UInt8} (h : plainL w) (hn : w ≠ []) (hc : blankR c.toNat = true) (r : List UInt8) : wl (w ++ c :: r) [] = w :: wl r [] := by
  rw [wl_word w (c :: r) [] h, List.nil_append, wl_sep hc r w hn]
theorem words_list_aux (s : ByteArray) : ∀ (f pos : Nat) (st : Option Nat) (acc : List (Nat × Nat)), s.size - pos ≤ f → pos ≤ s.size → (∀ a, st = some a → a < pos) →
    (cutsOf s (Lib.closeSpans s (spansB s f pos st acc))).map (·.data.toList) = (cutsOf s acc).map (·.data.toList) ++ wl (s.data.toList.drop pos) (match st with | none => [] | some a => (s.data.toList.drop a).take (pos - a)) := by
  intro f
  induction f with
  | zero =>
    intro pos st acc hf hp hst
    have he : pos = s.size := by omega
    subst he
    have hd : s.data.toList.drop s.size = [] := List.drop_of_length_le (by simp)
    rw [hd]
    cases st with
    | none => simp [spansB, Lib.closeSpans, wl]
    | some a =>
      have ha := hst a rfl
      have hne : ((s.data.toList.drop a).take (s.size - a)).isEmpty = false := by
        rw [List.isEmpty_eq_false_iff]
        intro h
        have := congrArg List.length h
        simp at this
        omega
      show List.map _ (cutsOf s (Lib.closeSpans s (acc, some a))) = _
      rw [wl, hne]
      simp [Lib.closeSpans, cutsOf]
  | succ f ih =>
    intro pos st acc hf hp hst
    by_cases hlt : pos < s.size
    · have hd : s.data.toList.drop pos = s[pos] :: s.data.toList.drop (pos + 1) := by
        rw [List.drop_eq_getElem_cons (by simpa using hlt)]; rfl
      rw [hd]
      cases hb : blankR (s.get! pos).toNat with
      | true =>
        have hb' : blankR s[pos].toNat = true := by rw [← get_at s pos hlt]; exact hb
        cases st with
        | none =>
          rw [spansB_blank s f pos acc hlt hb, ih (pos + 1) none acc (by omega) (by omega) (fun a h => by cases h), wl, if_pos hb']
          rfl
        | some a =>
          have ha := hst a rfl
          have hne : ((s.data.toList.drop a).take (pos - a)) ≠ [] := by
            intro h
            have := congrArg List.length h
            simp at this
            omega
          rw [spansB_close s f pos a acc hlt hb, ih (pos + 1) none _ (by omega) (by omega) (fun a h => by cases h), wl_sep hb' _ _ hne]
          simp [cutsOf]
      | false =>
        have hb' : blankR s[pos].toNat = false := by rw [← get_at s pos hlt]; exact hb
        rw [spansB_plain s f pos st acc hlt hb, ih (pos + 1) _ acc (by omega) (by omega) (fun a h => by
          injection h with h
          cases st with
          | none => simp at h; omega
          | some b => simp at h; have := hst b rfl; omega), wl, hb', if_neg (by simp)]
        congr 2
        cases st with
        | none =>
          show (s.data.toList.drop pos).take (pos + 1 - pos) = _
          rw [hd, show pos + 1 - pos = 1 by omega]
          rfl
        | some a =>
          have ha := hst a rfl
          show (s.data.toList.drop a).take (pos + 1 - a) = (s.data.toList.drop a).take (pos - a) ++ [s[pos]]
          rw [show pos + 1 - a = (pos - a) + 1 by omega, List.take_add, List.drop_drop, show a + (pos - a) = pos by omega, hd]
          rfl
    · have he : pos = s.size := by omega
      subst he
      rw [spansB_end s _ _ _ _ hlt]
      have := ih s.size st acc (by omega) (by omega) hst
      rwa [spansB_end s _ _ _ _ hlt] at this
theorem words_list (s : ByteArray) : (wordsL s).map (·.data.toList) = wl s.data.toList [] := by
  have := words_list_aux s s.size 0 none [] (by omega) (by omega) (fun a h => by cases h)
  simpa [wordsL, cutsOf] using this
theorem bytes_inj {a b : ByteArray} (h : a.data.toList = b.data.toList) : a = b := by
  cases a; cases b
  simp at h
  rw [h]
theorem map_inj : ∀ {L M : List ByteArray}, L.map (·.data.toList) = M.map (·.data.toList) → L = M
  | [], [], _ => rfl
  | [], _ :: _, h => by cases h
  | _ :: _, [], h => by cases h
  | a :: L, b :: M, h => by
    simp only [List.map_cons, List.cons.injEq] at h
    rw [bytes_inj h.1, map_inj h.2]
end Go.Proofs.YtjdiaighfhljgaaDoor
