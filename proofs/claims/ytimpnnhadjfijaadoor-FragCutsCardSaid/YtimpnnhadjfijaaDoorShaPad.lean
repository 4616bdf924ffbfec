/-
  A text's whole blocks and its padded end are the padded text; take of any slice; the words written out.
-/
import Derived.Test.YtimpnnhadjfijaaDoorShaEnd
namespace Go.Proofs.YtimpnnhadjfijaaDoor
open Go.RowKit

theorem takeS_front : ∀ (m : Nat) (s : S8) (A B : List UInt8), A.length = 64 * m → takeS m s (A ++ B) = takeS m s A
  | 0, _, _, _, _ => rfl
  | m + 1, s, A, B, h => by
    have h1 : ∀ X : List UInt8, (A ++ X).take 64 = A.take 64 := fun X => by rw [List.take_append_of_le_length (by omega)]
    have h2 : ∀ X : List UInt8, (A ++ X).drop 64 = A.drop 64 ++ X := fun X => by rw [List.drop_append_of_le_length (by omega)]
    rw [takeS, takeS, h1, h2, takeS_front m _ (A.drop 64) B (by rw [List.length_drop]; omega)]
theorem takeS_both : ∀ (m k : Nat) (s : S8) (A B : List UInt8), A.length = 64 * m → takeS (m + k) s (A ++ B) = takeS k (takeS m s A) B
  | 0, k, s, A, B, h => by
    obtain rfl : A = [] := List.eq_nil_of_length_eq_zero (by omega)
    simp [takeS]
  | m + 1, k, s, A, B, h => by
    have h1 : ∀ X : List UInt8, (A ++ X).take 64 = A.take 64 := fun X => by rw [List.take_append_of_le_length (by omega)]
    have h2 : ∀ X : List UInt8, (A ++ X).drop 64 = A.drop 64 ++ X := fun X => by rw [List.drop_append_of_le_length (by omega)]
    rw [show m + 1 + k = (m + k) + 1 by omega, takeS, takeS, h1, h2, takeS_both m k _ (A.drop 64) B (by rw [List.length_drop]; omega)]
theorem pad_split (l : List UInt8) (m r : Nat) (h : r + 64 * m = l.length) (hr : r < 64) : padS l = l.take (64 * m) ++ endS (l.drop (64 * m)) (endSize r) l.length := by
  have hd : (l.drop (64 * m)).length = r := by rw [List.length_drop]; omega
  unfold padS endS
  rw [hd, ← List.append_assoc, ← List.append_assoc, ← List.append_assoc, List.take_append_drop]
  rw [show endSize r - r - 9 = (119 - l.length % 64) % 64 by unfold endSize; split <;> omega]
theorem endS_len (t : List UInt8) (n r : Nat) (h : t.length = r) (hr : r < 64) : (endS t (endSize r) n).length = endSize r := by
  unfold endS lenB endSize
  simp only [List.length_append, List.length_replicate, List.length_map, List.length_range, List.length_cons, List.length_nil, h]
  split <;> omega
theorem sum_split (l : List UInt8) (m r k : Nat) (h : r + 64 * m = l.length) (hr : r < 64) (hk : 64 * k = endSize r) : takeS k (takeS m startS l) (endS (l.drop (64 * m)) (endSize r) l.length) = takeS ((padS l).length / 64) startS (padS l) := by
  have hA : (l.take (64 * m)).length = 64 * m := by rw [List.length_take]; omega
  have hE : (endS (l.drop (64 * m)) (endSize r) l.length).length = 64 * k := by rw [endS_len _ _ r (by rw [List.length_drop]; omega) hr, hk]
  rw [pad_split l m r h hr, List.length_append, hA, hE, show (64 * m + 64 * k) / 64 = m + k by omega, takeS_both m k _ _ _ hA]
  congr 1
  have := takeS_front m startS (l.take (64 * m)) (l.drop (64 * m)) hA
  rw [List.take_append_drop] at this
  exact this
/-- What take leaves, of any slice. -/
def TakenA (p : Nat) (z : Value) (s : S8) (l : List UInt8) (w : World) (e : Ending) (w' : World) : Prop :=
  ∃ (m n c : Nat) (a : Option Addr), n + 64 * m = l.length ∧ n < 64 ∧ e = .returned (.slice a n c) ∧ BytesAt w' a (l.drop (64 * m)) ∧ w'.heap[p]? = some (.cells (sumCells 1 0 z madeV (stV (takeS m s l))) 84 (0, 0)) ∧ Spares (fun b => b = p) w w'
set_option maxRecDepth 100000 in
theorem take_none (p : Nat) (a : Option Addr) (c : Nat) (w : World) :
    Calls Tryd.prog 35 #[.pointer (some ⟨p, 0, none⟩), .slice a 0 c] w fun e w' => e = .returned (.slice a 0 c) ∧ w' = w := by
  go_enter Tryd.func35, Tryd.ntmps35
  go_wp2
  go_loopw [1] (fun v wr => v = .slice a 0 c ∧ wr = w) (fun v _ => lenV v)
  case atStart => exact ⟨rfl, rfl⟩
  case round =>
    obtain ⟨rfl, rfl⟩ := hrel
    go_wp2
    go_ret
    exact ⟨rfl, rfl⟩
theorem take_bytes (p : Nat) (z : Value) (s : S8) (a : Option Addr) (n c : Nat) (l : List UInt8) (w : World) (hg : w.heap[p]? = some (.cells (sumCells 1 0 z madeV (stV s)) 84 (0, 0)))
    (hl : BytesAt w a l) (hn : n = l.length) (hmax : n < 9223372036854775808) (hnc : n ≤ c) (hbp : 0 < l.length → ∀ b off, a = some ⟨b, off, none⟩ → b ≠ p) :
    Calls Tryd.prog 35 #[.pointer (some ⟨p, 0, none⟩), .slice a n c] w (TakenA p z s l w) := by
  by_cases h0 : 0 < l.length
  · obtain ⟨b, off, rfl, hc⟩ := hl 0 h0
    have hb : b < w.heap.size := by
      rcases Nat.lt_or_ge b w.heap.size with h | h
      · exact h
      · simp [World.cell?, Array.getElem?_eq_none h] at hc
    refine (take_any p z s b off n c l w hg hl hn hmax hnc (hbp h0 _ _ rfl) hb).mono ?_
    rintro e w' ⟨m, o, k, c', h1, h2, _, h4, h5, h6, h7⟩
    exact ⟨m, k, c', _, h1, h2, h4, h5, h6, h7⟩
  · obtain rfl : l = [] := List.eq_nil_of_length_eq_zero (by omega)
    obtain rfl : n = 0 := hn
    refine (take_none p a c w).mono ?_
    rintro e w' ⟨rfl, rfl⟩
    exact ⟨0, 0, c, a, rfl, by omega, rfl, bytesAt_nil _ _, hg, Spares.refl _ _⟩
/-- The key while it is written: the first words' bytes, then noughts. -/
def outK (k : Nat) (s : S8) : List UInt8 := ((wl s).take k).flatMap (fun x => [byW x 0, byW x 1, byW x 2, byW x 3]) ++ List.replicate (32 - 4 * k) 0
theorem outK_none (s : S8) : outK 0 s = List.replicate 32 0 := by simp [outK]
theorem outK_all (s : S8) : outK 8 s = outS s := by simp [outK, outS, wl]
theorem outK_len (k : Nat) (h : k ≤ 8) (s : S8) : (outK k s).length = 32 := by
  unfold outK
  rw [List.length_append, List.length_replicate]
  have : (List.flatMap (fun x => [byW x 0, byW x 1, byW x 2, byW x 3]) (List.take k (wl s))).length = 4 * k := by
    obtain rfl | rfl | rfl | rfl | rfl | rfl | rfl | rfl | rfl : k = 0 ∨ k = 1 ∨ k = 2 ∨ k = 3 ∨ k = 4 ∨ k = 5 ∨ k = 6 ∨ k = 7 ∨ k = 8 := by omega
    all_goals rfl
  omega
theorem outK_step (k : Nat) (h : k < 8) (s : S8) : set4 (bytesV (outK k s)) (4 * k) ((wl s).getD k 0) = bytesV (outK (k + 1) s) := by
  obtain rfl | rfl | rfl | rfl | rfl | rfl | rfl | rfl : k = 0 ∨ k = 1 ∨ k = 2 ∨ k = 3 ∨ k = 4 ∨ k = 5 ∨ k = 6 ∨ k = 7 := by omega
  all_goals rfl
end Go.Proofs.YtimpnnhadjfijaaDoor
