/-
  All of one's numbers are put on another's.
-/
import Derived.Test.YtdppmmoidofgmaaDoorStatRead
import Derived.IntWalk
namespace Go.Proofs.YtdppmmoidofgmaaDoor
open Go.RowKit

/-- The first k numbers of R are put on L's. -/
def mergeK (L R : Cs) : Nat → Cs
  | 0 => L
  | k + 1 => bump (mergeK L R k) k (gI R k)
theorem mergeK_len (L R : Cs) : ∀ k, (mergeK L R k).length = L.length
  | 0 => rfl
  | k + 1 => by rw [mergeK, bump_len, mergeK_len L R k]
theorem gI_mergeK {L R : Cs} (hl : L.length = 45) : ∀ k, k ≤ 45 → ∀ j, gI (mergeK L R k) j = if j < k then gI L j + gI R j else gI L j
  | 0, _, j => by rw [if_neg (by omega)]; rfl
  | k + 1, hk, j => by
    rw [mergeK, gI_bump (by rw [mergeK_len, hl]; omega)]
    have ih := gI_mergeK (R := R) hl k (by omega) j
    have ihk := gI_mergeK (R := R) hl k (by omega) k
    rw [if_neg (Nat.lt_irrefl k)] at ihk
    by_cases hj : j = k
    · subst hj; rw [if_pos rfl, if_pos (by omega), ihk]
    · rw [if_neg hj, ih]
      by_cases hlt : j < k
      · rw [if_pos hlt, if_pos (by omega)]
      · rw [if_neg hlt, if_neg (by omega)]
theorem cs_ext {A B : Cs} (ha : A.length = 45) (hb : B.length = 45) (h : ∀ k, gI A k = gI B k) : A = B := by
  apply List.ext_getElem (by rw [ha, hb])
  intro i h1 h2
  have := h i
  unfold gI at this
  rw [List.getD_eq_getElem?_getD, List.getD_eq_getElem?_getD, List.getElem?_eq_getElem h1, List.getElem?_eq_getElem h2] at this
  exact this
theorem mergeF_len {L R : Cs} (hl : L.length = 45) (hr : R.length = 45) : (mergeF L R).length = 45 := by unfold mergeF; rw [List.length_zipWith, hl, hr]; rfl
theorem mergeK_all {L R : Cs} (hl : L.length = 45) (hr : R.length = 45) : mergeK L R 45 = mergeF L R := by
  refine cs_ext (by rw [mergeK_len, hl]) (mergeF_len hl hr) fun k => ?_
  rw [gI_mergeK hl 45 (Nat.le_refl _), gI_merge hl hr]
  by_cases hk : k < 45
  · rw [if_pos hk]
  · rw [if_neg hk]
    have h1 : gI R k = 0 := by unfold gI; rw [List.getD_eq_getElem?_getD, List.getElem?_eq_none (by omega)]; rfl
    omega
theorem mergeK_fair {L R : Cs} {M N : Int} (h : Fair L M) (h' : Fair R N) (k : Nat) (hk : k ≤ 45) : Fair (mergeK L R k) (M + N) := by
  refine ⟨by rw [mergeK_len, h.len], fun j => ?_⟩
  rw [gI_mergeK h.len k hk]
  have := h.pos j
  have := h'.pos j
  split <;> omega
/-- A number not yet put on is still what it was. -/
theorem mergeK_at {L R : Cs} (hl : L.length = 45) {k : Nat} (hk : k < 45) : gI (mergeK L R k) k = gI L k := by
  rw [gI_mergeK hl k (by omega), if_neg (by omega)]
structure MergeAt (t : TypeId) (p q : Nat) (L R : Cs) (k : Nat) (w : World) : Prop where
  at_ : StatAt t p (mergeK L R k) w
  rest : ∀ j, k ≤ j → j < 45 → w.cell? ⟨q, j, none⟩ = some (.int .i64 (gI R j))
theorem merge_step {t : TypeId} {p q k : Nat} {L R : Cs} {M N : Int} {w : World} (h : MergeAt t p q L R k w) (hf : Fair L M) (hf' : Fair R N) (hMN : M + N ≤ 9223372036854775807) (hk : k < 45) :
    w.cell? ⟨p, k, none⟩ = some (.int .i64 (gI L k)) ∧ w.cell? ⟨q, k, none⟩ = some (.int .i64 (gI R k)) ∧ w.frozen? ⟨p, k, none⟩ = false ∧ IntKind.i64.wrap (gI L k + gI R k) = gI L k + gI R k ∧
    MergeAt t p q L R (k + 1) (w.setCell ⟨p, k, none⟩ (.int .i64 (gI L k + gI R k))) ∧ Spares (fun b => b = p) w (w.setCell ⟨p, k, none⟩ (.int .i64 (gI L k + gI R k))) := by
  have hl := hf.len
  have hm := mergeK_at (L := L) (R := R) hl hk
  have hml : (mergeK L R k).length = 45 := by rw [mergeK_len, hl]
  have hs : Spares (fun b => b = p) w (w.setCell ⟨p, k, none⟩ (.int .i64 (gI L k + gI R k))) := (Spares.refl (fun b => b = p) w).setCell (p := ⟨p, k, none⟩) (.inl rfl) _
  have hst : StatAt t p (mergeK L R (k + 1)) (w.setCell ⟨p, k, none⟩ (.int .i64 (gI L k + gI R k))) := by
    have := h.at_.bump (k := k) (by omega) (gI R k)
    rw [hm] at this
    exact this
  have hp := hf.pos k
  have hp' := hf'.pos k
  refine ⟨by rw [h.at_.cell (by omega), hm], h.rest k (Nat.le_refl _) hk, Lib.frozen_of_heap h.at_ k, IntWalk.i64_in _ (by omega), ⟨hst, fun j hj h45 => ?_⟩, hs⟩
  by_cases hqp : q = p
  · subst hqp
    have h1 := h.rest j (by omega) h45
    rw [h.at_.cell (by omega)] at h1
    rw [hst.cell (by rw [mergeK_len, hl]; exact h45), ← h1, gI_mergeK hl k (by omega), gI_mergeK hl (k + 1) (by omega), if_neg (by omega), if_neg (by omega)]
  · have hlt : q < w.heap.size := by
      rcases Nat.lt_or_ge q w.heap.size with h2 | h2
      · exact h2
      · have := h.rest k (Nat.le_refl _) hk
        simp [World.cell?, Array.getElem?_eq_none h2] at this
    exact (hs.cell (p := ⟨q, j, none⟩) hlt hqp).trans (h.rest j (by omega) h45)
theorem MergeAt.drew {t : TypeId} {p q k : Nat} {L R : Cs} {w : World} (h : MergeAt t p q L R k w) : MergeAt t p q L R k w.drew := ⟨h.at_, h.rest⟩
end Go.Proofs.YtdppmmoidofgmaaDoor
