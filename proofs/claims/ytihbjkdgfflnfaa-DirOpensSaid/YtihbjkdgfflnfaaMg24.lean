/-
  A row of bytes of the call's own, no cell of which is frozen, be there a mark behind it; what is appended to it.
-/
import Derived.Laws.CopyRow
import Derived.Lib.FrozenHead
import Derived.Test.YtihbjkdgfflnfaaMg1
namespace Go.Proofs.Ytihbjkdgfflnfaa
open Go.RowKit

theorem stores_bare (P : Program) (g o : Nat) (t : TypeId) (fz : Nat × Nat) (vs : List Value) : ∀ (i : Nat) (cur : Array Value) (w : World), w.heap[g]? = some (.cells cur t fz) → (fz.2 = 0 ∨ cur.size ≤ fz.1) → o + i + vs.length ≤ cur.size → (∀ v ∈ vs, v.oneCell' = true) →
    (storeCells ⟨g, o, none⟩ vs i).run P w = .ok () (w.setRow g (cur.toList.take (o + i) ++ vs ++ cur.toList.drop (o + i + vs.length)).toArray) := by
  induction vs with
  | nil =>
    intro i cur w hg _ _ _
    have e : cur.toList.take (o + i) ++ [] ++ cur.toList.drop (o + i + ([] : List Value).length) = cur.toList := by simp
    rw [e, Array.toArray_toList, setRow_self w g cur t fz hg]
    rfl
  | cons v rest ih =>
    intro i cur w hg hfz hl h1
    rw [List.length_cons] at hl
    have hi : o + i < cur.size := by omega
    have ha : (⟨g, o, none⟩ : Addr).add i = ⟨g, o + i, none⟩ := by unfold Addr.add; split <;> simp_all
    have hc : w.cell? ⟨g, o + i, none⟩ = some cur[o + i] := by simp [World.cell?, hg, hi]
    have hf : w.frozen? ⟨g, o + i, none⟩ = false := by
      obtain ⟨lo, up⟩ := fz
      simp only [World.frozen?, hg, Bool.and_eq_false_iff, decide_eq_false_iff_not]
      rcases hfz with h | h
      · right
        simp only at h
        omega
      · left
        simp only at h
        omega
    have hs : (store ((⟨g, o, none⟩ : Addr).add i) v).run P w = .ok () (w.setRow g (cur.setIfInBounds (o + i) v)) := by
      rw [ha, run_store P w _ v _ (h1 v (by simp)), hc]
      simp [hf, setCell_eq_setRow w g (o + i) cur t fz v hg]
    have hn := ih (i + 1) (cur.setIfInBounds (o + i) v) (w.setRow g (cur.setIfInBounds (o + i) v)) (setRow_heap w g cur _ t _ hg) (by rw [Array.size_setIfInBounds]; exact hfz) (by rw [Array.size_setIfInBounds]; omega) (fun x hx => h1 x (by simp [hx]))
    simp only [storeCells, Sem.run_bind, hs, Result.andThen_ok, hn, setRow_setRow]
    congr 3
    have e := list_seg_step cur.toList (o + i) v rest (by rw [Array.length_toList]; omega)
    simpa [Array.toList_setIfInBounds, Nat.add_assoc] using e

def RowT (B : Nat) (w : World) (v : Value) (d : List UInt8) : Prop := ∃ (g : Nat) (cur : Array Value) (fz : Nat × Nat), v = .slice (some ⟨g, 0, none⟩) d.length cur.size ∧ B ≤ g ∧ w.heap[g]? = some (.cells cur 5 fz) ∧ (fz.2 = 0 ∨ cur.size ≤ fz.1) ∧ d.length ≤ cur.size ∧ cur.size ≤ maxLen ∧ cur.toList.take d.length = Lib.byteCells d
theorem RowT.cells {w : World} {g : Nat} {cur : Array Value} {fz : Nat × Nat} {d : List UInt8} (hg : w.heap[g]? = some (.cells cur 5 fz)) (ht : cur.toList.take d.length = Lib.byteCells d) : ∀ j u, (Lib.byteCells d)[j]? = some u → w.cell? ((⟨g, 0, none⟩ : Addr).add j) = some u := by
  intro j u hu
  have e : (⟨g, 0, none⟩ : Addr).add j = ⟨g, j, none⟩ := by unfold Addr.add; split <;> simp_all
  rw [e, Lib.cell_of_heap hg]
  rw [← ht, List.getElem?_take] at hu
  split at hu
  · simpa using hu
  · cases hu
theorem RowT.shape {B : Nat} {w : World} {v : Value} {d : List UInt8} (h : RowT B w v d) : ∃ g c, v = .slice (some ⟨g, 0, none⟩) d.length c ∧ B ≤ g ∧ BytesAt w (some ⟨g, 0, none⟩) d ∧ d.length ≤ c := by
  obtain ⟨g, cur, fz, rfl, hB, hg, _, hle, _, ht⟩ := h
  refine ⟨g, _, rfl, hB, fun k hk => ⟨g, 0, rfl, ?_⟩, hle⟩
  have h1 := RowT.cells hg ht k (.int .u8 d[k].toNat) (by unfold Lib.byteCells; rw [List.getElem?_map, List.getElem?_eq_getElem hk]; rfl)
  have e : (⟨g, 0, none⟩ : Addr).add k = ⟨g, k, none⟩ := by unfold Addr.add; split <;> simp_all
  rw [e] at h1
  rw [Nat.zero_add]
  exact h1
theorem RowT.own {B : Nat} {w : World} {v : Value} {d : List UInt8} (h : RowT B w v d) : ∀ k, v.ownBlock = some k → B ≤ k := by
  obtain ⟨g, cur, fz, rfl, hB, _⟩ := h
  intro k hk
  simp [Value.ownBlock] at hk
  omega
section
variable {B : Nat} {w : World} {g : Nat} {cur : Array Value} {fz : Nat × Nat} {d l : List UInt8}
theorem rowT_room (hB : B ≤ g) (hg : w.heap[g]? = some (.cells cur 5 fz)) (hfz : fz.2 = 0 ∨ cur.size ≤ fz.1) (hm : cur.size ≤ maxLen) (ht : cur.toList.take d.length = Lib.byteCells d) (hroom : d.length + l.length ≤ cur.size) :
    RowT B (w.setRow g (cur.toList.take d.length ++ Lib.byteCells l ++ cur.toList.drop (d.length + l.length)).toArray) (.slice (some ⟨g, 0, none⟩) (d.length + l.length) cur.size) (d ++ l) ∧ w.grownBy (w.setRow g (cur.toList.take d.length ++ Lib.byteCells l ++ cur.toList.drop (d.length + l.length)).toArray) (some g) := by
  have hz : (cur.toList.take d.length ++ Lib.byteCells l ++ cur.toList.drop (d.length + l.length)).toArray.size = cur.size := by
    simp only [List.size_toArray, List.length_append, List.length_take, List.length_drop, Array.length_toList, byteCells_len]
    omega
  refine ⟨⟨g, _, fz, by rw [List.length_append, hz], hB, setRow_heap w g cur _ _ _ hg, by rw [hz]; exact hfz, by rw [List.length_append, hz]; exact hroom, by rw [hz]; exact hm, ?_⟩, ⟨rfl, rfl, rfl, by simp, fun k _ hk => setRow_other w g k _ (fun e => hk (by simp [e]))⟩⟩
  rw [ht, byteCells_app]
  exact List.take_left' (by simp [byteCells_len])
theorem rowT_new (hb : B ≤ w.heap.size) (cap : Nat) (hc : d.length + l.length ≤ cap) (hm : cap ≤ maxLen) :
    RowT B (w.drew.alloc (.cells ((Lib.byteCells d).toArray ++ (Lib.byteCells l).toArray ++ Builtin.zeroCells (Value.int .u8 0).cells (cap - (d.length + l.length))) 5)) (.slice (some ⟨w.heap.size, 0, none⟩) (d.length + l.length) cap) (d ++ l) ∧ ∀ r, w.grownBy (w.drew.alloc (.cells ((Lib.byteCells d).toArray ++ (Lib.byteCells l).toArray ++ Builtin.zeroCells (Value.int .u8 0).cells (cap - (d.length + l.length))) 5)) r := by
  have hz : ((Lib.byteCells d).toArray ++ (Lib.byteCells l).toArray ++ Builtin.zeroCells (Value.int .u8 0).cells (cap - (d.length + l.length))).size = cap := by
    have h1 : (Value.int IntKind.u8 0).cells.size = 1 := rfl
    simp only [Array.size_append, List.size_toArray, size_zeroCells, h1, byteCells_len]
    omega
  refine ⟨⟨w.heap.size, _, (0, 0), by rw [List.length_append, hz], hb, heap_alloc_new w.drew _, .inl rfl, by rw [List.length_append, hz]; exact hc, by rw [hz]; exact hm, ?_⟩, fun r => ⟨rfl, rfl, rfl, by simp, fun k hk _ => heap_alloc_old w.drew _ hk⟩⟩
  simp only [Array.toList_append]
  rw [byteCells_app]
  exact List.take_left' (by simp [byteCells_len])
end
theorem wpList_tail_bytes {w : World} {ops : Array Oper} {rest : List Oper} {o : Oper} {a : Act} {Q : Exit → Act → World → Prop} (hgd : o.guard = none) (s x : Operand)
    (ho : o.op = .call { callee := .builtin .append, args := #[s, x], argTypes := #[49, 49] })
    (B : Nat) (v : Value) (d : List UInt8) (hs : a.eval s = v) (hown : RowT B w v d) (ad : Option Addr) (c : Nat) (l : List UInt8) (hx : a.eval x = .slice ad l.length c) (hat : BytesAt w ad l) (hlen : d.length + l.length ≤ 1000000) (hB : B ≤ w.heap.size)
    (hK : ∀ v' w', RowT B w' v' (d ++ l) → w.grownBy w' v.ownBlock → wpList Try.prog ops Q rest (a.put o.dst v') w') : wpList Try.prog ops Q (o :: rest) a w := by
  refine wpList_plain hgd fun K hK' => ?_
  obtain ⟨i0, hi, hz0, hz1, hz2⟩ := info_parts byteInfo
  obtain ⟨g, cur, fz, rfl, hBg, hg, hfz, hle, hm, ht⟩ := hown
  have hrun : ∃ v' w', (Builtin.append_ #[49, 49] o.type #[.slice (some ⟨g, 0, none⟩) d.length cur.size, .slice ad l.length c]).run Try.prog w = .ok v' w' ∧ RowT B w' v' (d ++ l) ∧ w.grownBy w' (some g) := by
    have hf : (Builtin.firstCells 1 l.length (.slice ad l.length c)).run Try.prog w = .ok (Lib.byteCells l).toArray w := by
      by_cases he : l = []
      · subst he
        cases ad with
        | none => exact run_firstCells_none ..
        | some ad => exact run_firstCells_some (P := Try.prog) w 1 0 ad 0 c [] rfl (by simp)
      · obtain ⟨b, off, hab, _⟩ := hat 0 (List.length_pos_iff.2 he)
        subst hab
        exact run_firstCells_some (P := Try.prog) w 1 l.length ⟨b, off, none⟩ l.length c (Lib.byteCells l) (by simp [byteCells_len]) hat.cells
    by_cases hroom : d.length + l.length ≤ cur.size
    · have hst := stores_bare Try.prog g d.length 5 fz (Lib.byteCells l) 0 cur w hg hfz (by rw [byteCells_len]; omega) (byteCells_one l)
      simp only [Nat.add_zero, byteCells_len] at hst
      obtain ⟨h1, h2⟩ := rowT_room hBg hg hfz hm ht hroom
      refine ⟨_, _, ?_, h1, h2⟩
      simp [Builtin.append_, run_underlying Try.underlying49, sizeOf, typeInfo, hi, hz1, Builtin.lenOf, hroom, hf, Addr.add_lit, hst]
    · have he : l ≠ [] := by rintro rfl; simp at hroom; omega
      obtain ⟨b, off, hab, _⟩ := hat 0 (List.length_pos_iff.2 he)
      subst hab
      have hr := run_append_grow (P := Try.prog) w 49 o.type 5 i0 (.int .u8 0) Try.underlying49 hi hz0 ⟨g, 0, none⟩ d.length cur.size (Lib.byteCells d) (by rw [hz1]; simp [byteCells_len]) (RowT.cells hg ht) ⟨b, off, none⟩ l.length c (Lib.byteCells l) (by rw [hz1]; simp [byteCells_len]) hat.cells (by omega) (by omega) (by rw [hz2]; exact growslice_fits (by omega) (by omega))
      obtain ⟨h1, h2⟩ := rowT_new (B := B) (w := w) (d := d) (l := l) hB (grownCap w (d.length + l.length) cur.size 5) (grownCap_ge w _ _ _) (grownCap_le_maxLen w _ _ _ (by unfold maxLen; omega))
      exact ⟨_, _, hr, h1, h2 _⟩
  obtain ⟨v', w', hr, h1, h2⟩ := hrun
  unfold Oper.wp
  simp [execOp, ho, resolve, invoke, builtin, hs, hx, hr, Result.andThen]
  exact hK' _ _ (hK v' w' h1 h2)
theorem RowT.spares {F : Nat → Prop} {B : Nat} {w w' : World} {v : Value} {d : List UInt8} (h : RowT B w v d) (hs : Spares F w w') (hn : ∀ k, v.ownBlock = some k → ¬ F k) : RowT B w' v d := by
  obtain ⟨g, cur, fz, rfl, hB, hg, h1⟩ := h
  exact ⟨g, cur, fz, rfl, hB, hs.heap hg (hn g rfl), h1⟩
theorem RowT.lt {B : Nat} {w : World} {v : Value} {d : List UInt8} (h : RowT B w v d) : ∀ k, v.ownBlock = some k → k < w.heap.size := by
  obtain ⟨g, cur, fz, rfl, hB, hg, _⟩ := h
  intro k hk
  simp [Value.ownBlock] at hk
  subst hk
  exact (Array.getElem?_eq_some_iff.1 hg).1
/-- What a literal of bytes, converted, is. -/
theorem rowT_lit (w : World) (l : List UInt8) (hl : l.length ≤ maxLen) : RowT w.heap.size (w.alloc (.cells (Lib.byteCells l).toArray 5 (l.length, l.length + 1))) (.slice (some ⟨w.heap.size, 0, none⟩) l.length l.length) l := by
  have hz : (Lib.byteCells l).toArray.size = l.length := by simp [byteCells_len]
  refine ⟨w.heap.size, (Lib.byteCells l).toArray, (l.length, l.length + 1), by rw [hz], Nat.le_refl _, heap_alloc_new w _, .inr (by rw [hz]; exact Nat.le_refl _), by rw [hz]; exact Nat.le_refl _, by rw [hz]; exact hl, ?_⟩
  simp only
  rw [List.take_of_length_le (by rw [byteCells_len]; exact Nat.le_refl _)]
end Go.Proofs.Ytihbjkdgfflnfaa
