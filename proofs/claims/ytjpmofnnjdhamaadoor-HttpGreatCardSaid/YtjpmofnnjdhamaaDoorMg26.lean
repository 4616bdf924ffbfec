/-
  A row of bytes that a conversion made, and zeros appended to it.
-/
import Derived.Laws.CopyRow
import Derived.Lib.FrozenHead
import Derived.Lib.AppendZerosOnto
import Derived.Test.YtjpmofnnjdhamaaDoorMg22
namespace Go.Proofs.YtjpmofnnjdhamaaDoor
open Go.RowKit HeadMath NormMath NormS HeadS ChunkMath HttpMath

theorem stores_bare (P : Program) (g o : Nat) (t : TypeId) (fz : Nat × Nat) (vs : List Value) : ∀ (i : Nat) (cur : Array Value) (w : World), w.heap[g]? = some (.cells cur t fz) → (fz.2 = 0 ∨ cur.size ≤ fz.1) → o + i + vs.length ≤ cur.size → (∀ v ∈ vs, v.oneCell' = true) →
    (storeCells ⟨g, o, none⟩ vs i).run P w = .ok () (w.setRow g (cur.toList.take (o + i) ++ vs ++ cur.toList.drop (o + i + vs.length)).toArray) := by
  induction vs with
  | nil =>
    intro i cur w hg _ _ _
    have e : cur.toList.take (o + i) ++ [] ++ cur.toList.drop (o + i + ([] : List Value).length) = cur.toList := by simp
    rw [e, Array.toArray_toList, setRow_self w g cur t fz hg]
    rfl
  | cons v rest ih =>
    intro i cur w hg hfz hl h1
    rw [List.length_cons] at hl
    have hi : o + i < cur.size := by omega
    have ha : (⟨g, o, none⟩ : Addr).add i = ⟨g, o + i, none⟩ := by unfold Addr.add; split <;> simp_all
    have hc : w.cell? ⟨g, o + i, none⟩ = some cur[o + i] := by simp [World.cell?, hg, hi]
    have hf : w.frozen? ⟨g, o + i, none⟩ = false := by
      obtain ⟨lo, up⟩ := fz
      simp only [World.frozen?, hg, Bool.and_eq_false_iff, decide_eq_false_iff_not]
      rcases hfz with h | h
      · right
        simp only at h
        omega
      · left
        simp only at h
        omega
    have hs : (store ((⟨g, o, none⟩ : Addr).add i) v).run P w = .ok () (w.setRow g (cur.setIfInBounds (o + i) v)) := by
      rw [ha, run_store P w _ v _ (h1 v (by simp)), hc]
      simp [hf, setCell_eq_setRow w g (o + i) cur t fz v hg]
    have hn := ih (i + 1) (cur.setIfInBounds (o + i) v) (w.setRow g (cur.setIfInBounds (o + i) v)) (setRow_heap w g cur _ t _ hg) (by rw [Array.size_setIfInBounds]; exact hfz) (by rw [Array.size_setIfInBounds]; omega) (fun x hx => h1 x (by simp [hx]))
    simp only [storeCells, Sem.run_bind, hs, Result.andThen_ok, hn, setRow_setRow]
    congr 3
    have e := list_seg_step cur.toList (o + i) v rest (by rw [Array.length_toList]; omega)
    simpa [Array.toList_setIfInBounds, Nat.add_assoc] using e

def RowT (B : Nat) (w : World) (v : Value) (d : Bs) : Prop := ∃ (g : Nat) (cur : Array Value) (fz : Nat × Nat), v = .slice (some ⟨g, 0, none⟩) d.length cur.size ∧ B ≤ g ∧ w.heap[g]? = some (.cells cur 5 fz) ∧ (fz.2 = 0 ∨ cur.size ≤ fz.1) ∧ d.length ≤ cur.size ∧ cur.size ≤ maxLen ∧ cur.toList.take d.length = Lib.byteCells d
theorem RowT.cells {w : World} {g : Nat} {cur : Array Value} {fz : Nat × Nat} {d : Bs} (hg : w.heap[g]? = some (.cells cur 5 fz)) (ht : cur.toList.take d.length = Lib.byteCells d) : ∀ j u, (Lib.byteCells d)[j]? = some u → w.cell? ((⟨g, 0, none⟩ : Addr).add j) = some u := by
  intro j u hu
  have e : (⟨g, 0, none⟩ : Addr).add j = ⟨g, j, none⟩ := by unfold Addr.add; split <;> simp_all
  rw [e, Lib.cell_of_heap hg]
  rw [← ht, List.getElem?_take] at hu
  split at hu
  · simpa using hu
  · cases hu
theorem RowT.shape {B : Nat} {w : World} {v : Value} {d : Bs} (h : RowT B w v d) : ∃ g c, v = .slice (some ⟨g, 0, none⟩) d.length c ∧ B ≤ g ∧ BytesAt w (some ⟨g, 0, none⟩) d ∧ d.length ≤ c := by
  obtain ⟨g, cur, fz, rfl, hB, hg, _, hle, _, ht⟩ := h
  refine ⟨g, _, rfl, hB, fun k hk => ⟨g, 0, rfl, ?_⟩, hle⟩
  have h1 := RowT.cells hg ht k (.int .u8 d[k].toNat) (by unfold Lib.byteCells; rw [List.getElem?_map, List.getElem?_eq_getElem hk]; rfl)
  have e : (⟨g, 0, none⟩ : Addr).add k = ⟨g, k, none⟩ := by unfold Addr.add; split <;> simp_all
  rw [e] at h1
  rw [Nat.zero_add]
  exact h1
theorem RowT.own {B : Nat} {w : World} {v : Value} {d : Bs} (h : RowT B w v d) : ∀ k, v.ownBlock = some k → B ≤ k := by
  obtain ⟨g, cur, fz, rfl, hB, _⟩ := h
  intro k hk
  simp [Value.ownBlock] at hk
  omega
theorem rowT_conv (w : World) (s : ByteArray) (hs : s.size ≤ maxLen) : ∃ v w', (convert 9 24 (.string s)).run Tryd.prog w = .ok v w' ∧ RowT w.heap.size w' v s.data.toList ∧ Spares nowhere w w' := by
  have hl : s.data.toList.length = s.size := by simp
  have hge := grownCap_ge w s.size 0 5
  have hsz : (Lib.bytesCells w 5 s).size = grownCap w s.size 0 5 := by
    simp only [Lib.bytesCells, Array.size_append, Array.size_map, Array.size_replicate]
    have : s.data.size = s.size := rfl
    omega
  refine ⟨_, _, Lib.run_convert_string_bytes w 9 24 5 s Tryd.underlying9 Tryd.underlying24 Tryd.underlying5, ⟨w.heap.size, Lib.bytesCells w 5 s, _, by rw [hl, hsz], Nat.le_refl _, Lib.bytesWorld_at_new w 5 s, .inr (Nat.le_refl _), by rw [hl, hsz]; exact hge, by rw [hsz]; exact grownCap_le_maxLen w s.size 0 5 hs, ?_⟩, ?_, ?_, ?_, ?_, fun b hb _ => Lib.bytesWorld_at_old w _ s b hb⟩
  · rw [hl]
    simp only [Lib.bytesCells, Array.toList_append, Array.toList_map]
    rw [List.take_left' (by simp)]
    rfl
  · simp [Lib.bytesWorld, World.freeze, World.alloc, World.drew, -World.alloc_eq, -World.drew_eq]
  · simp [Lib.bytesWorld, World.freeze, World.alloc, World.drew, -World.alloc_eq, -World.drew_eq]
  · simp [Lib.bytesWorld, World.freeze, World.alloc, World.drew, -World.alloc_eq, -World.drew_eq]
  · rw [Lib.bytesWorld_size]; omega
section
variable {B : Nat} {w : World} {g : Nat} {cur : Array Value} {fz : Nat × Nat} {d l : Bs}
theorem rowT_room (hB : B ≤ g) (hg : w.heap[g]? = some (.cells cur 5 fz)) (hfz : fz.2 = 0 ∨ cur.size ≤ fz.1) (hm : cur.size ≤ maxLen) (ht : cur.toList.take d.length = Lib.byteCells d) (hroom : d.length + l.length ≤ cur.size) :
    RowT B (w.setRow g (cur.toList.take d.length ++ Lib.byteCells l ++ cur.toList.drop (d.length + l.length)).toArray) (.slice (some ⟨g, 0, none⟩) (d.length + l.length) cur.size) (d ++ l) ∧ w.grownBy (w.setRow g (cur.toList.take d.length ++ Lib.byteCells l ++ cur.toList.drop (d.length + l.length)).toArray) (some g) := by
  have hz : (cur.toList.take d.length ++ Lib.byteCells l ++ cur.toList.drop (d.length + l.length)).toArray.size = cur.size := by
    simp only [List.size_toArray, List.length_append, List.length_take, List.length_drop, Array.length_toList, byteCells_len]
    omega
  refine ⟨⟨g, _, fz, by rw [List.length_append, hz], hB, setRow_heap w g cur _ _ _ hg, by rw [hz]; exact hfz, by rw [List.length_append, hz]; exact hroom, by rw [hz]; exact hm, ?_⟩, ⟨rfl, rfl, rfl, by simp, fun k _ hk => setRow_other w g k _ (fun e => hk (by simp [e]))⟩⟩
  rw [ht, byteCells_app]
  exact List.take_left' (by simp [byteCells_len])
theorem rowT_new (hb : B ≤ w.heap.size) (cap : Nat) (hc : d.length + l.length ≤ cap) (hm : cap ≤ maxLen) :
    RowT B (w.drew.alloc (.cells ((Lib.byteCells d).toArray ++ (Lib.byteCells l).toArray ++ Builtin.zeroCells (Value.int .u8 0).cells (cap - (d.length + l.length))) 5)) (.slice (some ⟨w.heap.size, 0, none⟩) (d.length + l.length) cap) (d ++ l) ∧ ∀ r, w.grownBy (w.drew.alloc (.cells ((Lib.byteCells d).toArray ++ (Lib.byteCells l).toArray ++ Builtin.zeroCells (Value.int .u8 0).cells (cap - (d.length + l.length))) 5)) r := by
  have hz : ((Lib.byteCells d).toArray ++ (Lib.byteCells l).toArray ++ Builtin.zeroCells (Value.int .u8 0).cells (cap - (d.length + l.length))).size = cap := by
    have h1 : (Value.int IntKind.u8 0).cells.size = 1 := rfl
    simp only [Array.size_append, List.size_toArray, size_zeroCells, h1, byteCells_len]
    omega
  refine ⟨⟨w.heap.size, _, (0, 0), by rw [List.length_append, hz], hb, heap_alloc_new w.drew _, .inl rfl, by rw [List.length_append, hz]; exact hc, by rw [hz]; exact hm, ?_⟩, fun r => ⟨rfl, rfl, rfl, by simp, fun k hk _ => heap_alloc_old w.drew _ hk⟩⟩
  simp only [Array.toList_append]
  rw [byteCells_app]
  exact List.take_left' (by simp [byteCells_len])
end
theorem zeros_mk (k : Nat) : Builtin.zeroCells (Value.int IntKind.u8 0).cells k = (Lib.byteCells (List.replicate k 0)).toArray := by
  apply Array.ext
  · simp [Builtin.zeroCells, Lib.byteCells, Value.cells]
  · intro i h1 h2
    simp [Builtin.zeroCells, Lib.byteCells, Value.cells, Nat.mod_one] at h1 ⊢
/-- append(v, make([]byte, k)...). -/
theorem wpList_tail_zeros {w : World} {ops : Array Oper} {rest : List Oper} {o : Oper} {a : Act} {Q : Exit → Act → World → Prop} (hgd : o.guard = none) (s x : Operand)
    (ho : o.op = .call { callee := .builtin .append, args := #[s, x], argTypes := #[24, 3] })
    (B : Nat) (v : Value) (d : Bs) (hs : a.eval s = v) (hown : RowT B w v d) (k : Nat) (hk0 : 0 < k) (hx : a.eval x = .int .i64 k) (hlen : d.length + k ≤ 1000000) (hB : B ≤ w.heap.size)
    (hK : ∀ v' w', RowT B w' v' (d ++ List.replicate k 0) → w.grownBy w' v.ownBlock → wpList Tryd.prog ops Q rest (a.put o.dst v') w') : wpList Tryd.prog ops Q (o :: rest) a w := by
  refine wpList_plain hgd fun K hK' => ?_
  obtain ⟨i0, hi, hz0, hz1, hz2⟩ := info_parts byteInfo
  obtain ⟨g, cur, fz, rfl, hBg, hg, hfz, hle, hm, ht⟩ := hown
  have hrl : (List.replicate k (0 : UInt8)).length = k := by simp
  have hrun : ∃ v' w', (Builtin.append_ #[24, 3] o.type #[.slice (some ⟨g, 0, none⟩) d.length cur.size, .int .i64 k]).run Tryd.prog w = .ok v' w' ∧ RowT B w' v' (d ++ List.replicate k 0) ∧ w.grownBy w' (some g) := by
    by_cases hroom : d.length + k ≤ cur.size
    · have hst := stores_bare Tryd.prog g d.length 5 fz (Lib.byteCells (List.replicate k 0)) 0 cur w hg hfz (by rw [byteCells_len, hrl]; omega) (byteCells_one _)
      simp only [Nat.add_zero, byteCells_len, hrl] at hst
      obtain ⟨h1, h2⟩ := rowT_room (l := List.replicate k 0) hBg hg hfz hm ht (by rw [hrl]; exact hroom)
      rw [hrl] at h1 h2
      have hw : IntKind.i64.wrap (k : Int) = k := by rw [IntKind.wrap_i64]; omega
      have hneg : ¬ ((k : Int) < 0) := by omega
      have h48i : ¬ (281474976710656 < (k : Int) * (i0.bytes : Int)) := by rw [← Int.natCast_mul, hz2]; omega
      have hns : ¬ (k = 0) := by omega
      refine ⟨_, _, ?_, h1, h2⟩
      simp [Builtin.append_, run_underlying Tryd.underlying24, run_underlying Tryd.underlying3, sizeOf, typeInfo, zeroValue, hi, hz0, hz1, asInt, asIntOf, hw, hneg, h48i, hns, hroom, Addr.add_lit, zeros_mk, hst]
    · have hf := run_firstCells_some (P := Tryd.prog) w.drew 1 d.length ⟨g, 0, none⟩ d.length cur.size (Lib.byteCells d) (by simp [byteCells_len]) (fun j u hj => RowT.cells (w := w) hg ht j u hj)
      rw [← hz1] at hf
      have hr := Lib.run_append_grow_zeros (P := Tryd.prog) w 24 3 o.type 5 i0 (.int .u8 0) .i64 .i64 Tryd.underlying24 Tryd.underlying3 hi hz0 (some ⟨g, 0, none⟩) d.length cur.size (Lib.byteCells d) hf k hk0 (by omega) (by omega) (by omega) (by rw [hz2]; omega) (by rw [hz2]; exact growslice_fits (by omega) (by omega))
      obtain ⟨h1, h2⟩ := rowT_new (B := B) (w := w) (d := d) (l := List.replicate k 0) hB (grownCap w (d.length + k) cur.size 5) (by rw [hrl]; exact grownCap_ge w _ _ _) (grownCap_le_maxLen w _ _ _ (by unfold maxLen; omega))
      rw [hrl, ← zeros_mk] at h1 h2
      exact ⟨_, _, hr, h1, h2 _⟩
  obtain ⟨v', w', hr, h1, h2⟩ := hrun
  unfold Oper.wp
  simp [execOp, ho, resolve, invoke, builtin, hs, hx, hr, Result.andThen]
  exact hK' _ _ (hK v' w' h1 h2)
theorem rowT_lit (w : World) (l : Bs) (hl : l.length ≤ 1000000) : RowT w.heap.size (w.alloc (.cells (bytesV l) 5 ((bytesV l).size, (bytesV l).size + 1))) (.slice (some ⟨w.heap.size, 0, none⟩) l.length l.length) l := by
  have hz : (bytesV l).size = l.length := by simp [bytesV, Lib.byteCells]
  refine ⟨w.heap.size, bytesV l, _, by rw [hz], Nat.le_refl _, heap_alloc_new _ _, .inr (Nat.le_refl _), by rw [hz]; exact Nat.le_refl _, ?_, ?_⟩
  · rw [hz]; unfold maxLen; omega
  · rw [← hz]
    simp [bytesV]
end Go.Proofs.YtjpmofnnjdhamaaDoor
