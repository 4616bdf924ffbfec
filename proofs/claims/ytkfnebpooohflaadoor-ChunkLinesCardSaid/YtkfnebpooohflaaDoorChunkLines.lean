/-
  A row of bytes of the call's own, no cell of which is frozen, be there a mark behind it: what []byte(s) makes, and what is appended to it; ChunkLines' walk.
-/
import Derived.Test.YtkfnebpooohflaaDoorChunkBack
import Derived.Test.YtkfnebpooohflaaDoorChunkRefChunks
import Derived.Test.YtkfnebpooohflaaDoorCodeHelp
import Derived.Laws.CopyRow
import Derived.Lib.FrozenHead
namespace Go.Proofs.YtkfnebpooohflaaDoor
open Go.RowKit HeadMath NormMath NormS HeadS ChunkMath

theorem stores_bare (P : Program) (g o : Nat) (t : TypeId) (fz : Nat × Nat) (vs : List Value) : ∀ (i : Nat) (cur : Array Value) (w : World), w.heap[g]? = some (.cells cur t fz) → (fz.2 = 0 ∨ cur.size ≤ fz.1) → o + i + vs.length ≤ cur.size → (∀ v ∈ vs, v.oneCell' = true) →
    (storeCells ⟨g, o, none⟩ vs i).run P w = .ok () (w.setRow g (cur.toList.take (o + i) ++ vs ++ cur.toList.drop (o + i + vs.length)).toArray) := by
  induction vs with
  | nil =>
    intro i cur w hg _ _ _
    have e : cur.toList.take (o + i) ++ [] ++ cur.toList.drop (o + i + ([] : List Value).length) = cur.toList := by simp
    rw [e, Array.toArray_toList, setRow_self w g cur t fz hg]
    rfl
  | cons v rest ih =>
    intro i cur w hg hfz hl h1
    rw [List.length_cons] at hl
    have hi : o + i < cur.size := by omega
    have ha : (⟨g, o, none⟩ : Addr).add i = ⟨g, o + i, none⟩ := by unfold Addr.add; split <;> simp_all
    have hc : w.cell? ⟨g, o + i, none⟩ = some cur[o + i] := by simp [World.cell?, hg, hi]
    have hf : w.frozen? ⟨g, o + i, none⟩ = false := by
      obtain ⟨lo, up⟩ := fz
      simp only [World.frozen?, hg, Bool.and_eq_false_iff, decide_eq_false_iff_not]
      rcases hfz with h | h
      · right
        simp only at h
        omega
      · left
        simp only at h
        omega
    have hs : (store ((⟨g, o, none⟩ : Addr).add i) v).run P w = .ok () (w.setRow g (cur.setIfInBounds (o + i) v)) := by
      rw [ha, run_store P w _ v _ (h1 v (by simp)), hc]
      simp [hf, setCell_eq_setRow w g (o + i) cur t fz v hg]
    have hn := ih (i + 1) (cur.setIfInBounds (o + i) v) (w.setRow g (cur.setIfInBounds (o + i) v)) (setRow_heap w g cur _ t _ hg) (by rw [Array.size_setIfInBounds]; exact hfz) (by rw [Array.size_setIfInBounds]; omega) (fun x hx => h1 x (by simp [hx]))
    simp only [storeCells, Sem.run_bind, hs, Result.andThen_ok, hn, setRow_setRow]
    congr 3
    have e := list_seg_step cur.toList (o + i) v rest (by rw [Array.length_toList]; omega)
    simpa [Array.toList_setIfInBounds, Nat.add_assoc] using e

def RowT (B : Nat) (w : World) (v : Value) (d : Bs) : Prop := ∃ (g : Nat) (cur : Array Value) (fz : Nat × Nat), v = .slice (some ⟨g, 0, none⟩) d.length cur.size ∧ B ≤ g ∧ w.heap[g]? = some (.cells cur 5 fz) ∧ (fz.2 = 0 ∨ cur.size ≤ fz.1) ∧ d.length ≤ cur.size ∧ cur.size ≤ maxLen ∧ cur.toList.take d.length = Lib.byteCells d
theorem RowT.cells {w : World} {g : Nat} {cur : Array Value} {fz : Nat × Nat} {d : Bs} (hg : w.heap[g]? = some (.cells cur 5 fz)) (ht : cur.toList.take d.length = Lib.byteCells d) : ∀ j u, (Lib.byteCells d)[j]? = some u → w.cell? ((⟨g, 0, none⟩ : Addr).add j) = some u := by
  intro j u hu
  have e : (⟨g, 0, none⟩ : Addr).add j = ⟨g, j, none⟩ := by unfold Addr.add; split <;> simp_all
  rw [e, Lib.cell_of_heap hg]
  rw [← ht, List.getElem?_take] at hu
  split at hu
  · simpa using hu
  · cases hu
theorem RowT.shape {B : Nat} {w : World} {v : Value} {d : Bs} (h : RowT B w v d) : ∃ g c, v = .slice (some ⟨g, 0, none⟩) d.length c ∧ B ≤ g ∧ BytesAt w (some ⟨g, 0, none⟩) d ∧ d.length ≤ c := by
  obtain ⟨g, cur, fz, rfl, hB, hg, _, hle, _, ht⟩ := h
  refine ⟨g, _, rfl, hB, fun k hk => ⟨g, 0, rfl, ?_⟩, hle⟩
  have h1 := RowT.cells hg ht k (.int .u8 d[k].toNat) (by unfold Lib.byteCells; rw [List.getElem?_map, List.getElem?_eq_getElem hk]; rfl)
  have e : (⟨g, 0, none⟩ : Addr).add k = ⟨g, k, none⟩ := by unfold Addr.add; split <;> simp_all
  rw [e] at h1
  rw [Nat.zero_add]
  exact h1
theorem RowT.own {B : Nat} {w : World} {v : Value} {d : Bs} (h : RowT B w v d) : ∀ k, v.ownBlock = some k → B ≤ k := by
  obtain ⟨g, cur, fz, rfl, hB, _⟩ := h
  intro k hk
  simp [Value.ownBlock] at hk
  omega
theorem rowT_conv (w : World) (s : ByteArray) (hs : s.size ≤ maxLen) : ∃ v w', (convert 9 22 (.string s)).run Tryd.prog w = .ok v w' ∧ RowT w.heap.size w' v s.data.toList ∧ Spares nowhere w w' := by
  have hl : s.data.toList.length = s.size := by simp
  have hge := grownCap_ge w s.size 0 5
  have hsz : (Lib.bytesCells w 5 s).size = grownCap w s.size 0 5 := by
    simp only [Lib.bytesCells, Array.size_append, Array.size_map, Array.size_replicate]
    have : s.data.size = s.size := rfl
    omega
  refine ⟨_, _, Lib.run_convert_string_bytes w 9 22 5 s Tryd.underlying9 Tryd.underlying22 Tryd.underlying5, ⟨w.heap.size, Lib.bytesCells w 5 s, _, by rw [hl, hsz], Nat.le_refl _, Lib.bytesWorld_at_new w 5 s, .inr (Nat.le_refl _), by rw [hl, hsz]; exact hge, by rw [hsz]; exact grownCap_le_maxLen w s.size 0 5 hs, ?_⟩, ?_, ?_, ?_, ?_, fun b hb _ => Lib.bytesWorld_at_old w _ s b hb⟩
  · rw [hl]
    simp only [Lib.bytesCells, Array.toList_append, Array.toList_map]
    rw [List.take_left' (by simp)]
    rfl
  · simp [Lib.bytesWorld, World.freeze, World.alloc, World.drew, -World.alloc_eq, -World.drew_eq]
  · simp [Lib.bytesWorld, World.freeze, World.alloc, World.drew, -World.alloc_eq, -World.drew_eq]
  · simp [Lib.bytesWorld, World.freeze, World.alloc, World.drew, -World.alloc_eq, -World.drew_eq]
  · rw [Lib.bytesWorld_size]; omega
section
variable {B : Nat} {w : World} {g : Nat} {cur : Array Value} {fz : Nat × Nat} {d l : Bs}
theorem rowT_room (hB : B ≤ g) (hg : w.heap[g]? = some (.cells cur 5 fz)) (hfz : fz.2 = 0 ∨ cur.size ≤ fz.1) (hm : cur.size ≤ maxLen) (ht : cur.toList.take d.length = Lib.byteCells d) (hroom : d.length + l.length ≤ cur.size) :
    RowT B (w.setRow g (cur.toList.take d.length ++ Lib.byteCells l ++ cur.toList.drop (d.length + l.length)).toArray) (.slice (some ⟨g, 0, none⟩) (d.length + l.length) cur.size) (d ++ l) ∧ w.grownBy (w.setRow g (cur.toList.take d.length ++ Lib.byteCells l ++ cur.toList.drop (d.length + l.length)).toArray) (some g) := by
  have hz : (cur.toList.take d.length ++ Lib.byteCells l ++ cur.toList.drop (d.length + l.length)).toArray.size = cur.size := by
    simp only [List.size_toArray, List.length_append, List.length_take, List.length_drop, Array.length_toList, byteCells_len]
    omega
  refine ⟨⟨g, _, fz, by rw [List.length_append, hz], hB, setRow_heap w g cur _ _ _ hg, by rw [hz]; exact hfz, by rw [List.length_append, hz]; exact hroom, by rw [hz]; exact hm, ?_⟩, ⟨rfl, rfl, rfl, by simp, fun k _ hk => setRow_other w g k _ (fun e => hk (by simp [e]))⟩⟩
  rw [ht, byteCells_app]
  exact List.take_left' (by simp [byteCells_len])
theorem rowT_new (hb : B ≤ w.heap.size) (cap : Nat) (hc : d.length + l.length ≤ cap) (hm : cap ≤ maxLen) :
    RowT B (w.drew.alloc (.cells ((Lib.byteCells d).toArray ++ (Lib.byteCells l).toArray ++ Builtin.zeroCells (Value.int .u8 0).cells (cap - (d.length + l.length))) 5)) (.slice (some ⟨w.heap.size, 0, none⟩) (d.length + l.length) cap) (d ++ l) ∧ ∀ r, w.grownBy (w.drew.alloc (.cells ((Lib.byteCells d).toArray ++ (Lib.byteCells l).toArray ++ Builtin.zeroCells (Value.int .u8 0).cells (cap - (d.length + l.length))) 5)) r := by
  have hz : ((Lib.byteCells d).toArray ++ (Lib.byteCells l).toArray ++ Builtin.zeroCells (Value.int .u8 0).cells (cap - (d.length + l.length))).size = cap := by
    have h1 : (Value.int IntKind.u8 0).cells.size = 1 := rfl
    simp only [Array.size_append, List.size_toArray, size_zeroCells, h1, byteCells_len]
    omega
  refine ⟨⟨w.heap.size, _, (0, 0), by rw [List.length_append, hz], hb, heap_alloc_new w.drew _, .inl rfl, by rw [List.length_append, hz]; exact hc, by rw [hz]; exact hm, ?_⟩, fun r => ⟨rfl, rfl, rfl, by simp, fun k hk _ => heap_alloc_old w.drew _ hk⟩⟩
  simp only [Array.toList_append]
  rw [byteCells_app]
  exact List.take_left' (by simp [byteCells_len])
end
theorem wpList_tail_bytes {w : World} {ops : Array Oper} {rest : List Oper} {o : Oper} {a : Act} {Q : Exit → Act → World → Prop} (hgd : o.guard = none) (s x : Operand)
    (ho : o.op = .call { callee := .builtin .append, args := #[s, x], argTypes := #[22, 22] })
    (B : Nat) (v : Value) (d : Bs) (hs : a.eval s = v) (hown : RowT B w v d) (ad : Option Addr) (c : Nat) (l : Bs) (hx : a.eval x = .slice ad l.length c) (hat : BytesAt w ad l) (hlen : d.length + l.length ≤ 1000000) (hB : B ≤ w.heap.size)
    (hK : ∀ v' w', RowT B w' v' (d ++ l) → w.grownBy w' v.ownBlock → wpList Tryd.prog ops Q rest (a.put o.dst v') w') : wpList Tryd.prog ops Q (o :: rest) a w := by
  refine wpList_plain hgd fun K hK' => ?_
  obtain ⟨i0, hi, hz0, hz1, hz2⟩ := info_parts byteInfo
  obtain ⟨g, cur, fz, rfl, hBg, hg, hfz, hle, hm, ht⟩ := hown
  have hrun : ∃ v' w', (Builtin.append_ #[22, 22] o.type #[.slice (some ⟨g, 0, none⟩) d.length cur.size, .slice ad l.length c]).run Tryd.prog w = .ok v' w' ∧ RowT B w' v' (d ++ l) ∧ w.grownBy w' (some g) := by
    have hf : (Builtin.firstCells 1 l.length (.slice ad l.length c)).run Tryd.prog w = .ok (Lib.byteCells l).toArray w := by
      by_cases he : l = []
      · subst he
        cases ad with
        | none => exact run_firstCells_none ..
        | some ad => exact run_firstCells_some (P := Tryd.prog) w 1 0 ad 0 c [] rfl (by simp)
      · obtain ⟨b, off, hab, _⟩ := hat 0 (List.length_pos_iff.2 he)
        subst hab
        exact run_firstCells_some (P := Tryd.prog) w 1 l.length ⟨b, off, none⟩ l.length c (Lib.byteCells l) (by simp [byteCells_len]) hat.cells
    by_cases hroom : d.length + l.length ≤ cur.size
    · have hst := stores_bare Tryd.prog g d.length 5 fz (Lib.byteCells l) 0 cur w hg hfz (by rw [byteCells_len]; omega) (byteCells_one l)
      simp only [Nat.add_zero, byteCells_len] at hst
      obtain ⟨h1, h2⟩ := rowT_room hBg hg hfz hm ht hroom
      refine ⟨_, _, ?_, h1, h2⟩
      simp [Builtin.append_, run_underlying Tryd.underlying22, sizeOf, typeInfo, hi, hz1, Builtin.lenOf, hroom, hf, Addr.add_lit, hst]
    · have he : l ≠ [] := by rintro rfl; simp at hroom; omega
      obtain ⟨b, off, hab, _⟩ := hat 0 (List.length_pos_iff.2 he)
      subst hab
      have hr := run_append_grow (P := Tryd.prog) w 22 o.type 5 i0 (.int .u8 0) Tryd.underlying22 hi hz0 ⟨g, 0, none⟩ d.length cur.size (Lib.byteCells d) (by rw [hz1]; simp [byteCells_len]) (RowT.cells hg ht) ⟨b, off, none⟩ l.length c (Lib.byteCells l) (by rw [hz1]; simp [byteCells_len]) hat.cells (by omega) (by omega) (by rw [hz2]; exact growslice_fits (by omega) (by omega))
      obtain ⟨h1, h2⟩ := rowT_new (B := B) (w := w) (d := d) (l := l) hB (grownCap w (d.length + l.length) cur.size 5) (grownCap_ge w _ _ _) (grownCap_le_maxLen w _ _ _ (by unfold maxLen; omega))
      exact ⟨_, _, hr, h1, h2 _⟩
  obtain ⟨v', w', hr, h1, h2⟩ := hrun
  unfold Oper.wp
  simp [execOp, ho, resolve, invoke, builtin, hs, hx, hr, Result.andThen]
  exact hK' _ _ (hK v' w' h1 h2)
theorem wpList_tail_str {w : World} {ops : Array Oper} {rest : List Oper} {o : Oper} {a : Act} {Q : Exit → Act → World → Prop} (hgd : o.guard = none) (s x : Operand)
    (ho : o.op = .call { callee := .builtin .append, args := #[s, x], argTypes := #[22, 9] })
    (B : Nat) (v : Value) (d : Bs) (hs : a.eval s = v) (hown : RowT B w v d) (t : ByteArray) (hx : a.eval x = .string t) (hlen : d.length + t.size ≤ 1000000) (hB : B ≤ w.heap.size)
    (hK : ∀ v' w', RowT B w' v' (d ++ t.data.toList) → w.grownBy w' v.ownBlock → wpList Tryd.prog ops Q rest (a.put o.dst v') w') : wpList Tryd.prog ops Q (o :: rest) a w := by
  refine wpList_plain hgd fun K hK' => ?_
  obtain ⟨i0, hi, hz0, hz1, hz2⟩ := info_parts byteInfo
  obtain ⟨g, cur, fz, rfl, hBg, hg, hfz, hle, hm, ht⟩ := hown
  have hl : t.data.toList.length = t.size := by simp
  have hsc : Lib.strCells t = Lib.byteCells t.data.toList := rfl
  have hrun : ∃ v' w', (Builtin.append_ #[22, 9] o.type #[.slice (some ⟨g, 0, none⟩) d.length cur.size, .string t]).run Tryd.prog w = .ok v' w' ∧ RowT B w' v' (d ++ t.data.toList) ∧ w.grownBy w' (some g) := by
    have hf := Lib.run_firstCells_string (P := Tryd.prog) w 1 t
    by_cases hroom : d.length + t.size ≤ cur.size
    · have hst := stores_bare Tryd.prog g d.length 5 fz (Lib.strCells t) 0 cur w hg hfz (by rw [hsc, byteCells_len]; omega) (by rw [hsc]; exact byteCells_one _)
      simp only [Nat.add_zero, hsc, byteCells_len] at hst hf
      obtain ⟨h1, h2⟩ := rowT_room (l := t.data.toList) hBg hg hfz hm ht (by omega)
      refine ⟨_, _, ?_, h1, h2⟩
      rw [hl] at hst ⊢
      simp [Builtin.append_, run_underlying Tryd.underlying22, run_underlying Tryd.underlying9, sizeOf, typeInfo, hi, hz1, Builtin.lenOf, hroom, hf, Addr.add_lit, hst]
    · have hr := Lib.run_append_grow_string (P := Tryd.prog) w 22 9 o.type 5 i0 (.int .u8 0) Tryd.underlying22 Tryd.underlying9 hi hz0 ⟨g, 0, none⟩ d.length cur.size (Lib.byteCells d) (by rw [hz1]; simp [byteCells_len]) (RowT.cells hg ht) t (by omega) (by omega) (by rw [hz2]; exact growslice_fits (by omega) (by omega))
      obtain ⟨h1, h2⟩ := rowT_new (B := B) (w := w) (d := d) (l := t.data.toList) hB (grownCap w (d.length + t.size) cur.size 5) (by rw [hl]; exact grownCap_ge w _ _ _) (grownCap_le_maxLen w _ _ _ (by unfold maxLen; omega))
      rw [hl] at h1 h2
      exact ⟨_, _, hr, h1, h2 _⟩
  obtain ⟨v', w', hr, h1, h2⟩ := hrun
  unfold Oper.wp
  simp [execOp, ho, resolve, invoke, builtin, hs, hx, hr, Result.andThen]
  exact hK' _ _ (hK v' w' h1 h2)

theorem wpList_conv_tail {w : World} {ops : Array Oper} {rest : List Oper} {o : Oper} {a : Act} {Q : Exit → Act → World → Prop} (hgd : o.guard = none) (x : Operand) (ho : o.op = .convert 9 22 x) (s : ByteArray) (hx : a.eval x = .string s) (hs : s.size ≤ 1000000)
    (hK : ∀ v w', RowT w.heap.size w' v s.data.toList → Spares nowhere w w' → wpList Tryd.prog ops Q rest (a.put o.dst v) w') : wpList Tryd.prog ops Q (o :: rest) a w := by
  refine wpList_plain hgd fun K hK' => ?_
  obtain ⟨v, w', hrun, h1, h2⟩ := rowT_conv w s (by unfold maxLen; omega)
  unfold Oper.wp
  simp [execOp, ho, hx, hrun, Result.andThen]
  exact hK' _ _ (hK v w' h1 h2)
theorem ends_lf (l : Bs) : EndsLF (l ++ [13, 10, 48, 13, 10, 13, 10]) := by
  intro c hc
  rw [List.getLast?_append] at hc
  simpa using hc.symm
set_option maxRecDepth 100000 in
set_option maxHeartbeats 8000000 in
theorem lines_any (s : ByteArray) (a : Option Addr) (c : Nat) (data : Bs) (w : World) (hb : BytesAt w a data) (hs : s.size ≤ 140737488351232) (hz : data.length ≤ 9223372036854775807) (hT : TabZ w) : Calls Tryd.prog 6 #[.string s, .slice a data.length c] w (Knows w) := by
  have HK := Lib.hid (known_any w hT)
  have HB := Lib.hid hb
  obtain ⟨D, hD⟩ : ∃ D, data.length = D := ⟨_, rfl⟩
  have HD := Lib.hid hD
  rw [hD] at hz ⊢
  unfold Knows at HK ⊢
  clear hT hb hD
  go_enter Tryd.func6, Tryd.ntmps6
  go_wp2_with fail
  refine HK.out.mono ?_
  rintro e w1 ⟨rfl, hs1⟩
  have HW1 := Lib.hid hs1
  clear hs1 HK
  by_cases l1 : (1100 : Int) < (s.size : Int)
  · go_wp2
    go_ret
    exact ⟨rfl, HW1.out⟩
  by_cases l2 : (300 : Int) < (D : Int)
  · go_wp2
    go_ret
    exact ⟨rfl, HW1.out⟩
  have hl (t : ByteArray) : t.data.toList.length = t.size := by simp
  have HSZ : Hid ((s ++ (⟨#[13, 10]⟩ : ByteArray)).size ≤ 1000000) := Lib.hid (by rw [ByteArray.size_append]; show _ + 2 ≤ _; omega)
  obtain ⟨S1, hS1⟩ : ∃ S1 : ByteArray, s ++ (⟨#[13, 10]⟩ : ByteArray) = S1 := ⟨_, rfl⟩
  have HS1 : Hid (S1.size ≤ 1102 ∧ S1.data.toList.length = S1.size) := Lib.hid ⟨by rw [← hS1, ByteArray.size_append]; show _ + 2 ≤ _; omega, hl S1⟩
  have HX1 : Hid (S1.data.toList.length + data.length ≤ 1000000) := Lib.hid (by rw [HS1.out.2, HD.out]; have := HS1.out.1; omega)
  have HX2 : Hid ((S1.data.toList ++ data).length + (⟨#[13, 10, 48, 13, 10, 13, 10]⟩ : ByteArray).size ≤ 1000000) := Lib.hid (by rw [List.length_append, HS1.out.2, HD.out]; have := HS1.out.1; show _ + 7 ≤ _; omega)
  rw [hS1] at HSZ
  have HD2 := HD.out
  subst HD2
  clear hl
  go_wp2_with (first
    | ((with_reducible show wpList _ _ _ (⟨some 24, _, _, _, _, _⟩ :: _) _ _); refine wpList_conv_tail rfl _ rfl S1 rfl HSZ.out ?_; intro v2 w2 hr2 hs2; have HR2 := Lib.hid hr2; have HS2 := Lib.hid hs2; clear hr2 hs2)
    | ((with_reducible show wpList _ _ _ (⟨some 26, _, _, _, _, _⟩ :: _) _ _); refine wpList_tail_bytes rfl _ _ rfl w1.heap.size _ S1.data.toList rfl HR2.out a c data rfl (HB.out.spares (HW1.out.trans HS2.out) (fun _ _ _ h => h)) HX1.out HS2.out.size ?_; intro v3 w3 hr3 hg3; have HR3 := Lib.hid hr3; have HS3 : Hid (Spares nowhere w1 w3) := Lib.hid (HS2.out.grown hg3 (fun k hk => .inr (HR2.out.own k hk))); clear hr3 hg3)
    | ((with_reducible show wpList _ _ _ (⟨some 28, _, _, _, _, _⟩ :: _) _ _); refine wpList_tail_str rfl _ _ rfl w1.heap.size _ (S1.data.toList ++ data) rfl HR3.out ⟨#[13, 10, 48, 13, 10, 13, 10]⟩ rfl HX2.out HS3.out.size ?_; intro v4 w4 hr4 hg4; have HR4 := Lib.hid hr4; have HS4 : Hid (Spares nowhere w1 w4) := Lib.hid (HS3.out.grown hg4 (fun k hk => .inr (HR3.out.own k hk))); clear hr4 hg4)
    | fail)
  have hr : RowT w1.heap.size w4 v4 ((S1.data.toList ++ data) ++ [13, 10, 48, 13, 10, 13, 10]) := HR4.out
  have hend := ends_lf (S1.data.toList ++ data)
  have hlen : ((S1.data.toList ++ data) ++ ([13, 10, 48, 13, 10, 13, 10] : Bs)).length ≤ 1000000 := by rw [List.length_append]; exact HX2.out
  obtain ⟨BB, hBB⟩ : ∃ BB : Bs, (S1.data.toList ++ data) ++ [13, 10, 48, 13, 10, 13, 10] = BB := ⟨_, rfl⟩
  rw [hBB] at hr hend hlen
  obtain ⟨g, cb, hv, hBg, hat, hc⟩ := hr.shape
  subst hv
  have HAT := Lib.hid hat
  have HC := Lib.hid hc
  have HEND := Lib.hid hend
  have HLEN := Lib.hid hlen
  have HW4 := Lib.hid (HW1.out.trans HS4.out)
  obtain ⟨bl, hbl⟩ : ∃ bl, BB.length = bl := ⟨_, rfl⟩
  have cO := open_any (some ⟨g, 0, none⟩) cb BB w4 hat hc (by omega)
  have CR : Hid (∀ W, BytesAt W (some ⟨g, 0, none⟩) BB → Calls Tryd.prog 17 #[.slice (some ⟨g, 0, none⟩) bl cb] W (OpenPost BB (openF fieldB BB) W)) := Lib.hid (fun W h => by rw [← hbl]; exact refChunks_any (some ⟨g, 0, none⟩) cb BB W h HC.out HLEN.out HEND.out)
  rw [hbl] at cO ⊢
  obtain ⟨R, hR⟩ : ∃ R, openF fieldB BB = R := ⟨_, rfl⟩
  rw [hR] at cO CR
  clear hr hend hlen hBB hat hc hR
  go_wp2_with fail
  refine cO.mono ?_
  rintro e w5 ⟨h5, hs5⟩
  have HW5 := Lib.hid (HW4.out.trans hs5)
  have HAT5 := Lib.hid (HAT.out.spares hs5 (fun _ _ _ h => h))
  have cC := CR.out w5 HAT5.out
  cases R with
  | error n =>
    have h5' : e = .returned (.tuple #[.slice none 0 0, .int .i64 0, .int .i64 n]) := h5
    subst h5'
    clear h5 cO
    go_wp2_with fail
    refine cC.mono ?_
    rintro e w6 ⟨h6, hs6⟩
    have h6' : e = .returned (.tuple #[.slice none 0 0, .int .i64 0, .int .i64 n]) := h6
    subst h6'
    have HW6 := Lib.hid (HW5.out.trans hs6)
    have cB := bytes_any [] [] none none 0 0 w6 (bytesAt_nil _ _) (bytesAt_nil _ _)
    rw [beq_self_eq_true] at cB
    change Calls _ _ #[.slice none 0 0, .slice none 0 0] _ _ at cB
    clear h6 cC hs6
    go_wp2_with fail
    refine cB.mono ?_
    rintro e w7 ⟨rfl, hw⟩
    subst hw
    go_wp2
    go_ret
    exact ⟨rfl, HW6.out⟩
  | ok br =>
    obtain ⟨body, r⟩ := br
    obtain ⟨v5, rfl, hr5⟩ := h5
    obtain ⟨a5, c5, hv5, hat5, hnn5, hc5⟩ := hr5.shape
    subst hv5
    have HAT5b := Lib.hid hat5
    obtain ⟨K, hK⟩ : ∃ K, BB.length - r.length = K := ⟨_, rfl⟩
    have HKK := Lib.hid hK
    rw [hK]
    clear hr5 hat5 hnn5 hc5 cO
    go_wp2_with fail
    refine cC.mono ?_
    rintro e w6 ⟨⟨v6, rfl, hr6⟩, hs6⟩
    rw [hK]
    obtain ⟨a6, c6, hv6, hat6, hnn6, hc6⟩ := hr6.shape
    subst hv6
    have HW6 := Lib.hid (HW5.out.trans hs6)
    have cB := bytes_any body body a5 a6 c5 c6 w6 (HAT5b.out.spares hs6 (fun _ _ _ h => h)) hat6
    rw [beq_self_eq_true] at cB
    clear hr6 hat6 hnn6 hc6 cC hs6 hK
    go_wp2_with fail
    refine cB.mono ?_
    rintro e w7 ⟨rfl, hw⟩
    subst hw
    go_wp2
    go_ret
    exact ⟨rfl, HW6.out⟩
end Go.Proofs.YtkfnebpooohflaaDoor
