/-
  A row of bytes that a conversion made, and zeros appended to it.
  Bytes appended to a row of bytes that a conversion made.
  HttpFrames.
-/
import Derived.Laws.CopyRow
import Derived.Lib.FrozenHead
import Derived.Lib.AppendZerosOnto
import Derived.Laws.OwnMore
import Derived.Test.YtjpmofnnjdhamaaGreatDoorMg5
import Derived.Test.YtjpmofnnjdhamaaGreatDoorMg25
import Derived.Test.YtjpmofnnjdhamaaGreatDoorMg28
namespace Go.Proofs.YtjpmofnnjdhamaaGreatDoor
open Go.RowKit HeadMath NormMath NormS HeadS ChunkMath HttpMath

theorem stores_bare (P : Program) (g o : Nat) (t : TypeId) (fz : Nat × Nat) (vs : List Value) : ∀ (i : Nat) (cur : Array Value) (w : World), w.heap[g]? = some (.cells cur t fz) → (fz.2 = 0 ∨ cur.size ≤ fz.1) → o + i + vs.length ≤ cur.size → (∀ v ∈ vs, v.oneCell' = true) →
    (storeCells ⟨g, o, none⟩ vs i).run P w = .ok () (w.setRow g (cur.toList.take (o + i) ++ vs ++ cur.toList.drop (o + i + vs.length)).toArray) := by
  induction vs with
  | nil =>
    intro i cur w hg _ _ _
    have e : cur.toList.take (o + i) ++ [] ++ cur.toList.drop (o + i + ([] : List Value).length) = cur.toList := by simp
    rw [e, Array.toArray_toList, setRow_self w g cur t fz hg]
    rfl
  | cons v rest ih =>
    intro i cur w hg hfz hl h1
    rw [List.length_cons] at hl
    have hi : o + i < cur.size := by omega
    have ha : (⟨g, o, none⟩ : Addr).add i = ⟨g, o + i, none⟩ := by unfold Addr.add; split <;> simp_all
    have hc : w.cell? ⟨g, o + i, none⟩ = some cur[o + i] := by simp [World.cell?, hg, hi]
    have hf : w.frozen? ⟨g, o + i, none⟩ = false := by
      obtain ⟨lo, up⟩ := fz
      simp only [World.frozen?, hg, Bool.and_eq_false_iff, decide_eq_false_iff_not]
      rcases hfz with h | h
      · right
        simp only at h
        omega
      · left
        simp only at h
        omega
    have hs : (store ((⟨g, o, none⟩ : Addr).add i) v).run P w = .ok () (w.setRow g (cur.setIfInBounds (o + i) v)) := by
      rw [ha, run_store P w _ v _ (h1 v (by simp)), hc]
      simp [hf, setCell_eq_setRow w g (o + i) cur t fz v hg]
    have hn := ih (i + 1) (cur.setIfInBounds (o + i) v) (w.setRow g (cur.setIfInBounds (o + i) v)) (setRow_heap w g cur _ t _ hg) (by rw [Array.size_setIfInBounds]; exact hfz) (by rw [Array.size_setIfInBounds]; omega) (fun x hx => h1 x (by simp [hx]))
    simp only [storeCells, Sem.run_bind, hs, Result.andThen_ok, hn, setRow_setRow]
    congr 3
    have e := list_seg_step cur.toList (o + i) v rest (by rw [Array.length_toList]; omega)
    simpa [Array.toList_setIfInBounds, Nat.add_assoc] using e

def RowT (B : Nat) (w : World) (v : Value) (d : Bs) : Prop := ∃ (g : Nat) (cur : Array Value) (fz : Nat × Nat), v = .slice (some ⟨g, 0, none⟩) d.length cur.size ∧ B ≤ g ∧ w.heap[g]? = some (.cells cur 5 fz) ∧ (fz.2 = 0 ∨ cur.size ≤ fz.1) ∧ d.length ≤ cur.size ∧ cur.size ≤ maxLen ∧ cur.toList.take d.length = Lib.byteCells d
theorem RowT.cells {w : World} {g : Nat} {cur : Array Value} {fz : Nat × Nat} {d : Bs} (hg : w.heap[g]? = some (.cells cur 5 fz)) (ht : cur.toList.take d.length = Lib.byteCells d) : ∀ j u, (Lib.byteCells d)[j]? = some u → w.cell? ((⟨g, 0, none⟩ : Addr).add j) = some u := by
  intro j u hu
  have e : (⟨g, 0, none⟩ : Addr).add j = ⟨g, j, none⟩ := by unfold Addr.add; split <;> simp_all
  rw [e, Lib.cell_of_heap hg]
  rw [← ht, List.getElem?_take] at hu
  split at hu
  · simpa using hu
  · cases hu
theorem RowT.shape {B : Nat} {w : World} {v : Value} {d : Bs} (h : RowT B w v d) : ∃ g c, v = .slice (some ⟨g, 0, none⟩) d.length c ∧ B ≤ g ∧ BytesAt w (some ⟨g, 0, none⟩) d ∧ d.length ≤ c := by
  obtain ⟨g, cur, fz, rfl, hB, hg, _, hle, _, ht⟩ := h
  refine ⟨g, _, rfl, hB, fun k hk => ⟨g, 0, rfl, ?_⟩, hle⟩
  have h1 := RowT.cells hg ht k (.int .u8 d[k].toNat) (by unfold Lib.byteCells; rw [List.getElem?_map, List.getElem?_eq_getElem hk]; rfl)
  have e : (⟨g, 0, none⟩ : Addr).add k = ⟨g, k, none⟩ := by unfold Addr.add; split <;> simp_all
  rw [e] at h1
  rw [Nat.zero_add]
  exact h1
theorem RowT.own {B : Nat} {w : World} {v : Value} {d : Bs} (h : RowT B w v d) : ∀ k, v.ownBlock = some k → B ≤ k := by
  obtain ⟨g, cur, fz, rfl, hB, _⟩ := h
  intro k hk
  simp [Value.ownBlock] at hk
  omega
theorem rowT_conv (w : World) (s : ByteArray) (hs : s.size ≤ maxLen) : ∃ v w', (convert 9 23 (.string s)).run Tryz.prog w = .ok v w' ∧ RowT w.heap.size w' v s.data.toList ∧ Spares nowhere w w' := by
  have hl : s.data.toList.length = s.size := by simp
  have hge := grownCap_ge w s.size 0 5
  have hsz : (Lib.bytesCells w 5 s).size = grownCap w s.size 0 5 := by
    simp only [Lib.bytesCells, Array.size_append, Array.size_map, Array.size_replicate]
    have : s.data.size = s.size := rfl
    omega
  refine ⟨_, _, Lib.run_convert_string_bytes w 9 23 5 s Tryz.underlying9 Tryz.underlying23 Tryz.underlying5, ⟨w.heap.size, Lib.bytesCells w 5 s, _, by rw [hl, hsz], Nat.le_refl _, Lib.bytesWorld_at_new w 5 s, .inr (Nat.le_refl _), by rw [hl, hsz]; exact hge, by rw [hsz]; exact grownCap_le_maxLen w s.size 0 5 hs, ?_⟩, ?_, ?_, ?_, ?_, fun b hb _ => Lib.bytesWorld_at_old w _ s b hb⟩
  · rw [hl]
    simp only [Lib.bytesCells, Array.toList_append, Array.toList_map]
    rw [List.take_left' (by simp)]
    rfl
  · simp [Lib.bytesWorld, World.freeze, World.alloc, World.drew, -World.alloc_eq, -World.drew_eq]
  · simp [Lib.bytesWorld, World.freeze, World.alloc, World.drew, -World.alloc_eq, -World.drew_eq]
  · simp [Lib.bytesWorld, World.freeze, World.alloc, World.drew, -World.alloc_eq, -World.drew_eq]
  · rw [Lib.bytesWorld_size]; omega
section
variable {B : Nat} {w : World} {g : Nat} {cur : Array Value} {fz : Nat × Nat} {d l : Bs}
theorem rowT_room (hB : B ≤ g) (hg : w.heap[g]? = some (.cells cur 5 fz)) (hfz : fz.2 = 0 ∨ cur.size ≤ fz.1) (hm : cur.size ≤ maxLen) (ht : cur.toList.take d.length = Lib.byteCells d) (hroom : d.length + l.length ≤ cur.size) :
    RowT B (w.setRow g (cur.toList.take d.length ++ Lib.byteCells l ++ cur.toList.drop (d.length + l.length)).toArray) (.slice (some ⟨g, 0, none⟩) (d.length + l.length) cur.size) (d ++ l) ∧ w.grownBy (w.setRow g (cur.toList.take d.length ++ Lib.byteCells l ++ cur.toList.drop (d.length + l.length)).toArray) (some g) := by
  have hz : (cur.toList.take d.length ++ Lib.byteCells l ++ cur.toList.drop (d.length + l.length)).toArray.size = cur.size := by
    simp only [List.size_toArray, List.length_append, List.length_take, List.length_drop, Array.length_toList, byteCells_len]
    omega
  refine ⟨⟨g, _, fz, by rw [List.length_append, hz], hB, setRow_heap w g cur _ _ _ hg, by rw [hz]; exact hfz, by rw [List.length_append, hz]; exact hroom, by rw [hz]; exact hm, ?_⟩, ⟨rfl, rfl, rfl, by simp, fun k _ hk => setRow_other w g k _ (fun e => hk (by simp [e]))⟩⟩
  rw [ht, byteCells_app]
  exact List.take_left' (by simp [byteCells_len])
theorem rowT_new (hb : B ≤ w.heap.size) (cap : Nat) (hc : d.length + l.length ≤ cap) (hm : cap ≤ maxLen) :
    RowT B (w.drew.alloc (.cells ((Lib.byteCells d).toArray ++ (Lib.byteCells l).toArray ++ Builtin.zeroCells (Value.int .u8 0).cells (cap - (d.length + l.length))) 5)) (.slice (some ⟨w.heap.size, 0, none⟩) (d.length + l.length) cap) (d ++ l) ∧ ∀ r, w.grownBy (w.drew.alloc (.cells ((Lib.byteCells d).toArray ++ (Lib.byteCells l).toArray ++ Builtin.zeroCells (Value.int .u8 0).cells (cap - (d.length + l.length))) 5)) r := by
  have hz : ((Lib.byteCells d).toArray ++ (Lib.byteCells l).toArray ++ Builtin.zeroCells (Value.int .u8 0).cells (cap - (d.length + l.length))).size = cap := by
    have h1 : (Value.int IntKind.u8 0).cells.size = 1 := rfl
    simp only [Array.size_append, List.size_toArray, size_zeroCells, h1, byteCells_len]
    omega
  refine ⟨⟨w.heap.size, _, (0, 0), by rw [List.length_append, hz], hb, heap_alloc_new w.drew _, .inl rfl, by rw [List.length_append, hz]; exact hc, by rw [hz]; exact hm, ?_⟩, fun r => ⟨rfl, rfl, rfl, by simp, fun k hk _ => heap_alloc_old w.drew _ hk⟩⟩
  simp only [Array.toList_append]
  rw [byteCells_app]
  exact List.take_left' (by simp [byteCells_len])
end
theorem zeros_mk (k : Nat) : Builtin.zeroCells (Value.int IntKind.u8 0).cells k = (Lib.byteCells (List.replicate k 0)).toArray := by
  apply Array.ext
  · simp [Builtin.zeroCells, Lib.byteCells, Value.cells]
  · intro i h1 h2
    simp [Builtin.zeroCells, Lib.byteCells, Value.cells, Nat.mod_one] at h1 ⊢
/-- append(v, make([]byte, k)...). -/
theorem wpList_tail_zeros {w : World} {ops : Array Oper} {rest : List Oper} {o : Oper} {a : Act} {Q : Exit → Act → World → Prop} (hgd : o.guard = none) (s x : Operand)
    (ho : o.op = .call { callee := .builtin .append, args := #[s, x], argTypes := #[23, 3] })
    (B : Nat) (v : Value) (d : Bs) (hs : a.eval s = v) (hown : RowT B w v d) (k : Nat) (hk0 : 0 < k) (hx : a.eval x = .int .i64 k) (hlen : d.length + k ≤ 1000000) (hB : B ≤ w.heap.size)
    (hK : ∀ v' w', RowT B w' v' (d ++ List.replicate k 0) → w.grownBy w' v.ownBlock → wpList Tryz.prog ops Q rest (a.put o.dst v') w') : wpList Tryz.prog ops Q (o :: rest) a w := by
  refine wpList_plain hgd fun K hK' => ?_
  obtain ⟨i0, hi, hz0, hz1, hz2⟩ := info_parts byteInfo
  obtain ⟨g, cur, fz, rfl, hBg, hg, hfz, hle, hm, ht⟩ := hown
  have hrl : (List.replicate k (0 : UInt8)).length = k := by simp
  have hrun : ∃ v' w', (Builtin.append_ #[23, 3] o.type #[.slice (some ⟨g, 0, none⟩) d.length cur.size, .int .i64 k]).run Tryz.prog w = .ok v' w' ∧ RowT B w' v' (d ++ List.replicate k 0) ∧ w.grownBy w' (some g) := by
    by_cases hroom : d.length + k ≤ cur.size
    · have hst := stores_bare Tryz.prog g d.length 5 fz (Lib.byteCells (List.replicate k 0)) 0 cur w hg hfz (by rw [byteCells_len, hrl]; omega) (byteCells_one _)
      simp only [Nat.add_zero, byteCells_len, hrl] at hst
      obtain ⟨h1, h2⟩ := rowT_room (l := List.replicate k 0) hBg hg hfz hm ht (by rw [hrl]; exact hroom)
      rw [hrl] at h1 h2
      have hw : IntKind.i64.wrap (k : Int) = k := by rw [IntKind.wrap_i64]; omega
      have hneg : ¬ ((k : Int) < 0) := by omega
      have h48i : ¬ (281474976710656 < (k : Int) * (i0.bytes : Int)) := by rw [← Int.natCast_mul, hz2]; omega
      have hns : ¬ (k = 0) := by omega
      refine ⟨_, _, ?_, h1, h2⟩
      simp [Builtin.append_, run_underlying Tryz.underlying23, run_underlying Tryz.underlying3, sizeOf, typeInfo, zeroValue, hi, hz0, hz1, asInt, asIntOf, hw, hneg, h48i, hns, hroom, Addr.add_lit, zeros_mk, hst]
    · have hf := run_firstCells_some (P := Tryz.prog) w.drew 1 d.length ⟨g, 0, none⟩ d.length cur.size (Lib.byteCells d) (by simp [byteCells_len]) (fun j u hj => RowT.cells (w := w) hg ht j u hj)
      rw [← hz1] at hf
      have hr := Lib.run_append_grow_zeros (P := Tryz.prog) w 23 3 o.type 5 i0 (.int .u8 0) .i64 .i64 Tryz.underlying23 Tryz.underlying3 hi hz0 (some ⟨g, 0, none⟩) d.length cur.size (Lib.byteCells d) hf k hk0 (by omega) (by omega) (by omega) (by rw [hz2]; omega) (by rw [hz2]; exact growslice_fits (by omega) (by omega))
      obtain ⟨h1, h2⟩ := rowT_new (B := B) (w := w) (d := d) (l := List.replicate k 0) hB (grownCap w (d.length + k) cur.size 5) (by rw [hrl]; exact grownCap_ge w _ _ _) (grownCap_le_maxLen w _ _ _ (by unfold maxLen; omega))
      rw [hrl, ← zeros_mk] at h1 h2
      exact ⟨_, _, hr, h1, h2 _⟩
  obtain ⟨v', w', hr, h1, h2⟩ := hrun
  unfold Oper.wp
  simp [execOp, ho, resolve, invoke, builtin, hs, hx, hr, Result.andThen]
  exact hK' _ _ (hK v' w' h1 h2)
theorem rowT_lit (w : World) (l : Bs) (hl : l.length ≤ 1000000) : RowT w.heap.size (w.alloc (.cells (bytesV l) 5 ((bytesV l).size, (bytesV l).size + 1))) (.slice (some ⟨w.heap.size, 0, none⟩) l.length l.length) l := by
  have hz : (bytesV l).size = l.length := by simp [bytesV, Lib.byteCells]
  refine ⟨w.heap.size, bytesV l, _, by rw [hz], Nat.le_refl _, heap_alloc_new _ _, .inr (Nat.le_refl _), by rw [hz]; exact Nat.le_refl _, ?_, ?_⟩
  · rw [hz]; unfold maxLen; omega
  · rw [← hz]
    simp [bytesV]
end Go.Proofs.YtjpmofnnjdhamaaGreatDoor
namespace Go.Proofs.YtjpmofnnjdhamaaGreatDoor
open Go.RowKit HeadMath NormMath NormS HeadS ChunkMath HttpMath

/-- append(v, x...) of bytes that stand below. -/
theorem wpList_tail_bytes {w : World} {ops : Array Oper} {rest : List Oper} {o : Oper} {a : Act} {Q : Exit → Act → World → Prop} (hgd : o.guard = none) (s x : Operand)
    (ho : o.op = .call { callee := .builtin .append, args := #[s, x], argTypes := #[23, 23] })
    (B : Nat) (v : Value) (d : Bs) (hs : a.eval s = v) (hown : RowT B w v d) (ad : Option Addr) (c n : Nat) (l : Bs) (hx : a.eval x = .slice ad n c) (hn : n = l.length) (hat : BytesAt w ad l) (hnil : ad = none → c = 0) (hlen : d.length + n ≤ 1000000) (hB : B ≤ w.heap.size)
    (hK : ∀ v' w', RowT B w' v' (d ++ l) → w.grownBy w' v.ownBlock → wpList Tryz.prog ops Q rest (a.put o.dst v') w') : wpList Tryz.prog ops Q (o :: rest) a w := by
  subst hn
  refine wpList_plain hgd fun K hK' => ?_
  obtain ⟨i0, hi, hz0, hz1, hz2⟩ := info_parts byteInfo
  have hown' := hown
  obtain ⟨g, cur, fz, rfl, hBg, hg, hfz, hle, hm, ht⟩ := hown
  have hrun : ∃ v' w', (Builtin.append_ #[23, 23] o.type #[.slice (some ⟨g, 0, none⟩) d.length cur.size, .slice ad l.length c]).run Tryz.prog w = .ok v' w' ∧ RowT B w' v' (d ++ l) ∧ w.grownBy w' (some g) := by
    cases ad with
    | none =>
      obtain rfl := hnil rfl
      obtain rfl : l = [] := by
        cases l with
        | nil => rfl
        | cons y l => obtain ⟨_, _, e, _⟩ := hat 0 (by simp); cases e
      refine ⟨_, w, ?_, by rw [List.append_nil]; exact hown', ⟨rfl, rfl, rfl, Nat.le_refl _, fun _ _ _ => rfl⟩⟩
      simp [Builtin.append_, run_underlying Tryz.underlying23, sizeOf, typeInfo, hi, Builtin.lenOf, Builtin.firstCells, hle, storeCells]
    | some ad =>
      by_cases he : l = []
      · subst he
        refine ⟨_, w, ?_, by rw [List.append_nil]; exact hown', ⟨rfl, rfl, rfl, Nat.le_refl _, fun _ _ _ => rfl⟩⟩
        have hf := run_firstCells_some (P := Tryz.prog) w i0.size 0 ad 0 c [] (by simp) (by simp)
        simp [Builtin.append_, run_underlying Tryz.underlying23, sizeOf, typeInfo, hi, Builtin.lenOf, hle, hf, storeCells]
      · obtain ⟨b, off, hab, _⟩ := hat 0 (List.length_pos_iff.2 he)
        injection hab with hab
        subst hab
        by_cases hroom : d.length + l.length ≤ cur.size
        · have hst := stores_bare Tryz.prog g d.length 5 fz (Lib.byteCells l) 0 cur w hg hfz (by rw [byteCells_len]; omega) (byteCells_one _)
          simp only [Nat.add_zero, byteCells_len] at hst
          obtain ⟨h1, h2⟩ := rowT_room (l := l) hBg hg hfz hm ht hroom
          have hf := run_firstCells_some (P := Tryz.prog) w 1 l.length ⟨b, off, none⟩ l.length c (Lib.byteCells l) (by simp [byteCells_len]) hat.cells
          rw [← hz1] at hf
          refine ⟨_, _, ?_, h1, h2⟩
          simp [Builtin.append_, run_underlying Tryz.underlying23, sizeOf, typeInfo, hi, hz1, Builtin.lenOf, hroom, Addr.add_lit]
          try (rw [hz1] at hf; simp [hf, hst])
        · have hr := run_append_grow (P := Tryz.prog) w 23 o.type 5 i0 (.int .u8 0) Tryz.underlying23 hi hz0 ⟨g, 0, none⟩ d.length cur.size (Lib.byteCells d) (by rw [byteCells_len, hz1, Nat.mul_one]) (fun j u hj => RowT.cells (w := w) hg ht j u hj) ⟨b, off, none⟩ l.length c (Lib.byteCells l) (by rw [byteCells_len, hz1, Nat.mul_one]) hat.cells (by omega) (by omega) (by rw [hz2]; exact growslice_fits (by omega) (by omega))
          obtain ⟨h1, h2⟩ := rowT_new (B := B) (w := w) (d := d) (l := l) hB (grownCap w (d.length + l.length) cur.size 5) (grownCap_ge w _ _ _) (grownCap_le_maxLen w _ _ _ (by unfold maxLen; omega))
          exact ⟨_, _, hr, h1, h2 _⟩
  obtain ⟨v', w', hr, h1, h2⟩ := hrun
  unfold Oper.wp
  simp [execOp, ho, resolve, invoke, builtin, hs, hx, hr, Result.andThen]
  exact hK' _ _ (hK v' w' h1 h2)
end Go.Proofs.YtjpmofnnjdhamaaGreatDoor
namespace Go.Proofs.YtjpmofnnjdhamaaGreatDoor
open Go.RowKit HeadMath NormMath NormS HeadS ChunkMath HttpMath

theorem RowT.slice {B : Nat} {w : World} {v : Value} {d : Bs} (h : RowT B w v d) (n : Nat) (hn : d.length = n) : ∃ g c, v = .slice (some ⟨g, 0, none⟩) n c ∧ BytesAt w (some ⟨g, 0, none⟩) d ∧ n ≤ c := by
  obtain ⟨g, c, h1, _, h3, h4⟩ := h.shape
  exact ⟨g, c, by rw [h1, hn], h3, by omega⟩
set_option maxRecDepth 100000 in
set_option maxHeartbeats 16000000 in
/-- The law of framing fields. -/
theorem framesLaw_any (te cl : List ByteArray) (body : Bs) (aT aC ab : Option Addr) (nT cT nC cC nb cb : Nat) (post : Bool) (w : World) (hT : StrsAt w aT te) (hC : StrsAt w aC cl) (hb : BytesAt w ab body) (hnT : te.length = nT) (hnC : cl.length = nC) (hnb : body.length = nb) (hnil : ab = none → cb = 0) (hmT : nT ≤ maxLen) (hmC : nC ≤ maxLen) (hmB : nb ≤ maxLen) (hsT : ∀ s ∈ te, s.size ≤ maxLen) (hsC : ∀ s ∈ cl, s.size ≤ maxLen) (hM : MaxL w) :
    Calls Tryz.prog 5 #[.slice aT nT cT, .slice aC nC cC, .slice ab nb cb, .bool post] w (KnowsH w) := by
  have K := knownH_any w hM
  unfold maxLen at hmT hmC hmB hsT hsC
  unfold KnowsH at K ⊢
  have HM := Lib.hid hM
  have HNT := Lib.hid hnT
  have HNC := Lib.hid hnC
  have HNB := Lib.hid hnb
  have HST := Lib.hid hsT
  have HSC := Lib.hid hsC
  have HNIL := Lib.hid hnil
  have HT := Lib.hid hT
  have HC := Lib.hid hC
  have HB := Lib.hid hb
  clear hM hnT hnC hnb hsT hsC hnil hT hC hb
  by_cases h1 : 4 < nT
  · have d0 : (4 : Int) < (nT : Int) := by omega
    go_enter Tryz.func5, Tryz.ntmps5
    go_wp2_with fail
    refine K.mono ?_
    rintro _ w1 ⟨rfl, hs1⟩
    go_wp2
    go_ret
    exact ⟨rfl, hs1⟩
  have d0 : ¬ (4 : Int) < (nT : Int) := by omega
  by_cases h2 : 4 < nC
  · have d1 : (4 : Int) < (nC : Int) := by omega
    go_enter Tryz.func5, Tryz.ntmps5
    go_wp2_with fail
    refine K.mono ?_
    rintro _ w1 ⟨rfl, hs1⟩
    go_wp2
    go_ret
    exact ⟨rfl, hs1⟩
  have d1 : ¬ (4 : Int) < (nC : Int) := by omega
  by_cases h3 : 500 < nb
  · have d2 : (500 : Int) < (nb : Int) := by omega
    go_enter Tryz.func5, Tryz.ntmps5
    go_wp2_with fail
    refine K.mono ?_
    rintro _ w1 ⟨rfl, hs1⟩
    go_wp2
    go_ret
    exact ⟨rfl, hs1⟩
  have d2 : ¬ (500 : Int) < (nb : Int) := by omega
  have z19 : (⟨#[84, 114, 97, 110, 115, 102, 101, 114, 45, 69, 110, 99, 111, 100, 105, 110, 103, 58, 32]⟩ : ByteArray).size = 19 := rfl
  have z16 : (⟨#[99, 111, 110, 116, 101, 110, 116, 45, 108, 101, 110, 103, 116, 104, 58, 32]⟩ : ByteArray).size = 16 := rfl
  have z2 : (⟨#[13, 10]⟩ : ByteArray).size = 2 := rfl
  have z17 : (⟨#[80, 79, 83, 84, 32, 47, 32, 72, 84, 84, 80, 47, 49, 46, 49, 13, 10]⟩ : ByteArray).size = 17 := rfl
  have z14 : (⟨#[72, 84, 84, 80, 47, 49, 46, 49, 32, 50, 48, 48, 13, 10]⟩ : ByteArray).size = 14 := rfl
  go_enter Tryz.func5, Tryz.ntmps5
  go_wp2_with fail
  refine K.mono ?_
  rintro _ w1 ⟨rfl, hs1⟩
  have HS1 := Lib.hid hs1
  have HT1 := Lib.hid (HT.out.spares hs1 (fun _ _ _ h => h))
  have HC1 := Lib.hid (HC.out.spares hs1 (fun _ _ _ h => h))
  clear hs1 K HT HC
  go_wp2
  go_loopw [9, 10] (fun sv iv wr => ∃ (j : Nat) (S : ByteArray), j ≤ nT ∧ iv = .int .i64 j ∧ sv = .string S ∧ wr = w1 ∧ Hid (FrS S j) ∧ S.size ≤ 9 + 80 * j) (fun _ iv _ => nT - (intOf iv).toNat)
  case atStart => exact ⟨0, _, Nat.zero_le _, rfl, rfl, rfl, Lib.hid frS_start, by decide⟩
  case round =>
    obtain ⟨j, S, hj, rfl, rfl, rfl, HF, hSs⟩ := hrel
    by_cases hlt : j < nT
    · have hj2 : j < te.length := by have := HNT.out; omega
      obtain ⟨b, off, rfl, hc⟩ := HT1.out j hj2
      have hsz := HST.out _ (List.getElem_mem hj2)
      obtain ⟨v, hv⟩ : ∃ v, te[j] = v := ⟨_, rfl⟩
      rw [hv] at hc hsz
      clear hv
      have j1 : (j : Int) < (nT : Int) := by omega
      by_cases h50 : 50 < v.size
      · have j3 : (50 : Int) < (v.size : Int) := by omega
        go_wp2
        go_ret
        exact ⟨rfl, HS1.out⟩
      have j3 : ¬ (50 : Int) < (v.size : Int) := by omega
      have X := refValue_any v wr (by omega)
      obtain ⟨t, ht⟩ : ∃ t, valueF v.data.toList = t := ⟨_, rfl⟩
      rw [ht] at X
      cases t with
      | false =>
        clear ht
        go_wp2_with fail
        refine X.mono ?_
        rintro _ w2 ⟨rfl, hw⟩
        subst hw
        go_wp2
        go_ret
        exact ⟨rfl, HS1.out⟩
      | true =>
        have HF2 := Lib.hid (frS_te HF.out ht (by omega))
        have hS2 : (S ++ (⟨#[84, 114, 97, 110, 115, 102, 101, 114, 45, 69, 110, 99, 111, 100, 105, 110, 103, 58, 32]⟩ : ByteArray) ++ v ++ (⟨#[13, 10]⟩ : ByteArray)).size ≤ 9 + 80 * (j + 1) := by
          rw [ByteArray.size_append, ByteArray.size_append, ByteArray.size_append, z19, z2]; omega
        clear ht
        go_wp2_with fail
        refine X.mono ?_
        rintro _ w2 ⟨rfl, hw⟩
        subst hw
        go_wp2
        go_roundw
        case rel => exact ⟨j + 1, _, by omega, by go_num, rfl, trivial, HF2, hS2⟩
        case measure => simp [intOf]; omega
    · obtain rfl : j = nT := by omega
      have j1 : ¬ (j : Int) < (j : Int) := by omega
      go_wp2
      go_loopw [9, 11] (fun sv iv wz => ∃ (j : Nat) (S : ByteArray), j ≤ nC ∧ iv = .int .i64 j ∧ sv = .string S ∧ wz = wr ∧ Hid (FrS S (4 + j)) ∧ S.size ≤ 9 + 80 * (4 + j)) (fun _ iv _ => nC - (intOf iv).toNat)
      case atStart => exact ⟨0, _, Nat.zero_le _, rfl, rfl, rfl, Lib.hid (frS_le HF.out (by omega)), by omega⟩
      case round =>
        obtain ⟨i, S, hi, rfl, rfl, rfl, HF, hSs⟩ := hrel
        by_cases hlt : i < nC
        · have hj2 : i < cl.length := by have := HNC.out; omega
          obtain ⟨b, off, rfl, hc⟩ := HC1.out i hj2
          have hsz := HSC.out _ (List.getElem_mem hj2)
          obtain ⟨v, hv⟩ : ∃ v, cl[i] = v := ⟨_, rfl⟩
          rw [hv] at hc hsz
          clear hv
          have j2 : (i : Int) < (nC : Int) := by omega
          by_cases h50 : 50 < v.size
          · have j3 : (50 : Int) < (v.size : Int) := by omega
            go_wp2
            go_ret
            exact ⟨rfl, HS1.out⟩
          have j3 : ¬ (50 : Int) < (v.size : Int) := by omega
          have X := refValue_any v wr (by omega)
          obtain ⟨t, ht⟩ : ∃ t, valueF v.data.toList = t := ⟨_, rfl⟩
          rw [ht] at X
          cases t with
          | false =>
            clear ht
            go_wp2_with fail
            refine X.mono ?_
            rintro _ w2 ⟨rfl, hw⟩
            subst hw
            go_wp2
            go_ret
            exact ⟨rfl, HS1.out⟩
          | true =>
            have HF2 := Lib.hid (frS_cl HF.out ht (by omega))
            have hS2 : (S ++ (⟨#[99, 111, 110, 116, 101, 110, 116, 45, 108, 101, 110, 103, 116, 104, 58, 32]⟩ : ByteArray) ++ v ++ (⟨#[13, 10]⟩ : ByteArray)).size ≤ 9 + 80 * (4 + (i + 1)) := by
              rw [ByteArray.size_append, ByteArray.size_append, ByteArray.size_append, z16, z2]; omega
            clear ht
            go_wp2_with fail
            refine X.mono ?_
            rintro _ w2 ⟨rfl, hw⟩
            subst hw
            go_wp2
            go_roundw
            case rel => exact ⟨i + 1, _, by omega, by go_num, rfl, trivial, HF2, hS2⟩
            case measure => simp [intOf]; omega
        · obtain rfl : i = nC := by omega
          have j2 : ¬ (i : Int) < (i : Int) := by omega
          have HFR := Lib.hid (frS_le HF.out (show 4 + i ≤ 8 by omega))
          have hS3 : S.size ≤ 700 := by omega
          obtain ⟨X1, hX1⟩ : ∃ X : ByteArray, (⟨#[80, 79, 83, 84, 32, 47, 32, 72, 84, 84, 80, 47, 49, 46, 49, 13, 10]⟩ : ByteArray) ++ S ++ (⟨#[13, 10]⟩ : ByteArray) = X := ⟨_, rfl⟩
          obtain ⟨X2, hX2⟩ : ∃ X : ByteArray, (⟨#[72, 84, 84, 80, 47, 49, 46, 49, 32, 50, 48, 48, 13, 10]⟩ : ByteArray) ++ S ++ (⟨#[13, 10]⟩ : ByteArray) = X := ⟨_, rfl⟩
          have hX1s : X1.size ≤ 800 := by rw [← hX1, ByteArray.size_append, ByteArray.size_append, z17, z2]; omega
          have hX2s : X2.size ≤ 800 := by rw [← hX2, ByteArray.size_append, ByteArray.size_append, z14, z2]; omega
          obtain ⟨B1, hB1⟩ : ∃ B, X1.data.toList ++ body = B := ⟨_, rfl⟩
          obtain ⟨B2, hB2⟩ : ∃ B, X2.data.toList ++ body = B := ⟨_, rfl⟩
          obtain ⟨n1, hn1⟩ : ∃ n, B1.length = n := ⟨_, rfl⟩
          obtain ⟨n2, hn2⟩ : ∃ n, B2.length = n := ⟨_, rfl⟩
          have hbl : body.length ≤ 500 := by have := HNB.out; omega
          have hn1s : n1 ≤ 1300 := by rw [← hn1, ← hB1, List.length_append, size_list]; omega
          have hn2s : n2 ≤ 1300 := by rw [← hn2, ← hB2, List.length_append, size_list]; omega
          have HR1 : Hid (∀ ls rest, headF B1 = .ok (ls, rest) → FitL rest) := Lib.hid (fun ls rest hH => fitL_short (fr_rest (l0 := postL) (by decide) (by decide) HFR.out (Nat.le_refl _) (by
            rw [← hB1, ← hX1, ByteArray.data_append, ByteArray.data_append]
            simp [postL, crlf2]) hbl ls rest hH))
          have HR2 : Hid (∀ ls rest, headF B2 = .ok (ls, rest) → FitL rest) := Lib.hid (fun ls rest hH => fitL_short (fr_rest (l0 := okL2) (by decide) (by decide) HFR.out (Nat.le_refl _) (by
            rw [← hB2, ← hX2, ByteArray.data_append, ByteArray.data_append]
            simp [okL2, crlf2]) hbl ls rest hH))
          have HB1 := Lib.hid hB1
          have HB2 := Lib.hid hB2
          have HN1 := Lib.hid hn1
          have HN2 := Lib.hid hn2
          obtain ⟨v2, w2, hcv, hT2, hs2⟩ := rowT_conv wr X1 (by unfold maxLen; omega)
          have HT2 := Lib.hid hT2
          have HS12 := Lib.hid hs2
          have HS2 := Lib.hid (HS1.out.trans hs2)
          have HD1 : Hid (X1.data.toList.length + nb ≤ 1000000) := Lib.hid (by rw [size_list]; omega)
          have HD2 : Hid (X2.data.toList.length + nb ≤ 1000000) := Lib.hid (by rw [size_list]; omega)
          clear hB1 hB2 hn1 hn2 hT2 hs2 HF hbl z19 z16
          go_wp2_with (at_builtin; refine wpList_tail_bytes rfl _ _ rfl wr.heap.size _ _ rfl HT2.out ab cb nb body rfl HNB.out.symm (HB.out.spares' HS2.out (fun _ _ _ _ h => h)) HNIL.out HD1.out HS12.out.size ?_)
          intro v3 w3 hT3 hg3
          have HS3 : Hid (Spares nowhere wr w3) := Lib.hid (HS12.out.grown hg3 (fun k hk => .inr (HT2.out.own k hk)))
          rw [HB1.out] at hT3
          obtain ⟨ga, gc, rfl, hat3, hcc3⟩ := hT3.slice n1 HN1.out
          have HAT1 : Hid (∀ W, Spares nowhere w3 W → BytesAt W (some ⟨ga, 0, none⟩) B1) := Lib.hid (fun W h => hat3.spares' h (fun _ _ _ _ h => h))
          have HSW3 : Hid (Spares nowhere w w3) := Lib.hid (HS1.out.trans HS3.out)
          obtain ⟨v4, w4, hcv4, hT4, hs4⟩ := rowT_conv w3 X2 (by unfold maxLen; omega)
          have HT4 := Lib.hid hT4
          have HS34 := Lib.hid hs4
          have HS4 := Lib.hid (HSW3.out.trans hs4)
          clear hT3 hg3 hat3 hT4 hs4 hcv
          go_wp2_with (at_builtin; refine wpList_tail_bytes rfl _ _ rfl w3.heap.size _ _ rfl HT4.out ab cb nb body rfl HNB.out.symm (HB.out.spares' HS4.out (fun _ _ _ _ h => h)) HNIL.out HD2.out HS34.out.size ?_)
          intro v5 w5 hT5 hg5
          have HS5 : Hid (Spares nowhere w3 w5) := Lib.hid (HS34.out.grown hg5 (fun k hk => .inr (HT4.out.own k hk)))
          rw [HB2.out] at hT5
          obtain ⟨gb, gd, rfl, hat5, hcc5⟩ := hT5.slice n2 HN2.out
          have HAT2 : Hid (∀ W, Spares nowhere w5 W → BytesAt W (some ⟨gb, 0, none⟩) B2) := Lib.hid (fun W h => hat5.spares' h (fun _ _ _ _ h => h))
          have HSW5 : Hid (Spares nowhere w w5) := Lib.hid (HSW3.out.trans HS5.out)
          obtain ⟨rq, hrq⟩ : ∃ rq, requestF B1 = rq := ⟨_, rfl⟩
          obtain ⟨rp, hrp⟩ : ∃ rp, responseF B2 ⟨#[71, 69, 84]⟩ = rp := ⟨_, rfl⟩
          have HQF : Hid ((qF rq).length ≤ 1000000) := Lib.hid (by rw [← hrq]; exact qF_few (by rw [HN1.out]; omega))
          have HPF : Hid ((rF rp).length ≤ 1000000) := Lib.hid (by rw [← hrp]; exact rF_few (by rw [HN2.out]; omega))
          have HRQ := Lib.hid hrq
          have HRP := Lib.hid hrp
          have CQ : Hid (∀ W, Spares nowhere w5 W → Calls Tryz.prog 19 #[.slice (some ⟨ga, 0, none⟩) n1 gc] W (ReqPost rq W)) := Lib.hid (fun W h => by
            rw [← HRQ.out]
            exact request_any B1 _ gc n1 W HN1.out.symm (HAT1.out W (HS5.out.trans h)) (by rw [HN1.out]; exact hcc3) (fun e => by cases e) (by rw [HN1.out]; omega) (HM.out.spares (HSW5.out.trans h)))
          have CQR : Hid (∀ W, Spares nowhere w5 W → Calls Tryz.prog 25 #[.slice (some ⟨ga, 0, none⟩) n1 gc] W (ReqPost rq W)) := Lib.hid (fun W h => by
            rw [← HRQ.out, ← HN1.out]
            exact refRequest_any B1 _ gc W (HAT1.out W (HS5.out.trans h)) (by rw [HN1.out]; exact hcc3) (by rw [HN1.out]; omega) HR1.out)
          have CP : Hid (∀ W, Spares nowhere w5 W → Calls Tryz.prog 22 #[.slice (some ⟨gb, 0, none⟩) n2 gd, .string ⟨#[71, 69, 84]⟩] W (RspPost rp W)) := Lib.hid (fun W h => by
            rw [← HRP.out]
            exact response_any B2 ⟨#[71, 69, 84]⟩ _ gd n2 W HN2.out.symm (HAT2.out W h) (by rw [HN2.out]; exact hcc5) (fun e => by cases e) (by rw [HN2.out]; omega) (HM.out.spares (HSW5.out.trans h)))
          have CPR : Hid (∀ W, Spares nowhere w5 W → Calls Tryz.prog 26 #[.slice (some ⟨gb, 0, none⟩) n2 gd, .string ⟨#[71, 69, 84]⟩] W (RspPost rp W)) := Lib.hid (fun W h => by
            rw [← HRP.out, ← HN2.out]
            exact refResponse_any B2 ⟨#[71, 69, 84]⟩ _ gd W (HAT2.out W h) (by rw [HN2.out]; exact hcc5) (by rw [HN2.out]; omega) HR2.out)
          clear hT5 hg5 hat5 hrq hrp hcv4 hX1 hX2 z17 z14 z2
          go_wp2_with fail
          refine (CQ.out _ (Spares.refl _ _)).mono ?_
          rintro _ w3 h3
          obtain ⟨fa, fc, ab, cb, rfl, hfi, hbi, hs3⟩ := req_shape h3
          have HSA3 := Lib.hid hs3
          have HF3 := Lib.hid hfi
          have HB3 := Lib.hid hbi
          have HV3 : Hid ((w3.alloc (.cells #[.string (qM rq), .string (qT rq), .slice fa (qF rq).length fc, .slice ab (qB rq).length cb] 25)).heap[w3.heap.size]? = some (.cells #[.string (qM rq), .string (qT rq), .slice fa (qF rq).length fc, .slice ab (qB rq).length cb] 25 (0, 0))) := Lib.hid (heap_alloc_new _ _)
          clear h3 hs3 hfi hbi
          go_wp2_with fail
          refine (CQR.out _ (HSA3.out.alloc _)).mono ?_
          rintro _ w4 h4
          obtain ⟨fa', fc', ab', cb', rfl, hfi, hbi, hs4⟩ := req_shape h4
          have HV4 := Lib.hid (hs4.heap HV3.out (fun h => h))
          have HS34 : Hid (Spares nowhere w3 w4) := Lib.hid (((Spares.refl nowhere w3).alloc _).trans hs4)
          have HF4 := Lib.hid hfi
          have HB4 := Lib.hid hbi
          have HV4' : Hid ((w4.alloc (.cells #[.string (qM rq), .string (qT rq), .slice fa' (qF rq).length fc', .slice ab' (qB rq).length cb'] 25)).heap[w4.heap.size]? = some (.cells #[.string (qM rq), .string (qT rq), .slice fa' (qF rq).length fc', .slice ab' (qB rq).length cb'] 25 (0, 0))) := Lib.hid (heap_alloc_new _ _)
          clear h4 hs4 hfi hbi
          go_wp2_with fail
          refine (CP.out _ ((HSA3.out.trans HS34.out).alloc _)).mono ?_
          rintro _ w5 h5
          obtain ⟨ga, gc, bb, bc, rfl, hfi, hbi, hs5⟩ := rsp_shape h5
          have HS45 : Hid (Spares nowhere w4 w5) := Lib.hid (((Spares.refl nowhere w4).alloc _).trans hs5)
          have HV5 := Lib.hid (HS45.out.heap HV4.out (fun h => h))
          have HV5' := Lib.hid (hs5.heap HV4'.out (fun h => h))
          have HF5 := Lib.hid hfi
          have HB5 := Lib.hid hbi
          have HV5'' : Hid ((w5.alloc (.cells #[.int .i64 (rN rp : Nat), .string (rR rp), .slice ga (rF rp).length gc, .slice bb (rB rp).length bc] 27)).heap[w5.heap.size]? = some (.cells #[.int .i64 (rN rp : Nat), .string (rR rp), .slice ga (rF rp).length gc, .slice bb (rB rp).length bc] 27 (0, 0))) := Lib.hid (heap_alloc_new _ _)
          clear h5 hs5 hfi hbi
          go_wp2_with fail
          refine (CPR.out _ (((HSA3.out.trans HS34.out).trans HS45.out).alloc _)).mono ?_
          rintro _ w6 h6
          obtain ⟨ga', gc', bb', bc', rfl, hfi, hbi, hs6⟩ := rsp_shape h6
          have HS56 : Hid (Spares nowhere w5 w6) := Lib.hid (((Spares.refl nowhere w5).alloc _).trans hs6)
          have hv6 := hs6.heap HV5''.out (fun h => h)
          have hv5 := HS56.out.heap HV5'.out (fun h => h)
          have hv4 := HS56.out.heap HV5.out (fun h => h)
          obtain ⟨v7, hv7⟩ : ∃ v7, w6.alloc (.cells #[.int .i64 (rN rp : Nat), .string (rR rp), .slice ga' (rF rp).length gc', .slice bb' (rB rp).length bc'] 27) = v7 := ⟨_, rfl⟩
          have HV7 := Lib.hid hv7
          have hs7 : Spares nowhere w6 v7 := by rw [← hv7]; exact (Spares.refl _ _).alloc _
          have b3 := hs7.heap hv4 (fun h => h)
          have b4 := hs7.heap hv5 (fun h => h)
          have b5 := hs7.heap hv6 (fun h => h)
          have b6 : v7.heap[w6.heap.size]? = some (.cells #[.int .i64 (rN rp : Nat), .string (rR rp), .slice ga' (rF rp).length gc', .slice bb' (rB rp).length bc'] 27 (0, 0)) := by rw [← hv7]; exact heap_alloc_new _ _
          have HF6 := Lib.hid hfi
          have HB6 := Lib.hid hbi
          have HS67 := Lib.hid hs7
          have HSF : Hid (Spares nowhere w v7) := Lib.hid ((((((HSW5.out.trans HSA3.out).trans HS34.out).trans HS45.out).trans HS56.out)).trans hs7)
          have HX3 := Lib.hid b3
          have HX4 := Lib.hid b4
          have HX5 := Lib.hid b5
          have HX6 := Lib.hid b6
          have CQS : Hid (∀ W, Spares nowhere v7 W → Calls Tryz.prog 21 #[.agg #[.string (qM rq), .string (qT rq), .slice fa (qF rq).length fc, .slice ab (qB rq).length cb], .agg #[.string (qM rq), .string (qT rq), .slice fa' (qF rq).length fc', .slice ab' (qB rq).length cb']] W (YesH W)) := Lib.hid (fun W h => by
            have h4 := ((HS45.out.trans HS56.out).trans hs7).trans h
            have h3 := HS34.out.trans h4
            exact helpReq_same _ _ (qF rq) (qB rq) fa fa' ab ab' fc fc' cb cb' _ _ W rfl rfl (FieldsIn.quiet HF3.out (Nat.le_refl _) h3 h3.size) (FieldsIn.quiet HF4.out (Nat.le_refl _) h4 h4.size) (HB3.out.spares' h3 (fun _ _ _ _ h => h)) (HB4.out.spares' h4 (fun _ _ _ _ h => h)) HQF.out)
          have CPS : Hid (∀ W, Spares nowhere v7 W → Calls Tryz.prog 23 #[.agg #[.int .i64 (rN rp : Nat), .string (rR rp), .slice ga (rF rp).length gc, .slice bb (rB rp).length bc], .agg #[.int .i64 (rN rp : Nat), .string (rR rp), .slice ga' (rF rp).length gc', .slice bb' (rB rp).length bc']] W (YesH W)) := Lib.hid (fun W h => by
            have h6 := hs7.trans h
            have h5 := HS56.out.trans h6
            exact helpRsp_same _ _ (rF rp) (rB rp) ga ga' bb bb' gc gc' bc bc' _ _ W rfl rfl (FieldsIn.quiet HF5.out (Nat.le_refl _) h5 h5.size) (FieldsIn.quiet HF6.out (Nat.le_refl _) h6 h6.size) (HB5.out.spares' h5 (fun _ _ _ _ h => h)) (HB6.out.spares' h6 (fun _ _ _ _ h => h)) HPF.out)
          unfold YesH at CQS CPS
          clear h6 hs6 hfi hbi hv7 hs7 hv6
          obtain ⟨p0, p1, p2, p3⟩ := four_cells b3
          obtain ⟨p4, p5, p6, p7⟩ := four_cells b4
          rw [← HV7.out] at p0 p1 p2 p3 p4 p5 p6 p7
          obtain ⟨o0, o1, o2, o3⟩ := four_cells hv4
          obtain ⟨o4, o5, o6, o7⟩ := four_cells hv5
          clear b3 b4 b5 b6 hv4 hv5
          go_wp2_with fail
          rw [HV7.out]
          refine (CQS.out _ (Spares.refl _ _)).mono ?_
          rintro _ w8 ⟨rfl, hs8⟩
          obtain ⟨r0, r1, r2, r3⟩ := four_cells (hs8.heap HX5.out (fun h => h))
          obtain ⟨r4, r5, r6, r7⟩ := four_cells (hs8.heap HX6.out (fun h => h))
          clear p0 p1 p2 p3 p4 p5 p6 p7 o0 o1 o2 o3 o4 o5 o6 o7
          go_wp2_with fail
          refine (CPS.out _ hs8).mono ?_
          rintro _ w9 ⟨rfl, hs9⟩
          go_wp2
          go_ret
          exact ⟨rfl, (HSF.out.trans hs8).trans hs9⟩
end Go.Proofs.YtjpmofnnjdhamaaGreatDoor
