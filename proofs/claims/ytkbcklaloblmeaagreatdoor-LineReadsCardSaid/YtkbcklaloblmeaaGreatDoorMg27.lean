/-
  A log's New, Len, Add.
  slices.Grow, Concat and Clone of lines; a log's Last.
  A log's Last.
-/
import Derived.StillTailTactics
import Derived.Test.YtkbcklaloblmeaaGreatDoorRows
import Derived.Laws.MakeOwn
import Derived.Lib.AppendZeros
import Derived.Lib.Hide
import Derived.Deep.RegionWith
import Derived.LoopTactic
import Derived.Lib.SliceRun
import Derived.Test.YtkbcklaloblmeaaGreatDoorMg4
import Derived.Test.YtkbcklaloblmeaaGreatDoorMg5
import Derived.Test.YtkbcklaloblmeaaGreatDoorMg18
import Derived.Test.YtkbcklaloblmeaaGreatDoorMg19
import Derived.Test.YtkbcklaloblmeaaGreatDoorMg26
namespace Go.Proofs.YtkbcklaloblmeaaGreatDoor
open Go.RowKit LineMath

def zeroL : LineV := ⟨0, 0, [], [], [], 0, 0⟩
def zeroA : Value := .agg (cellsV zeroL).toArray
theorem lineInfo : (Tryz.prog.info? 23).map (fun i => (i.zero, i.size, i.bytes)) = some (some zeroA, 7, 80) := by kernel_rfl
theorem madeRow (z : LineV) (n : Nat) : (madeCells (cellsV z).toArray (n * 7)) = (rowV (List.replicate n z)).toArray := by
  apply Array.ext'
  rw [List.toList_toArray]
  apply List.ext_getElem?
  intro j
  by_cases hj : j < n * 7
  · have h1 : (madeCells (cellsV z).toArray (n * 7)).toList[j]? = some ((cellsV z).toArray[j % 7]!) := by
      simp [madeCells, hj]
      rfl
    have h2 := rowV_get (List.replicate n z) (j / 7) (j % 7) (by rw [List.length_replicate]; omega) (Nat.mod_lt _ (by decide))
    rw [Nat.div_add_mod, List.getElem_replicate] at h2
    rw [h1, h2]
    have h3 := Nat.mod_lt j (show 0 < 7 by decide)
    match j % 7, h3 with
    | 0, _ => rfl
    | 1, _ => rfl
    | 2, _ => rfl
    | 3, _ => rfl
    | 4, _ => rfl
    | 5, _ => rfl
    | 6, _ => rfl
  · rw [List.getElem?_eq_none (by rw [Array.length_toList, size_madeCells]; omega), List.getElem?_eq_none (by rw [rowV_len, List.length_replicate]; omega)]
set_option maxRecDepth 100000 in
theorem make_lines (n : Nat) (hn : n ≤ 1000000) (w : World) : (Instr.makeSlice 43 (.int .i64 (n : Int)) (.int .i64 (n : Int))).run Tryz.prog w = .ok (.slice (some ⟨w.heap.size, 0, none⟩) n n) (w.alloc (.cells (rowV (List.replicate n zeroL)).toArray 23)) := by
  obtain ⟨i0, hi, hz0, hz1, hz2⟩ := info_parts lineInfo
  have h := run_make (P := Tryz.prog) w 43 23 i0 zeroA Tryz.underlying43 hi hz0 .i64 .i64 (n : Int) (n : Int) (by omega) (by omega) (by rw [hz2]; omega) (by omega)
  rw [h, hz1, ← madeRow]
  rfl
def NewPost (M : Nat) (w : World) (e : Ending) (w' : World) : Prop := ∃ p, e = .returned (.pointer (some ⟨p, 0, none⟩)) ∧ LogAt w.heap.size w' p (List.replicate M zeroL) 0 0 ∧ Spares nowhere w w'
set_option maxRecDepth 100000 in
set_option maxHeartbeats 4000000 in
theorem new_any (most : Int) (M : Nat) (hM : (M : Int) = min (max most 0) 200) (w : World) : Calls Tryz.prog 17 #[.int .i64 most] w (NewPost M w) := by
  have hmk := make_lines M (by omega)
  rw [hM] at hmk
  have HM := Lib.hid hM
  clear hM
  unfold NewPost
  go_enter Tryz.func17, Tryz.ntmps17
  go_wp2
  go_ret
  refine ⟨_, rfl, ⟨w.heap.size, ⟨by simp, Nat.le_refl _⟩, ?_, ?_, ?_⟩, ((Spares.refl _ _).alloc _).alloc _⟩
  · rw [List.length_replicate]
    have h := heap_alloc_new (w.alloc (.cells (rowV (List.replicate M zeroL)).toArray 23)) (.cells #[.slice (some ⟨w.heap.size, 0, none⟩) M M, .int .i64 0, .int .i64 0] 77)
    rwa [show (w.alloc (.cells (rowV (List.replicate M zeroL)).toArray 23)).heap.size = w.heap.size + 1 by simp] at h
  · rw [Below.heap_alloc _ _ _ (by simp)]; exact heap_alloc_new w _
  · simp
set_option maxRecDepth 100000 in
set_option maxHeartbeats 4000000 in
theorem len_any (B p : Nat) (R : List LineV) (next n : Nat) (w : World) (h : LogAt B w p R next n) : Calls Tryz.prog 20 #[.pointer (some ⟨p, 0, none⟩)] w fun e w' => e = .returned (.int .i64 n) ∧ w = w' := by
  obtain ⟨q, _, h1, h2, h3⟩ := h
  have c0 : w.cell? ⟨p, 2, none⟩ = some (.int .i64 n) := by rw [Lib.cell_of_heap h1]; rfl
  clear h1 h2
  go_enter Tryz.func20, Tryz.ntmps20
  go_wp2
  go_ret
  exact ⟨rfl, rfl⟩
def AddPost (B p : Nat) (R' : List LineV) (next n : Nat) (w : World) (e : Ending) (w' : World) : Prop := e = .returned (.tuple #[]) ∧ LogAt B w' p R' next n ∧ Spares (atLeast B) w w'
theorem cellsV_one (l : LineV) : ∀ u ∈ cellsV l, u.oneCell' = true := by
  intro u hu
  simp only [cellsV, List.mem_cons, List.not_mem_nil, or_false] at hu
  rcases hu with rfl | rfl | rfl | rfl | rfl | rfl | rfl <;> rfl
theorem ring_store {w : World} {q : Nat} {R : List LineV} {t : TypeId} (h : w.heap[q]? = some (.cells (rowV R).toArray t (0, 0))) (k : Nat) (hk : k < R.length) (l : LineV) : (w.setCells q (k * 7) (cellsV l)).heap[q]? = some (.cells (rowV (R.set k l)).toArray t (0, 0)) := by
  have e : rowV R = (rowV R).take (7 * k) ++ (((rowV R).drop (7 * k)).take 7 ++ (rowV R).drop (7 * k + 7)) := by
    rw [← List.drop_drop, List.take_append_drop, List.take_append_drop]
  have hl := rowV_len R
  have h1 : ((rowV R).take (7 * k)).length = 7 * k := by rw [List.length_take]; omega
  have h2 : (((rowV R).drop (7 * k)).take 7).length = (cellsV l).length := by rw [List.length_take, List.length_drop]; show _ = 7; omega
  have h3 := heap_setCells (cellsV l) _ _ ((rowV R).drop (7 * k + 7)) w (by rw [← e]; exact h) h2
  rw [h1, Nat.mul_comm 7 k] at h3
  rw [h3]
  unfold rowV
  rw [rowSet cellsV 7 (fun _ => rfl) R k l hk, List.append_assoc, Nat.mul_comm 7 k]
set_option maxRecDepth 100000 in
set_option maxHeartbeats 4000000 in
theorem add_any (B p : Nat) (R : List LineV) (next n : Nat) (l : LineV) (w : World) (h : LogAt B w p R next n) (h0 : 0 < R.length) (hR : R.length ≤ 1000) (hx : next < R.length) (hn : n ≤ R.length) :
    Calls Tryz.prog 18 #[.pointer (some ⟨p, 0, none⟩), .agg (cellsV l).toArray] w (AddPost B p (R.set next l) ((next + 1) % R.length) (min (n + 1) R.length) w) := by
  obtain ⟨q, hBpq, g1, g2, h3⟩ := h
  have HBP := Lib.hid hBpq
  clear hBpq
  obtain ⟨w1, hw1⟩ : ∃ w1, w.alloc (.cells #[.int .i64 l.time, .int .i64 l.how, .string ⟨l.method.toArray⟩, .string ⟨l.host.toArray⟩, .string ⟨l.target.toArray⟩, .int .i64 l.status, .int .i64 l.size] 23) = w1 := ⟨_, rfl⟩
  have hs1 : Spares nowhere w w1 := by rw [← hw1]; exact (Spares.refl _ _).alloc _
  have h1 := hs1.heap g1 (fun h => h)
  have h2 := hs1.heap g2 (fun h => h)
  have hb : w1.heap[w.heap.size]? = some (.cells #[.int .i64 l.time, .int .i64 l.how, .string ⟨l.method.toArray⟩, .string ⟨l.host.toArray⟩, .string ⟨l.target.toArray⟩, .int .i64 l.status, .int .i64 l.size] 23 (0, 0)) := by rw [← hw1]; exact heap_alloc_new w _
  have c0 : w1.cell? ⟨p, 0, none⟩ = some (.slice (some ⟨q, 0, none⟩) R.length R.length) := by rw [Lib.cell_of_heap h1]; rfl
  have c1 : w1.cell? ⟨p, 1, none⟩ = some (.int .i64 next) := by rw [Lib.cell_of_heap h1]; rfl
  have c2 : w1.cell? ⟨p, 2, none⟩ = some (.int .i64 n) := by rw [Lib.cell_of_heap h1]; rfl
  have b0 : w1.cell? ⟨w.heap.size, 0, none⟩ = some (.int .i64 l.time) := by rw [Lib.cell_of_heap hb]; rfl
  have b1 : w1.cell? ⟨w.heap.size, 1, none⟩ = some (.int .i64 l.how) := by rw [Lib.cell_of_heap hb]; rfl
  have b2 : w1.cell? ⟨w.heap.size, 2, none⟩ = some (.string ⟨l.method.toArray⟩) := by rw [Lib.cell_of_heap hb]; rfl
  have b3 : w1.cell? ⟨w.heap.size, 3, none⟩ = some (.string ⟨l.host.toArray⟩) := by rw [Lib.cell_of_heap hb]; rfl
  have b4 : w1.cell? ⟨w.heap.size, 4, none⟩ = some (.string ⟨l.target.toArray⟩) := by rw [Lib.cell_of_heap hb]; rfl
  have b5 : w1.cell? ⟨w.heap.size, 5, none⟩ = some (.int .i64 l.status) := by rw [Lib.cell_of_heap hb]; rfl
  have b6 : w1.cell? ⟨w.heap.size, 6, none⟩ = some (.int .i64 l.size) := by rw [Lib.cell_of_heap hb]; rfl
  have HW1 := Lib.hid hw1
  have HS1 := Lib.hid hs1
  have H1 := Lib.hid h1
  have H2 := Lib.hid h2
  have H3 := Lib.hid h3
  obtain ⟨M, hM⟩ : ∃ M, R.length = M := ⟨_, rfl⟩
  have HM := Lib.hid hM
  rw [hM] at c0 h0 hR hx hn ⊢
  have z0 : ((M : Int) == 0) = false := by simp; omega
  have a0 : (w.alloc (.cells #[.int .i64 l.time, .int .i64 l.how, .string ⟨l.method.toArray⟩, .string ⟨l.host.toArray⟩, .string ⟨l.target.toArray⟩, .int .i64 l.status, .int .i64 l.size] 23)).cell? ⟨p, 0, none⟩ = some (.slice (some ⟨q, 0, none⟩) M M) := by rw [hw1]; exact c0
  obtain ⟨x, hx2⟩ : ∃ x : Nat, (next + 1) % M = x := ⟨_, rfl⟩
  have HX2 := Lib.hid hx2
  rw [hx2]
  clear g1 g2 h1 h2 h3 hM hw1 hb hs1 hx2
  unfold AddPost cellsV
  go_enter Tryz.func18, Tryz.ntmps18
  go_upto_region 2 with (fail)
  rw [HW1.out]
  clear a0
  have HT : Hid (w1.drew.there q (next * 7) 7) := Lib.hid (there_of (H2.out : w1.drew.heap[q]? = _) _ _ (by rw [List.size_toArray, rowV_len, HM.out]; omega))
  have HI : Hid ((Tryz.prog.info? 23).map (·.size) = some 7) := Lib.hid (by kernel_rfl)
  go_still_tail 10, (by kernel_rfl)
  change wpList _ _ _ _ _ w1.drew
  refine (wpList_store_mid rfl 23 (.tmp 19) (.tmp 18) rfl q (next * 7) (cellsV l).toArray rfl rfl HT.out HI.out (all_oneCell_toArray (cellsV_one l)) ?_)
  obtain ⟨w2, hw2⟩ : ∃ w2, w1.drew.setCells q (next * 7) (cellsV l) = w2 := ⟨_, rfl⟩
  have hs2 : Spares (fun b => b = q) w1 w2 := by rw [← hw2]; exact spares_setCells _ _ _ ((Spares.refl _ _).drew)
  have k1 := hs2.heap H1.out (fun h => H3.out h)
  have k2 : w2.heap[q]? = some (.cells (rowV (R.set next l)).toArray 23 (0, 0)) := by rw [← hw2]; exact ring_store (H2.out : w1.drew.heap[q]? = _) next (by rw [HM.out]; exact hx) l
  change wpList _ _ _ _ _ (w1.drew.setCells q (next * 7) (cellsV l))
  rw [hw2]
  have HS2 := Lib.hid hs2
  have K1 := Lib.hid k1
  have K2 := Lib.hid k2
  have d0 : w2.cell? ⟨p, 0, none⟩ = some (.slice (some ⟨q, 0, none⟩) M M) := by rw [Lib.cell_of_heap k1, HM.out]; rfl
  have d1 : w2.cell? ⟨p, 1, none⟩ = some (.int .i64 next) := by rw [Lib.cell_of_heap k1]; rfl
  have d2 : w2.cell? ⟨p, 2, none⟩ = some (.int .i64 n) := by rw [Lib.cell_of_heap k1]; rfl
  have f9 : w2.drew.frozen? ⟨p, 1, none⟩ = false := heap_frozen (w := w2.drew) k1 1
  clear c0 c1 c2 b0 b1 b2 b3 b4 b5 b6 hw2 hs2 k1 k2
  have e1 : IntKind.i64.wrap ((next : Int) + 1) = (next : Int) + 1 := by rw [IntKind.wrap_i64]; omega
  have e3 : ¬ M = 0 := by omega
  have e4 : ((next : Int) + 1) % (M : Int) = (x : Int) := by rw [← HX2.out]; rfl
  have d9 : w2.drew.cell? ⟨p, 1, none⟩ = some (.int .i64 next) := d1
  go_wp2
  go_still_tail 14, (by kernel_rfl)
  change wpList _ _ _ _ _ w2.drew
  go_upto_region 4 with (fail)
  rw [e4]
  obtain ⟨w3, hw3⟩ : ∃ w3, (w2.setCell ⟨p, 1, none⟩ (.int .i64 (x : Int))).drew = w3 := ⟨_, rfl⟩
  have hs3 : Spares (fun b => b = p) w2 w3 := by rw [← hw3]; exact (spares_set (Spares.refl _ _) 1 _).drew
  have k1 : w3.heap[p]? = some (.cells #[.slice (some ⟨q, 0, none⟩) M M, .int .i64 x, .int .i64 n] 77 (0, 0)) := by
    rw [← hw3, ← HM.out]
    exact heap_set K1.out 1 _
  have k2 := hs3.heap K2.out (fun h => H3.out h.symm)
  rw [hw3]
  have HS3 := Lib.hid hs3
  have L1 := Lib.hid k1
  have L2 := Lib.hid k2
  have m0 : w3.cell? ⟨p, 0, none⟩ = some (.slice (some ⟨q, 0, none⟩) M M) := by rw [Lib.cell_of_heap k1]; rfl
  have m2 : w3.cell? ⟨p, 2, none⟩ = some (.int .i64 n) := by rw [Lib.cell_of_heap k1]; rfl
  have m9 : w3.drew.cell? ⟨p, 2, none⟩ = some (.int .i64 n) := m2
  have f8 : w3.drew.frozen? ⟨p, 2, none⟩ = false := heap_frozen (w := w3.drew) k1 2
  clear d0 d1 d2 d9 f9 hw3 hs3 k1 k2 e1 e4
  obtain ⟨y, hy⟩ : ∃ y : Nat, min (n + 1) M = y := ⟨_, rfl⟩
  have HY := Lib.hid hy
  have e5 : min ((n : Int) + 1) (M : Int) = (y : Int) := by omega
  have e6 : IntKind.i64.wrap ((n : Int) + 1) = (n : Int) + 1 := by rw [IntKind.wrap_i64]; omega
  clear hy
  go_still_tail 14, (by kernel_rfl)
  change wpList _ _ _ _ _ w3.drew
  go_wp2
  go_end0
  rw [HY.out]
  have hs4 : Spares (fun b => b = p) w3 (w3.setCell ⟨p, 2, none⟩ (.int .i64 (y : Int))).drew := (spares_set (Spares.refl _ _) 2 _).drew
  refine ⟨rfl, ⟨q, HBP.out, ?_, hs4.heap L2.out (fun h => H3.out h.symm), H3.out⟩, ?_⟩
  · rw [List.length_set, HM.out]
    exact heap_set L1.out 2 _
  · have aP : ∀ b, b = p → atLeast B b := fun b hb => by rw [hb]; exact HBP.out.1
    have aQ : ∀ b, b = q → atLeast B b := fun b hb => by rw [hb]; exact HBP.out.2
    exact (((HS1.out.mono (fun _ h => h.elim)).trans (HS2.out.mono (fun b hb => .inl (aQ b hb)))).trans (HS3.out.mono (fun b hb => .inl (aP b hb)))).trans (hs4.mono (fun b hb => .inl (aP b hb)))
end Go.Proofs.YtkbcklaloblmeaaGreatDoor
namespace Go.Proofs.YtkbcklaloblmeaaGreatDoor
open Go.RowKit LineMath

/-- Lines that lie one behind another. -/
def LinesAt (w : World) (b off : Nat) (L : List LineV) : Prop := ∀ j u, (rowV L)[j]? = some u → w.cell? ⟨b, off + j, none⟩ = some u
theorem LinesAt.spares {w w' : World} {b off : Nat} {L : List LineV} (h : LinesAt w b off L) (hs : Spares nowhere w w') : LinesAt w' b off L := by
  intro j u hj
  have hc := h j u hj
  have hlt : b < w.heap.size := by
    rcases Nat.lt_or_ge b w.heap.size with h | h
    · exact h
    · simp [World.cell?, Array.getElem?_eq_none h] at hc
  exact (hs.cell (p := ⟨b, off + j, none⟩) hlt (fun h => h)).trans hc
/-- A row of lines of the call's own. -/
def RowL (B : Nat) (w : World) (v : Value) (L : List LineV) : Prop := w.ownsRow B 23 7 v L.length (rowV L)
theorem RowL.spares {B : Nat} {F : Nat → Prop} {w w' : World} {v : Value} {L : List LineV} (h : RowL B w v L) (hs : Spares F w w') (hn : ∀ g, v.ownBlock = some g → ¬ F g) : RowL B w' v L := hs.own h hn
theorem rowV_one (L : List LineV) : ∀ u ∈ rowV L, u.oneCell' = true := by
  intro u hu
  obtain ⟨l, _, h⟩ := List.mem_flatMap.1 hu
  exact cellsV_one l u h
section
variable {w : World}
/-- append(v, lines...). -/
theorem wpList_row_lines {ops : Array Oper} {rest : List Oper} {o : Oper} {a : Act} {Q : Exit → Act → World → Prop} (hgd : o.guard = none) (s x : Operand)
    (ho : o.op = .call { callee := .builtin .append, args := #[s, x], argTypes := #[43, 43] })
    (B : Nat) (v : Value) (L : List LineV) (hs : a.eval s = v) (hown : RowL B w v L)
    (b off c n : Nat) (K : List LineV) (hx : a.eval x = .slice (some ⟨b, off, none⟩) n c) (hn : n = K.length) (hat : LinesAt w b off K)
    (hlen : L.length + n ≤ 1000) (hB : B ≤ w.heap.size)
    (hK : ∀ v' w', RowL B w' v' (L ++ K) → Spares (atLeast B) w w' → wpList Tryz.prog ops Q rest (a.put o.dst v') w') : wpList Tryz.prog ops Q (o :: rest) a w := by
  subst hn
  obtain ⟨i0, hi, hz0, hz1, hz2⟩ := info_parts lineInfo
  refine wpList_append_own w hgd s x 43 ho B 23 i0 zeroA 7 80 Tryz.underlying43 hi hz0 hz1 hz2 rfl (by decide) v L.length (rowV L) hs hown ⟨b, off, none⟩ K.length c (rowV K) hx (by rw [rowV_len]; omega) (fun j u hj => by rw [Addr.add_lit]; exact hat j u hj) (rowV_one K) (by unfold maxLen; omega) (by omega) hB ?_
  intro v' w' h1 h2 _
  exact hK v' w' (by unfold RowL; rw [List.length_append, rowV_app]; exact h1) ((Spares.refl _ w).grown h2 fun k hk => .inl (World.ownsRow.lt hown k hk).1)
end
set_option maxRecDepth 100000 in
set_option maxHeartbeats 4000000 in
theorem grow_any (n : Nat) (hn : n ≤ 1000) (w : World) : Calls Tryz.prog 71 #[.slice none 0 0, .int .i64 n] w fun e w' => ∃ v, e = .returned v ∧ RowL w.heap.size w' v [] ∧ Spares nowhere w w' := by
  obtain ⟨i0, hi, hz0, hz1, hz2⟩ := info_parts lineInfo
  by_cases h0 : n = 0
  · subst h0
    go_enter Tryz.func71, Tryz.ntmps71
    go_wp2
    go_ret
    exact ⟨_, rfl, World.ownsRow_nil _ _ _ _, Spares.refl _ _⟩
  · have hr := Lib.run_append_nil_zeros (P := Tryz.prog) w 43 3 43 23 i0 zeroA .i64 .i64 Tryz.underlying43 Tryz.underlying3 hi hz0 n (by omega) (by omega) (by omega) (by rw [hz2]; omega)
    have hge := grownCap_ge w n 0 23
    have hcm : grownCap w n 0 23 ≤ maxLen := grownCap_le_maxLen w n 0 23 (by unfold maxLen; omega)
    obtain ⟨C, hC⟩ : ∃ C, grownCap w n 0 23 = C := ⟨_, rfl⟩
    rw [hC] at hr hge hcm
    have e7 : zeroA.cells.size = 7 := rfl
    obtain ⟨zc, hzc⟩ : ∃ zc, zeroA.cells = zc := ⟨_, rfl⟩
    rw [hzc] at hr e7
    have HR := Lib.hid hr
    have HRow : Hid (RowL w.heap.size (w.drew.alloc (.cells (Builtin.zeroCells zc n ++ Builtin.zeroCells zc (C - n)) 23)) (.slice (some ⟨w.heap.size, 0, none⟩) 0 C) []) := Lib.hid (by
      refine ⟨rfl, .inr ⟨w.heap.size, C, _, rfl, Nat.le_refl _, heap_alloc_new w.drew _, Nat.zero_le _, hcm, ?_, by simp [rowV]⟩⟩
      rw [Array.size_append, size_zeroCells, size_zeroCells, e7, ← Nat.add_mul]
      congr 1
      omega)
    have HSP : Hid (Spares nowhere w (w.drew.alloc (.cells (Builtin.zeroCells zc n ++ Builtin.zeroCells zc (C - n)) 23))) := Lib.hid ((Spares.refl _ _).drew.alloc _)
    have l0 : (0 : Int) < (n : Int) := by omega
    clear hC hr hcm h0 hzc e7
    go_enter Tryz.func71, Tryz.ntmps71
    go_wp2_with (at_builtin; refine Lib.wpList_append_run _ rfl _ _ _ _ rfl _ _ rfl rfl _ _ HR.out ?_)
    go_ret
    exact ⟨_, rfl, HRow.out, HSP.out⟩
set_option maxRecDepth 100000 in
set_option maxHeartbeats 4000000 in
theorem concat_any (x b1 o1 c1 b2 o2 c2 : Nat) (L1 L2 : List LineV) (w : World) (h1 : w.cell? ⟨x, 0, none⟩ = some (.slice (some ⟨b1, o1, none⟩) L1.length c1)) (h2 : w.cell? ⟨x, 1, none⟩ = some (.slice (some ⟨b2, o2, none⟩) L2.length c2)) (hL : L1.length + L2.length ≤ 1000) (a1 : LinesAt w b1 o1 L1) (a2 : LinesAt w b2 o2 L2) :
    Calls Tryz.prog 42 #[.slice (some ⟨x, 0, none⟩) 2 2] w fun e w' => ∃ v, e = .returned v ∧ RowL w.heap.size w' v (L1 ++ L2) ∧ Spares nowhere w w' := by
  have H1 := Lib.hid h1
  have H2 := Lib.hid h2
  have A1 := Lib.hid a1
  have A2 := Lib.hid a2
  have hx : x < w.heap.size := by
    rcases Nat.lt_or_ge x w.heap.size with h | h
    · exact h
    · simp [World.cell?, Array.getElem?_eq_none h] at h1
  obtain ⟨n1, hn1⟩ : ∃ n, L1.length = n := ⟨_, rfl⟩
  obtain ⟨n2, hn2⟩ : ∃ n, L2.length = n := ⟨_, rfl⟩
  have N1 := Lib.hid hn1
  have N2 := Lib.hid hn2
  rw [hn1] at h1 hL
  rw [hn2] at h2 hL
  have cG := fun w0 => grow_any (n1 + n2) hL w0
  clear a1 a2 hn1 hn2
  go_enter Tryz.func42, Tryz.ntmps42
  go_wp2
  go_loop [3, 11] (fun s i => (s = .int .i64 0 ∧ i = .int .i64 0) ∨ (s = .int .i64 n1 ∧ i = .int .i64 1) ∨ (s = .int .i64 ((n1 + n2 : Nat) : Int) ∧ i = .int .i64 2)) (fun _ i => 2 - (intOf i).toNat)
  case atStart => exact .inl ⟨rfl, rfl⟩
  case round =>
    rcases hrel with ⟨rfl, rfl⟩ | ⟨rfl, rfl⟩ | ⟨rfl, rfl⟩
    · go_wp2
      go_round
      case rel => exact .inr (.inl ⟨by go_num, by go_num⟩)
      case measure => simp [intOf]
    · go_wp2
      go_round
      case rel => exact .inr (.inr ⟨by go_num, by go_num⟩)
      case measure => simp [intOf]
    · go_wp2_with fail
      refine (cG _).mono ?_
      rintro e w1 ⟨v0, rfl, hr0, hs0⟩
      have R0 := Lib.hid hr0
      have S0 := Lib.hid hs0
      clear hr0 hs0 cG h1 h2
      go_wp2
      go_loopw [6, 27] (fun v i wr => ∃ (k : Nat) (L : List LineV), k ≤ 2 ∧ i = .int .i64 k ∧ Hid (L = if k = 0 then [] else if k = 1 then L1 else L1 ++ L2) ∧ Hid (RowL w.heap.size wr v L) ∧ Hid (Spares nowhere w wr)) (fun _ i _ => 2 - (intOf i).toNat)
      case atStart => exact ⟨0, [], by omega, rfl, Lib.hid rfl, R0, S0⟩
      case round =>
        obtain ⟨k, L, hk, rfl, HLL, HR, HS⟩ := hrel
        have hB := HS.out.size
        by_cases k0 : k = 0
        · subst k0
          have hl : L = [] := HLL.out.trans (if_pos rfl)
          subst hl
          have c1' : wr.cell? ⟨x, 0, none⟩ = some (.slice (some ⟨b1, o1, none⟩) n1 c1) := by rw [← N1.out]; exact (HS.out.cell (p := ⟨x, 0, none⟩) hx (fun h => h)).trans H1.out
          have HA := Lib.hid (A1.out.spares HS.out)
          have HLE : Hid (([] : List LineV).length + n1 ≤ 1000) := Lib.hid (by simp; omega)
          go_wp2_with (at_builtin; refine wpList_row_lines rfl _ _ rfl w.heap.size _ [] rfl HR.out b1 o1 c1 n1 L1 rfl N1.out.symm HA.out HLE.out hB ?_; intro v9 w9 hr9 hs9; have R9 := Lib.hid hr9; have S9 := Lib.hid hs9; clear hr9 hs9)
          go_roundw
          case rel => exact ⟨1, L1, by omega, by go_num, Lib.hid rfl, R9, Lib.hid (HS.out.trans' S9.out (fun _ h => .inr h))⟩
          case measure => simp [intOf]
        · by_cases k1 : k = 1
          · subst k1
            have hl : L = L1 := HLL.out.trans rfl
            subst hl
            have c1' : wr.cell? ⟨x, 1, none⟩ = some (.slice (some ⟨b2, o2, none⟩) n2 c2) := by rw [← N2.out]; exact (HS.out.cell (p := ⟨x, 1, none⟩) hx (fun h => h)).trans H2.out
            have HA := Lib.hid (A2.out.spares HS.out)
            have HLE : Hid (L.length + n2 ≤ 1000) := Lib.hid (by rw [N1.out]; exact hL)
            go_wp2_with (at_builtin; refine wpList_row_lines rfl _ _ rfl w.heap.size _ L rfl HR.out b2 o2 c2 n2 L2 rfl N2.out.symm HA.out HLE.out hB ?_; intro v9 w9 hr9 hs9; have R9 := Lib.hid hr9; have S9 := Lib.hid hs9; clear hr9 hs9)
            go_roundw
            case rel => exact ⟨2, L ++ L2, by omega, by go_num, Lib.hid rfl, R9, Lib.hid (HS.out.trans' S9.out (fun _ h => .inr h))⟩
            case measure => simp [intOf]
          · have k2 : k = 2 := by omega
            subst k2
            have hl : L = L1 ++ L2 := HLL.out.trans rfl
            subst hl
            go_wp2
            go_ret
            exact ⟨_, rfl, HR.out, HS.out⟩
set_option maxRecDepth 100000 in
set_option maxHeartbeats 4000000 in
theorem clone_any (b off c : Nat) (L : List LineV) (w : World) (hL : L.length ≤ 1000) (ha : LinesAt w b off L) :
    Calls Tryz.prog 41 #[.slice (some ⟨b, off, none⟩) L.length c] w fun e w' => ∃ v, e = .returned v ∧ RowL w.heap.size w' v L ∧ Spares nowhere w w' := by
  have HA : Hid (LinesAt (w.alloc (.cells #[] 23)) b off L) := Lib.hid (ha.spares ((Spares.refl _ _).alloc _))
  have HR : Hid (RowL w.heap.size (w.alloc (.cells #[] 23)) (.slice (some ⟨w.heap.size, 0, none⟩) 0 0) []) := Lib.hid (by
    exact ⟨rfl, .inr ⟨w.heap.size, 0, _, rfl, Nat.le_refl _, heap_alloc_new w _, Nat.le_refl _, by decide, rfl, rfl⟩⟩)
  obtain ⟨n, hn⟩ : ∃ n, L.length = n := ⟨_, rfl⟩
  have HN := Lib.hid hn
  have HLE : Hid (([] : List LineV).length + n ≤ 1000) := Lib.hid (by simp; omega)
  have HB : Hid (w.heap.size ≤ (w.alloc (.cells #[] 23)).heap.size) := Lib.hid (by simp)
  rw [hn]
  have hE : ∀ w, (binOp .eql 43 (.slice (some ⟨b, off, none⟩) n c) (.slice none 0 0)).run Tryz.prog w = .ok (.bool false) w := fun w => Lib.run_eql_slice_nil w 43 23 (some ⟨b, off, none⟩) n c 0 0 Tryz.underlying43
  clear hn ha hL
  go_enter Tryz.func41, Tryz.ntmps41
  go_wp2_with (at_builtin; refine wpList_row_lines rfl _ _ rfl w.heap.size _ [] rfl HR.out b off c n L rfl HN.out.symm HA.out HLE.out HB.out ?_; intro v9 w9 hr9 hs9; have R9 := Lib.hid hr9; have S9 := Lib.hid hs9; clear hr9 hs9)
  go_ret
  exact ⟨_, rfl, R9.out, ((Spares.refl nowhere w).alloc _).trans' S9.out (fun _ h => .inr h)⟩
end Go.Proofs.YtkbcklaloblmeaaGreatDoor
namespace Go.Proofs.YtkbcklaloblmeaaGreatDoor
open Go.RowKit LineMath

theorem rowV_drop : ∀ (R : List LineV) (k : Nat), rowV (R.drop k) = (rowV R).drop (k * 7)
  | R, 0 => by simp
  | [], k + 1 => by simp [rowV]
  | a :: R, k + 1 => by
    have e : rowV (a :: R) = cellsV a ++ rowV R := rfl
    rw [List.drop_succ_cons, rowV_drop R k, e, show (k + 1) * 7 = (cellsV a).length + k * 7 by show _ = 7 + _; omega, List.drop_length_add_append]
theorem lines_heap {w : World} {q : Nat} {R : List LineV} {t : TypeId} (h : w.heap[q]? = some (.cells (rowV R).toArray t (0, 0))) (k : Nat) : LinesAt w q (k * 7) (R.drop k) := by
  intro j u hj
  rw [Lib.cell_of_heap h, List.getElem?_toArray]
  rw [rowV_drop, List.getElem?_drop] at hj
  exact hj
theorem LinesAt.take {w : World} {b off : Nat} {L : List LineV} (h : LinesAt w b off L) (k : Nat) : LinesAt w b off (L.take k) := by
  intro j u hj
  refine h j u ?_
  have e : L = L.take k ++ L.drop k := (List.take_append_drop k L).symm
  rw [e, rowV_app, List.getElem?_append_left (List.getElem?_eq_some_iff.1 hj).1]
  exact hj
theorem RowL.down {B B' : Nat} {w : World} {v : Value} {L : List LineV} (h : RowL B w v L) (hB : B' ≤ B) : RowL B' w v L := by
  refine ⟨h.1, h.2.imp id ?_⟩
  rintro ⟨g, cap, cur, h1, h2, h3⟩
  exact ⟨g, cap, cur, h1, Nat.le_trans hB h2, h3⟩
def LastPost (L : List LineV) (w : World) (e : Ending) (w' : World) : Prop := ∃ v, e = .returned v ∧ RowL w.heap.size w' v L ∧ Spares nowhere w w'
set_option maxRecDepth 100000 in
set_option maxHeartbeats 4000000 in
theorem last_any (B p : Nat) (R : List LineV) (next n m : Nat) (last : Int) (w : World) (h : LogAt B w p R next n) (hm : (m : Int) = min (max last 0) (n : Int)) (hR : R.length ≤ 500) (hx : next ≤ R.length) (hx0 : 0 < R.length → next < R.length) (hn : n ≤ R.length) :
    Calls Tryz.prog 19 #[.pointer (some ⟨p, 0, none⟩), .int .i64 last] w (LastPost (lastsL R next m) w) := by
  obtain ⟨q, _, h1, h2, h3⟩ := h
  have c0 : w.cell? ⟨p, 0, none⟩ = some (.slice (some ⟨q, 0, none⟩) R.length R.length) := by rw [Lib.cell_of_heap h1]; rfl
  have c1 : w.cell? ⟨p, 1, none⟩ = some (.int .i64 next) := by rw [Lib.cell_of_heap h1]; rfl
  have c2 : w.cell? ⟨p, 2, none⟩ = some (.int .i64 n) := by rw [Lib.cell_of_heap h1]; rfl
  have H1 := Lib.hid h1
  have H2 := Lib.hid h2
  obtain ⟨M, hM⟩ : ∃ M, R.length = M := ⟨_, rfl⟩
  have HM := Lib.hid hM
  rw [hM] at c0 hR hx hx0 hn
  have e0 : min (max last 0) (n : Int) = (m : Int) := hm.symm
  have hmn : m ≤ n := by omega
  clear h1 h2 h3 hM hm
  unfold LastPost lastsL
  by_cases hlt : m ≤ next
  · rw [if_pos hlt]
    obtain ⟨f, hf⟩ : ∃ f, next - m = f := ⟨_, rfl⟩
    have e1 : (next : Int) - (m : Int) = (f : Int) := by omega
    have e2 : IntKind.i64.wrap ((next : Int) - (m : Int)) = (f : Int) := by rw [e1, IntKind.wrap_i64]; omega
    have hfx : f ≤ next := by omega
    rw [hf]
    clear hf
    obtain ⟨L, hL⟩ : ∃ L, (R.take next).drop f = L := ⟨_, rfl⟩
    have HL := Lib.hid hL
    rw [hL]
    clear hL
    go_enter Tryz.func19, Tryz.ntmps19
    go_upto_region 4 with (fail)
    go_still_tail 14, (by kernel_rfl)
    change wpList _ _ _ _ _ w.drew
    have hL := HL.out
    have hl : next - f = L.length := by rw [← hL, List.length_drop, List.length_take, HM.out]; omega
    obtain ⟨off, hoff, hat⟩ : ∃ off, (if next = f then (some ⟨q, 0, none⟩ : Option Addr) else some ⟨q, f * 7, none⟩) = some ⟨q, off, none⟩ ∧ LinesAt w.drew q off L := by
      by_cases e : next = f
      · refine ⟨0, if_pos e, ?_⟩
        have : L = [] := List.eq_nil_of_length_eq_zero (by omega)
        rw [this]
        intro j u hj
        simp [rowV] at hj
      · refine ⟨f * 7, if_neg e, ?_⟩
        rw [← hL, List.drop_take]
        exact ((lines_heap H2.out f).spares ((Spares.refl nowhere w).drew)).take _
    rw [hoff, hl]
    have cC := clone_any q off L.length L w.drew (by omega) hat
    obtain ⟨k, hk⟩ : ∃ k, L.length = k := ⟨_, rfl⟩
    rw [hk] at cC ⊢
    clear hoff hl hL hk hat c0 c1 c2
    go_wp2_with fail
    refine cC.mono ?_
    rintro e w1 ⟨v, rfl, hr, hs⟩
    go_wp2
    go_ret
    exact ⟨_, rfl, hr, (Spares.refl nowhere w).drew.trans hs⟩
  · rw [if_neg hlt]
    obtain ⟨f, hf⟩ : ∃ f, M + next - m = f := ⟨_, rfl⟩
    have e1 : IntKind.i64.wrap ((next : Int) - (m : Int)) = (next : Int) - (m : Int) := by rw [IntKind.wrap_i64]; omega
    have l1 : ¬ (0 : Int) ≤ (next : Int) - (m : Int) := by omega
    have l3 : ¬ (m : Int) ≤ (next : Int) := by omega
    have l4 : decide (m ≤ next) = false := by simp; omega
    have e2 : (next : Int) - (m : Int) + (M : Int) = (f : Int) := by omega
    have hfM : f < M := by omega
    have hnf : ¬ M = f := by omega
    have hfm : f ≤ M := by omega
    have hfi : (f : Int) ≤ (M : Int) := by omega
    have hnM : next < M := hx0 (by omega)
    rw [HM.out, hf]
    clear hf
    have CC := Lib.hid (concat_any w.heap.size q (f * 7) (M - f) q 0 next (R.drop f) (R.take next) (w.drew.alloc (.cells #[.slice (some ⟨q, f * 7, none⟩) (M - f) (M - f), .slice (some ⟨q, 0, none⟩) next next] 43))
      (by rw [List.length_drop, HM.out]; exact (Lib.cell_of_heap (heap_alloc_new w.drew _) 0).trans rfl)
      (by rw [List.length_take, HM.out, Nat.min_eq_left hx]; exact (Lib.cell_of_heap (heap_alloc_new w.drew _) 1).trans rfl)
      (by rw [List.length_drop, List.length_take, HM.out]; omega)
      ((lines_heap H2.out f).spares (((Spares.refl nowhere w).drew).alloc _))
      (by have h := (((lines_heap H2.out 0).spares (((Spares.refl nowhere w).drew).alloc (.cells #[.slice (some ⟨q, f * 7, none⟩) (M - f) (M - f), .slice (some ⟨q, 0, none⟩) next next] 43))).take next); rw [List.drop_zero, Nat.zero_mul] at h; exact h))
    obtain ⟨LL, hLL⟩ : ∃ LL, R.drop f ++ R.take next = LL := ⟨_, rfl⟩
    rw [hLL] at CC ⊢
    clear hLL
    go_enter Tryz.func19, Tryz.ntmps19
    go_upto_region 6 with (fail)
    go_still_tail 29, (by kernel_rfl)
    change wpList _ _ _ _ _ w.drew
    go_wp2_with fail
    refine (CC.out).mono ?_
    rintro e w1 ⟨v, rfl, hr, hs⟩
    go_wp2
    go_ret
    refine ⟨_, rfl, ?_, ((Spares.refl nowhere w).drew.alloc _).trans hs⟩
    exact RowL.down hr (by simp)
end Go.Proofs.YtkbcklaloblmeaaGreatDoor
