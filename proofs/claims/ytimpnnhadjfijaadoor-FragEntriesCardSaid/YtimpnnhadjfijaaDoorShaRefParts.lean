/-
  The reference's Sum: parts of its walk.
-/
import Derived.Test.YtimpnnhadjfijaaDoorShaRefPad
import Derived.Test.YtimpnnhadjfijaaDoorShaSum
import Derived.Test.YtimpnnhadjfijaaDoorQuietTail
import Derived.BigQuiet
namespace Go.Proofs.YtimpnnhadjfijaaDoor
open Go.RowKit

set_option maxRecDepth 100000 in
set_option maxHeartbeats 1000000 in
theorem table_any (w : World) : Calls Tryd.prog 39 #[] w fun e w' => e = .returned (.agg roundV) ∧ Spares nowhere w w' := by
  go_enter Tryd.func39, Tryd.ntmps39
  go_wp2_with (first | (refine wpList_buildTo rfl 80 _ rfl (some 1) rfl roundV (by kernel_rfl) ?_) | (refine wpList_store_rowTo rfl 80 _ _ rfl rfl w.heap.size roundV rfl rfl 80 _ (heap_alloc_new w _) (by kernel_rfl) (by kernel_rfl) roundV_one ?_))
  exact bodyPost_ret (v := .agg roundV) (results_cell_row rfl _ _ w.heap.size 80 roundV (0, 0) _ rfl (setRow_heap _ _ _ _ _ _ (heap_alloc_new w _)) Tryd.underlying80 (by rfl) (by kernel_rfl)) rfl ⟨rfl, ((Spares.refl nowhere w).alloc _).trans' (spares_setRow _ _ _) (fun b hb => .inr (by omega))⟩
theorem start_row : (stV startS).toArray = firstV := by kernel_rfl
theorem padS_len (l : List UInt8) : (padS l).length % 64 = 0 ∧ (padS l).length ≤ l.length + 72 ∧ 64 ≤ (padS l).length := by
  unfold padS lenB
  simp only [List.length_append, List.length_replicate, List.length_map, List.length_range, List.length_cons, List.length_nil]
  omega
theorem getD_drop (P : List UInt8) (A j : Nat) : (P.drop A).getD j 0 = P.getD (A + j) 0 := by
  rw [List.getD_eq_getElem?_getD, List.getD_eq_getElem?_getD, List.getElem?_drop]
theorem table_cell {w : World} {q : Nat} (h : w.heap[q]? = some (.cells roundV 80 (0, 0))) (i : Nat) (hi : i < 64) : w.cell? ⟨q, i, none⟩ = some (.int .u32 (roundK.getD i 0).toNat) := by
  have hr : i < roundK.length := by rw [roundK_len]; exact hi
  have e : roundV = (roundK.map v32).toArray := by kernel_rfl
  rw [Lib.cell_of_heap h, e, List.getElem?_toArray, List.getElem?_map, List.getElem?_eq_getElem hr, List.getD_eq_getElem?_getD, List.getElem?_eq_getElem hr]
  rfl
theorem state_cell {w : World} {q : Nat} {S : S8} (h : w.heap[q]? = some (.cells (stV S).toArray 79 (0, 0))) (i : Nat) (hi : i < 8) : w.cell? ⟨q, i, none⟩ = some (.int .u32 ((wl S).getD i 0).toNat) := by
  rw [Lib.cell_of_heap h, List.getElem?_toArray]; exact stV_get i hi S
theorem byte_of (x : UInt32) (r s : Nat) (h : s = 8 * (3 - r)) : ((x.toNat : Int) / 2 ^ s) % 256 = ((byW x r).toNat : Int) := by
  have e : (2 : Int) ^ s = ((256 ^ (3 - r) : Nat) : Int) := by rw [h, show (256 : Nat) = 2 ^ 8 from rfl, ← Nat.pow_mul]; simp
  unfold byW
  rw [UInt8.toNat_ofNat', e, ← Int.natCast_ediv]
  simp
theorem outS_get (S : S8) (k : Nat) (h : k < 32) : (outS S)[k]? = some (byW ((wl S).getD (k / 4) 0) (k % 4)) := by
  have h8 : k = 4 * (k / 4) + k % 4 := by omega
  obtain ⟨d, hd⟩ : ∃ d, k / 4 = d := ⟨_, rfl⟩
  obtain ⟨r, hr⟩ : ∃ r, k % 4 = r := ⟨_, rfl⟩
  rw [hd, hr] at h8 ⊢
  have h1 : d < 8 := by omega
  have h2 : r < 4 := by omega
  subst h8
  obtain rfl | rfl | rfl | rfl | rfl | rfl | rfl | rfl : d = 0 ∨ d = 1 ∨ d = 2 ∨ d = 3 ∨ d = 4 ∨ d = 5 ∨ d = 6 ∨ d = 7 := by omega
  all_goals
    obtain rfl | rfl | rfl | rfl : r = 0 ∨ r = 1 ∨ r = 2 ∨ r = 3 := by omega
    all_goals rfl
theorem outS_take (S : S8) (k : Nat) (h : k < 32) : (outS S).take (k + 1) = (outS S).take k ++ [byW ((wl S).getD (k / 4) 0) (k % 4)] := by
  rw [List.take_add_one, outS_get S k h]; rfl
/-- What stands through the reference's rounds: the key to be, the state, the table, the padded text. -/
structure RefAt (q2 q3 q4 g off : Nat) (P : List UInt8) (w : World) (S : S8) (wr : World) : Prop where
  st : wr.heap[q3]? = some (.cells (stV S).toArray 79 (0, 0))
  tb : wr.heap[q4]? = some (.cells roundV 80 (0, 0))
  key : wr.heap[q2]? = some (.cells (bytesV (List.replicate 32 0)) 22 (0, 0))
  pad : BytesAt wr (some ⟨g, off, none⟩) P
  sp : Spares nowhere w wr
theorem RefAt.keep {q2 q3 q4 g off : Nat} {P : List UInt8} {w : World} {S : S8} {wr wr' : World} {F : Nat → Prop} (h : RefAt q2 q3 q4 g off P w S wr) (hs : Spares F wr wr') (h2 : ¬ F q2) (h3 : ¬ F q3) (h4 : ¬ F q4) (hg : ¬ F g) (hw : ∀ b, F b → w.heap.size ≤ b) : RefAt q2 q3 q4 g off P w S wr' :=
  ⟨hs.heap h.st h3, hs.heap h.tb h4, hs.heap h.key h2, h.pad.spares hs (fun b o e => by cases e; exact hg), h.sp.trans' hs (fun b hb => .inr (hw b hb))⟩
theorem turn_int (x : UInt32) (n : Int) (h0 : 0 < n) (h1 : n < 32) (w : World) : Calls Tryd.prog 41 #[.int .u32 x.toNat, .int .i64 n] w fun e w' => e = .returned (.int .u32 (rotW x n.toNat).toNat) ∧ ∃ n, w' = w.drewN n := by
  obtain ⟨k, rfl⟩ : ∃ k : Nat, n = (k : Int) := ⟨n.toNat, by omega⟩
  exact turn_any x k (by omega) (by omega) w
theorem RefAt.add {q2 q3 q4 g off : Nat} {P : List UInt8} {w : World} {S : S8} {wr : World} (h : RefAt q2 q3 q4 g off P w S wr) (t : S8) (n2 : q2 ≠ q3) (n4 : q4 ≠ q3) (hg : g ≠ q3) (hw : w.heap.size ≤ q3) : RefAt q2 q3 q4 g off P w (addS S t) ((((((((wr.setCell ⟨q3, 0, none⟩ (.int .u32 (addW S.a t.a).toNat)).setCell ⟨q3, 1, none⟩ (.int .u32 (addW S.b t.b).toNat)).setCell ⟨q3, 2, none⟩ (.int .u32 (addW S.c t.c).toNat)).setCell ⟨q3, 3, none⟩ (.int .u32 (addW S.d t.d).toNat)).setCell ⟨q3, 4, none⟩ (.int .u32 (addW S.e t.e).toNat)).setCell ⟨q3, 5, none⟩ (.int .u32 (addW S.f t.f).toNat)).setCell ⟨q3, 6, none⟩ (.int .u32 (addW S.g t.g).toNat)).setCell ⟨q3, 7, none⟩ (.int .u32 (addW S.h t.h).toNat)) := by
  have h0 := h.st
  have h1 := heap_set h0 0 (.int .u32 (addW S.a t.a).toNat)
  have h2 := heap_set h1 1 (.int .u32 (addW S.b t.b).toNat)
  have h3 := heap_set h2 2 (.int .u32 (addW S.c t.c).toNat)
  have h4 := heap_set h3 3 (.int .u32 (addW S.d t.d).toNat)
  have h5 := heap_set h4 4 (.int .u32 (addW S.e t.e).toNat)
  have h6 := heap_set h5 5 (.int .u32 (addW S.f t.f).toNat)
  have h7 := heap_set h6 6 (.int .u32 (addW S.g t.g).toNat)
  have h8 := heap_set h7 7 (.int .u32 (addW S.h t.h).toNat)
  have hsp := (spares_set (g := q3) (spares_set (g := q3) (spares_set (g := q3) (spares_set (g := q3) (spares_set (g := q3) (spares_set (g := q3) (spares_set (g := q3) (spares_set (g := q3) (Spares.refl (fun b => b = q3) wr) 0 (.int .u32 (addW S.a t.a).toNat)) 1 (.int .u32 (addW S.b t.b).toNat)) 2 (.int .u32 (addW S.c t.c).toNat)) 3 (.int .u32 (addW S.d t.d).toNat)) 4 (.int .u32 (addW S.e t.e).toNat)) 5 (.int .u32 (addW S.f t.f).toNat)) 6 (.int .u32 (addW S.g t.g).toNat)) 7 (.int .u32 (addW S.h t.h).toNat))
  have e : ∀ (x0 x1 x2 x3 x4 x5 x6 x7 y0 y1 y2 y3 y4 y5 y6 y7 : Value), ((((((((#[x0, x1, x2, x3, x4, x5, x6, x7] : Array Value).setIfInBounds 0 y0).setIfInBounds 1 y1).setIfInBounds 2 y2).setIfInBounds 3 y3).setIfInBounds 4 y4).setIfInBounds 5 y5).setIfInBounds 6 y6).setIfInBounds 7 y7 = #[y0, y1, y2, y3, y4, y5, y6, y7] := by
    intros; simp
  have e2 := e (v32 S.a) (v32 S.b) (v32 S.c) (v32 S.d) (v32 S.e) (v32 S.f) (v32 S.g) (v32 S.h) (v32 (addW S.a t.a)) (v32 (addW S.b t.b)) (v32 (addW S.c t.c)) (v32 (addW S.d t.d)) (v32 (addW S.e t.e)) (v32 (addW S.f t.f)) (v32 (addW S.g t.g)) (v32 (addW S.h t.h))
  refine ⟨h8.trans (congrArg (fun r => some (Obj.cells r 79 (0, 0))) e2), hsp.heap h.tb n4, hsp.heap h.key n2, h.pad.spares hsp (fun b o he => by cases he; exact hg), h.sp.trans' hsp (fun b hb => .inr (by subst hb; exact hw))⟩
end Go.Proofs.YtimpnnhadjfijaaDoor
