/-
  chunk.Open: the closure that recovers.
-/
import Derived.Test.YtkfnebpooohflaaDoorChunkTrail
namespace Go.Proofs.YtkfnebpooohflaaDoor
open Go.RowKit HeadMath NormMath NormS HeadS ChunkMath

theorem assert_nil (w : World) : (Instr.typeAssert Value.nilIface 20 40 true).run Tryd.prog w = .ok (.tuple #[.agg #[.int .i64 0], .bool false]) w := by kernel_rfl
theorem assert_fault (n : Int) (w : World) : (Instr.typeAssert (.iface 40 (.agg #[.int .i64 n])) 20 40 true).run Tryd.prog w = .ok (.tuple #[.agg #[.int .i64 n], .bool true]) w := by kernel_rfl
set_option maxHeartbeats 1000000 in
theorem catch_idle (p q r : Nat) (w : World) :
    CallsD Tryd.prog 19 #[.pointer (some ⟨p, 0, none⟩), .pointer (some ⟨q, 0, none⟩), .pointer (some ⟨r, 0, none⟩)] .returning w fun e u' w' => e = .returned (.tuple #[]) ∧ u' = .returning ∧ Spares nowhere w w' := by
  refine callsD_of_wpS Tryd.func19 rfl fun c₀ cs hu => ?_
  apply wpS_seq
  apply wpS_region
  simp [wpOpsS, go_sem, recoverD, hu, assert_nil, Tryd.ntmps19, Exit.thenS]
  apply wpS_seq
  apply wpS_region
  simp [wpOpsS, go_sem, Exit.thenS]
  refine wpS_cond (t := false) (by simp [Act.eval, Array.replicate]) ?_
  simp only [Bool.false_eq_true, if_false]
  refine wpS_of_wp (wp_skip ?_)
  have hsp := (Spares.refl nowhere w).alloc (.cells #[.int .i64 0] 40)
  cases c₀
  simp_all [bodyPostS, results, Tryd.results19]
set_option maxHeartbeats 1000000 in
theorem catch_panicking (p q r : Nat) (n : Int) (older : List PanicEntry) (w : World) (x y z : Value) (h1 : ¬ q = p) (h2 : ¬ r = p) (h3 : ¬ r = q)
    (hp : w.heap[p]? = some (.cells #[x] 22 (0, 0))) (hq : w.heap[q]? = some (.cells #[y] 3 (0, 0))) (hr : w.heap[r]? = some (.cells #[z] 25 (0, 0))) :
    CallsD Tryd.prog 19 #[.pointer (some ⟨p, 0, none⟩), .pointer (some ⟨q, 0, none⟩), .pointer (some ⟨r, 0, none⟩)] (.panicking ({ v := .iface 40 (.agg #[.int .i64 n]), recovered := false } :: older)) w fun e u' w' =>
      e = .returned (.tuple #[]) ∧ u' = .panicking ({ v := .iface 40 (.agg #[.int .i64 n]), recovered := true } :: older) ∧
      w'.heap[p]? = some (.cells #[.slice none 0 0] 22 (0, 0)) ∧ w'.heap[q]? = some (.cells #[.int .i64 0] 3 (0, 0)) ∧ w'.heap[r]? = some (.cells #[.int .i64 n] 25 (0, 0)) ∧ Spares (fun k => k = p ∨ k = q ∨ k = r) w w' := by
  have hsp := (Spares.refl nowhere w).alloc (.cells #[.int .i64 n] 40)
  have hlp : p < w.heap.size := (Array.getElem?_eq_some_iff.1 hp).1
  have hlq : q < w.heap.size := (Array.getElem?_eq_some_iff.1 hq).1
  have hlr : r < w.heap.size := (Array.getElem?_eq_some_iff.1 hr).1
  have hf0 := heap_alloc_new w (.cells #[.int .i64 n] 40)
  obtain ⟨v1, hv1⟩ : ∃ v1, w.alloc (.cells #[.int .i64 n] 40) = v1 := ⟨_, rfl⟩
  rw [hv1] at hsp hf0
  obtain ⟨g, hg⟩ : ∃ g, w.heap.size = g := ⟨_, rfl⟩
  rw [hg] at hf0 hlp hlq hlr
  have hset : ∀ (u : World) (b : Nat) (x y : Value) (t : TypeId), u.heap[b]? = some (.cells #[x] t (0, 0)) → (u.setCell ⟨b, 0, none⟩ y).heap[b]? = some (.cells #[y] t (0, 0)) := fun u b x y t h => by
    simp [World.setCell, Array.getElem?_modify, h]
  have hk : ∀ (u : World) (b k : Nat) (y : Value) (o : Option Obj), k ≠ b → u.heap[k]? = o → (u.setCell ⟨b, 0, none⟩ y).heap[k]? = o := fun u b k y o hn h => (Below.heap_setCell u ⟨b, 0, none⟩ y k hn).trans h
  have f0 : ∀ {u : World} {b : Nat} {x : Value} {t : TypeId}, u.heap[b]? = some (.cells #[x] t (0, 0)) → u.frozen? ⟨b, 0, none⟩ = false := fun h => Lib.frozen_of_heap h 0
  have c0 : ∀ {u : World} {b : Nat} {x : Value} {t : TypeId}, u.heap[b]? = some (.cells #[x] t (0, 0)) → u.cell? ⟨b, 0, none⟩ = some x := fun h => (Lib.cell_of_heap h 0).trans rfl
  have P0 := hsp.heap hp (fun h => h)
  have Q0 := hsp.heap hq (fun h => h)
  have R0 := hsp.heap hr (fun h => h)
  have P1 := hset v1 p _ (.slice none 0 0) _ P0
  have Q1 := hk v1 p q (.slice none 0 0) _ h1 Q0
  have R1 := hk v1 p r (.slice none 0 0) _ h2 R0
  have F1 := hk v1 p g (.slice none 0 0) _ (by omega) hf0
  have P2 := hk _ q p (.int .i64 0) _ (fun e => h1 e.symm) P1
  have Q2 := hset _ q _ (.int .i64 0) _ Q1
  have R2 := hk _ q r (.int .i64 0) _ h3 R1
  have F2 := hk _ q g (.int .i64 0) _ (by omega) F1
  have P3 := hk _ r p (.int .i64 n) _ (fun e => h2 e.symm) P2
  have Q3 := hk _ r q (.int .i64 n) _ (fun e => h3 e.symm) Q2
  have R3 := hset _ r _ (.int .i64 n) _ R2
  have a1 := c0 P0
  have a2 := c0 Q1
  have a3 := c0 R2
  have a4 := c0 hf0
  have a5 := c0 F1
  have a6 := c0 F2
  have b1 := f0 P0
  have b2 := f0 Q1
  have b3 := f0 R2
  have HS : Hid (Spares (fun k => k = p ∨ k = q ∨ k = r) w (((v1.setCell ⟨p, 0, none⟩ (.slice none 0 0)).setCell ⟨q, 0, none⟩ (.int .i64 0)).setCell ⟨r, 0, none⟩ (.int .i64 n))) := Lib.hid
    ((((hsp.mono (F' := fun k => k = p ∨ k = q ∨ k = r) (fun _ h => by cases h)).setCell (p := ⟨p, 0, none⟩) (.inl (.inl rfl)) _).setCell (p := ⟨q, 0, none⟩) (.inl (.inr (.inl rfl))) _).setCell (p := ⟨r, 0, none⟩) (.inl (.inr (.inr rfl))) _)
  have HP3 := Lib.hid P3
  have HQ3 := Lib.hid Q3
  have HR3 := Lib.hid R3
  clear P0 Q0 R0 P1 Q1 R1 F1 P2 Q2 R2 F2 P3 Q3 R3 hf0 hset hk f0 c0 hp hq hr hsp
  have HV1 := Lib.hid hv1
  have HG := Lib.hid hg
  clear hv1 hg
  refine callsD_of_wpS Tryd.func19 rfl fun c₀ cs hu => ?_
  apply wpS_seq
  apply wpS_region
  simp [wpOpsS, go_sem, recoverD, hu, assert_fault, Tryd.ntmps19, Exit.thenS]
  apply wpS_seq
  apply wpS_region
  simp [wpOpsS, go_sem, Exit.thenS]
  refine wpS_cond (t := true) (by simp [Act.eval, Array.replicate]) ?_
  simp only [if_true]
  refine wpS_of_wp ?_
  rw [HV1.out, HG.out]
  go_region
  all_goals
    simp [bodyPostS, results, Tryd.results19]
    exact ⟨HP3.out, HQ3.out, HR3.out, HS.out.drew⟩
end Go.Proofs.YtkfnebpooohflaaDoor
