/-
  Two fragments' heads that are the same; two rows of bytes held against one another; the reference's OpenFrag for any bytes.
-/
import Derived.Test.YtimpnnhadjfijaaDoorFragRefOpenF
namespace Go.Proofs.YtimpnnhadjfijaaDoor
open Go.RowKit CrcMath

theorem refOpenFrag_any (a : Option Addr) (n c : Nat) (l : List UInt8) (w : World) (hl : BytesAt w a l) (hn : n = l.length) (hnc : n ≤ c) (hmax : n ≤ 140737488351232) :
    Calls Tryd.prog 14 #[.slice a n c] w (OpenPost l w) := by
  by_cases hs : n < 89
  · exact refOpenFrag_short a n c l w hn hs
  · obtain ⟨b, off, rfl, _⟩ := hl 0 (by omega)
    exact refOpenFrag_long b off n c l w hl hn hnc (by omega) hmax
theorem range_key {W : World} {q : Nat} {F : FragD} {t : TypeId} (h : W.heap[q]? = some (.cells (fragA F) t (0, 0))) (hK : F.K.length = 32) (hS : F.S.length = 32) : W.rangeAt q 0 (Lib.byteCells F.K) ∧ W.rangeAt q 35 (Lib.byteCells F.S) :=
  ⟨(frag_cells h hK hS).1.range, (frag_cells h hK hS).2.2.2.2.1.range⟩
set_option maxRecDepth 100000 in
set_option maxHeartbeats 2000000 in
theorem same_any (F : FragD) (w : World) (hK : F.K.length = 32) (hS : F.S.length = 32) :
    Calls Tryd.prog 15 #[.agg (fragA F), .agg (fragA F)] w (Knows w) := by
  obtain ⟨v2, hv2⟩ : ∃ v2, (w.alloc (.cells (fragA F) 26)).alloc (.cells (fragA F) 26) = v2 := ⟨_, rfl⟩
  have HV2 := Lib.hid hv2
  have hs2 : Spares nowhere w v2 := by rw [← hv2]; exact ((Spares.refl _ w).alloc _).alloc _
  have h0 : v2.heap[w.heap.size]? = some (.cells (fragA F) 26 (0, 0)) := by
    rw [← hv2]; exact (Below.heap_alloc _ _ _ (by simp)).trans (heap_alloc_new w _)
  have h1 : v2.heap[w.heap.size + 1]? = some (.cells (fragA F) 26 (0, 0)) := by
    rw [← hv2]
    have := heap_alloc_new (w.alloc (.cells (fragA F) 26)) (.cells (fragA F) 26)
    simpa using this
  obtain ⟨_, a1, a2, a3, _, a4⟩ := frag_cells h0 hK hS
  obtain ⟨_, b1, b2, b3, _, b4⟩ := frag_cells h1 hK hS
  obtain ⟨r1, r2⟩ := range_key h0 hK hS
  obtain ⟨r3, r4⟩ := range_key h1 hK hS
  obtain ⟨K, hKK⟩ : ∃ K, F.K = K := ⟨_, rfl⟩
  obtain ⟨S, hSS⟩ : ∃ S, F.S = S := ⟨_, rfl⟩
  obtain ⟨x1, hx1⟩ : ∃ x, F.part = x := ⟨_, rfl⟩
  obtain ⟨x2, hx2⟩ : ∃ x, F.last = x := ⟨_, rfl⟩
  obtain ⟨x3, hx3⟩ : ∃ x, F.size = x := ⟨_, rfl⟩
  obtain ⟨x4, hx4⟩ : ∃ x, F.turn = x := ⟨_, rfl⟩
  rw [hKK] at hK r1 r3
  rw [hSS] at hS r2 r4
  rw [hx1] at a1 b1; rw [hx2] at a2 b2; rw [hx3] at a3 b3; rw [hx4] at a4 b4
  have R1 := Lib.hid r1
  have R2 := Lib.hid r2
  have R3 := Lib.hid r3
  have R4 := Lib.hid r4
  have k1 := key_equal K K hK hK
  rw [decide_eq_true rfl] at k1
  have k2 := key_equal S S hS hS
  rw [decide_eq_true rfl] at k2
  have HIK : Hid ((Tryd.prog.info? 23).map (·.size) = some (Lib.byteCells K).length) := Lib.hid (by rw [byteCells_len, hK]; exact infoKey)
  have HIS : Hid ((Tryd.prog.info? 23).map (·.size) = some (Lib.byteCells S).length) := Lib.hid (by rw [byteCells_len, hS]; exact infoKey)
  have HS2 := Lib.hid hs2
  clear hv2 hs2 h0 h1 r1 r2 r3 r4 hK hS hKK hSS hx1 hx2 hx3 hx4
  go_enter Tryd.func15, Tryd.ntmps15
  go_upto_region 1 with (fail)
  change Code.wp _ _ _ _ ((w.alloc (.cells (fragA F) 26)).alloc (.cells (fragA F) 26))
  rw [HV2.out]
  change ∀ w, (Op.equalIn 10000 23 (.agg (Lib.byteCells K).toArray) (.agg (Lib.byteCells K).toArray)).run Tryd.prog w = .ok true w at k1
  change ∀ w, (Op.equalIn 10000 23 (.agg (Lib.byteCells S).toArray) (.agg (Lib.byteCells S).toArray)).run Tryd.prog w = .ok true w at k2
  have c1 : (x1 == x1) = true := by simp
  have c2 : (x2 == x2) = true := by simp
  have c3 : (x3 == x3) = true := by simp
  go_wp2_with (first
    | ((with_reducible show wpList _ _ _ (⟨some 6, .load 23 _, _, _, _, _⟩ :: _) _ _); refine wpList_load_mid rfl 23 (.tmp 5) rfl w.heap.size 0 rfl (Lib.byteCells K) _ R1.out Tryd.underlying23 rfl HIK.out ?_)
    | ((with_reducible show wpList _ _ _ (⟨some 8, .load 23 _, _, _, _, _⟩ :: _) _ _); refine wpList_load_mid rfl 23 (.tmp 7) rfl (w.heap.size + 1) 0 rfl (Lib.byteCells K) _ R3.out Tryd.underlying23 rfl HIK.out ?_)
    | ((with_reducible show wpList _ _ _ (⟨some 33, .load 23 _, _, _, _, _⟩ :: _) _ _); refine wpList_load_midG (by rfl) 23 (.tmp 32) rfl w.heap.size 35 rfl (Lib.byteCells S) _ R2.out Tryd.underlying23 rfl HIS.out ?_)
    | ((with_reducible show wpList _ _ _ (⟨some 35, .load 23 _, _, _, _, _⟩ :: _) _ _); refine wpList_load_midG (by rfl) 23 (.tmp 34) rfl (w.heap.size + 1) 35 rfl (Lib.byteCells S) _ R4.out Tryd.underlying23 rfl HIS.out ?_)
    | fail)
  go_ret
  exact ⟨rfl, HS2.out⟩
end Go.Proofs.YtimpnnhadjfijaaDoor
