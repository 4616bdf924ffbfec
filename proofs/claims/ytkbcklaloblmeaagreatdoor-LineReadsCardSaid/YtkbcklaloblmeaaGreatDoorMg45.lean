/-
  The reference's LineOf: where it stops early.
-/
import Derived.Test.YtkbcklaloblmeaaGreatDoorMg31
import Derived.Test.YtkbcklaloblmeaaGreatDoorMg39
import Derived.Test.YtkbcklaloblmeaaGreatDoorMg40
import Derived.Test.YtkbcklaloblmeaaGreatDoorMg44
namespace Go.Proofs.YtkbcklaloblmeaaGreatDoor
open Go.RowKit LineMath ChunkS NormS DateMath

theorem getD_at (s : ByteArray) (k : Nat) (h : k < s.size) : s.data.toList.getD k 0 = s[k] := by
  rw [List.getD_eq_getElem?_getD, List.getElem?_eq_getElem (by rw [size_list]; exact h)]
  rfl
theorem byte_nat (c : UInt8) : (c = 32) ↔ (c.toNat : Int) = 32 := by
  constructor
  · intro h; rw [h]; rfl
  · intro h
    apply UInt8.toNat_inj.1
    have : (32 : UInt8).toNat = 32 := rfl
    omega
set_option maxRecDepth 100000 in
set_option maxHeartbeats 8000000 in
theorem lof_bare (s : ByteArray) (w : World) (hs : s.size < 30 ∨ s.data.toList.getD 29 0 ≠ 32) : Calls Tryz.prog 12 #[.string s] w (ParseLPost s.data.toList w) := by
  have HV : Hid (lineF s.data.toList = none) := Lib.hid (by
    rw [← ref_line]
    rcases hs with h | h
    · exact refF_short (by rw [size_list]; exact h)
    · exact refF_bare h)
  have HI : Hid ((Tryz.prog.info? 23).map (·.size) = some 7) := Lib.hid (by kernel_rfl)
  have hw1 : (w.alloc (.cells (cellsV zeroL).toArray 23)).heap[w.heap.size]? = some (.cells (cellsV zeroL).toArray 23 (0, 0)) := heap_alloc_new w _
  have HW1 := Lib.hid hw1
  have HT : Hid ((w.alloc (.cells (cellsV zeroL).toArray 23)).there w.heap.size 0 7) := Lib.hid (there_of hw1 _ _ (by decide))
  clear hw1
  unfold ParseLPost
  by_cases h30 : s.size < 30
  · have l1 : (s.size : Int) < 30 := by omega
    clear hs
    go_enter Tryz.func12, Tryz.ntmps12
    go_wp2
    exact bodyPost_ret (v := lineR none) (results_cell_two rfl _ _ w.heap.size 23 (cellsV zeroL).toArray (0, 0) _ (.int .i64 123) rfl rfl (heap_alloc_new w _) Tryz.underlying23 (by rfl) (by kernel_rfl)) rfl ⟨by rw [HV.out], (Below.refl _ _).alloc (Nat.le_refl _) _⟩
  · have l1 : ¬ (s.size : Int) < 30 := by omega
    have l2 : ¬ (s[29].toNat : Int) = 32 := fun h => by
      rcases hs with h2 | h2
      · exact h30 h2
      · exact h2 (by rw [getD_at s 29 (by omega)]; exact (byte_nat _).2 h)
    clear hs
    go_enter Tryz.func12, Tryz.ntmps12
    go_wp2
    exact bodyPost_ret (v := lineR none) (results_cell_two rfl _ _ w.heap.size 23 (cellsV zeroL).toArray (0, 0) _ (.int .i64 123) rfl rfl (heap_alloc_new w _) Tryz.underlying23 (by rfl) (by kernel_rfl)) rfl ⟨by rw [HV.out], (Below.refl _ _).alloc (Nat.le_refl _) _⟩
set_option maxRecDepth 100000 in
set_option maxHeartbeats 8000000 in
theorem lof_date (s : ByteArray) (w : World) (hs : 30 ≤ s.size) (h29 : s.data.toList.getD 29 0 = 32) (hr : (readF (s.data.toList.take 29)).2 ≠ 0) (hsz : s.size ≤ 100000000) : Calls Tryz.prog 12 #[.string s] w (ParseLPost s.data.toList w) := by
  have HV : Hid (lineF s.data.toList = none) := Lib.hid (by rw [← ref_line]; exact refF_date (by rw [size_list]; omega) h29 hr)
  have he : (s.extract 0 29).data.toList = s.data.toList.take 29 := by rw [Lib.extract_data]; simp
  have cP := refParse_anyD (s.extract 0 29) (w.alloc (.cells (cellsV zeroL).toArray 23)) (by rw [ByteArray.size_extract]; omega)
  unfold PairPost at cP
  rw [he] at cP
  obtain ⟨X, hX⟩ : ∃ X, (readF (s.data.toList.take 29)).1 = X := ⟨_, rfl⟩
  obtain ⟨Y, hY⟩ : ∃ Y, (readF (s.data.toList.take 29)).2 = Y := ⟨_, rfl⟩
  rw [hX, hY] at cP
  rw [hY] at hr
  have l1 : ¬ (s.size : Int) < 30 := by omega
  have l2 : (s[29].toNat : Int) = 32 := (byte_nat _).1 (by rw [← getD_at s 29 (by omega)]; exact h29)
  clear hX hY he h29
  unfold ParseLPost
  go_enter Tryz.func12, Tryz.ntmps12
  go_wp2_with fail
  refine cP.mono ?_
  rintro e w2 ⟨rfl, hb⟩
  have hb2 : Below w.heap.size w w2 := ((Below.refl _ _).alloc (Nat.le_refl _) _).trans (hb.mono (by simp))
  have hr2 : w2.heap[w.heap.size]? = some (.cells (cellsV zeroL).toArray 23 (0, 0)) := (hb.block w.heap.size (by simp)).trans (heap_alloc_new w _)
  have HT : Hid (w2.there w.heap.size 0 7) := Lib.hid (there_of hr2 _ _ (by decide))
  have HI : Hid ((Tryz.prog.info? 23).map (·.size) = some 7) := Lib.hid (by kernel_rfl)
  have H3 := Lib.hid hr2
  have S3 : Hid (Spares nowhere w w2) := Lib.hid (Below.spares hb2 (fun _ hk => .inr hk))
  clear hb cP hr2 hb2
  go_wp2_with ((with_reducible show wpList _ _ _ (⟨none, .store 23 _ _, _, _, _, _⟩ :: _) _ _); refine wpList_store_mid rfl 23 (.tmp 2) (.tmp 36) rfl w.heap.size 0 (cellsV zeroL).toArray rfl rfl HT.out HI.out (all_oneCell_toArray (cellsV_one _)) ?_)
  exact bodyPost_ret (v := lineR none) (results_cell_two rfl _ _ w.heap.size 23 (cellsV zeroL).toArray (0, 0) _ (.int .i64 123) rfl rfl (heap_setCells (cellsV zeroL) [] (cellsV zeroL) [] w2 H3.out rfl) Tryz.underlying23 (by rfl) HI.out) rfl ⟨by rw [HV.out], (S3.out.trans' (F' := fun b => b = w.heap.size) (spares_setCells _ _ _ (Spares.refl _ _)) (fun b hb => .inr (by omega))).below0⟩
end Go.Proofs.YtkbcklaloblmeaaGreatDoor
