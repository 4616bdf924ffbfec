/-
  line.Parse.
-/
import Derived.Test.YtkbcklaloblmeaaGreatDoorMg25
import Derived.Test.YtkbcklaloblmeaaGreatDoorMg26
import Derived.Test.YtkbcklaloblmeaaGreatDoorMg27
namespace Go.Proofs.YtkbcklaloblmeaaGreatDoor
open Go.RowKit LineMath ChunkS NormS DateMath

def lineR (o : Option LineV) : Value := match o with
  | some v => .tuple #[.agg (cellsV v).toArray, .int .i64 0]
  | none => .tuple #[.agg (cellsV zeroL).toArray, .int .i64 123]
def ParseLPost (l : List UInt8) (w : World) (e : Ending) (w' : World) : Prop := e = .returned (lineR (lineF l)) ∧ Below w.heap.size w w'
/-- A text of 29 bytes that is a time's is the one that the time is written as. -/
theorem read_29 {l : List UInt8} {t : Int} (h : l.length = 29) (hr : readF l = (t, 0)) : plainT (momOf (clampN t)) = l ∧ 0 ≤ t ∧ t ≤ 253402300799 := by
  by_cases hx : ∃ n, TextOf n l
  · obtain ⟨n, hn⟩ := hx
    have e := read_yes hn
    rw [e] at hr
    injection hr with h1 _
    subst h1
    obtain ⟨hm, hf⟩ := hn
    have hc : clampN (n : Int) = n := by unfold clampN; unfold maxT at hm; omega
    have hok := mom_ok n hm
    rw [hc]
    refine ⟨?_, by omega, by unfold maxT at hm; omega⟩
    rcases hf with hf | hf | ⟨hf, _⟩
    · exact hf.symm
    · rw [hf, old_len hok] at h; omega
    · have h2 := (day_long (momOf n) hok.wd).1
      rw [hf, long_len hok] at h; omega
  · have e := read_no (l := l) (fun t ht => hx ⟨t, ht⟩)
    rw [e] at hr
    injection hr with _ h2
    cases h2
/-- How a request was answered, after k words were tried. -/
def hcur (wd : List UInt8) (k : Nat) : Int := if 0 ≤ howF wd ∧ howF wd < k then howF wd else -1
theorem how_iff (wd : List UInt8) (k : Nat) (hk : k < 6) : howF wd = (k : Int) ↔ wd = howB k := by
  constructor
  · intro h
    by_cases e0 : wd = howB 0
    · have h2 := howF_howB 0 (by decide)
      rw [← e0] at h2
      have : k = 0 := by omega
      rw [this]; exact e0
    by_cases e1 : wd = howB 1
    · have h2 := howF_howB 1 (by decide)
      rw [← e1] at h2
      have : k = 1 := by omega
      rw [this]; exact e1
    by_cases e2 : wd = howB 2
    · have h2 := howF_howB 2 (by decide)
      rw [← e2] at h2
      have : k = 2 := by omega
      rw [this]; exact e2
    by_cases e3 : wd = howB 3
    · have h2 := howF_howB 3 (by decide)
      rw [← e3] at h2
      have : k = 3 := by omega
      rw [this]; exact e3
    by_cases e4 : wd = howB 4
    · have h2 := howF_howB 4 (by decide)
      rw [← e4] at h2
      have : k = 4 := by omega
      rw [this]; exact e4
    by_cases e5 : wd = howB 5
    · have h2 := howF_howB 5 (by decide)
      rw [← e5] at h2
      have : k = 5 := by omega
      rw [this]; exact e5
    have : howF wd = -1 := by unfold howF; rw [if_neg e0, if_neg e1, if_neg e2, if_neg e3, if_neg e4, if_neg e5]
    omega
  · rintro rfl; exact howF_howB k hk
theorem how_lt (wd : List UInt8) : howF wd < 6 := by
  unfold howF
  repeat (split; omega)
  omega
theorem hcur_yes (k : Nat) (hk : k < 6) : hcur (howB k) (k + 1) = k := by
  unfold hcur
  rw [howF_howB k hk, if_pos ⟨by omega, by omega⟩]
theorem hcur_no (wd : List UInt8) (k : Nat) (hk : k < 6) (h : wd ≠ howB k) : hcur wd (k + 1) = hcur wd k := by
  unfold hcur
  have : howF wd ≠ (k : Int) := fun e => h ((how_iff wd k hk).1 e)
  by_cases h1 : 0 ≤ howF wd ∧ howF wd < k
  · rw [if_pos h1, if_pos ⟨h1.1, by omega⟩]
  · rw [if_neg h1, if_neg (by omega)]
theorem hcur_end (wd : List UInt8) : hcur wd 6 = howF wd := by
  have h1 := how_lt wd
  unfold hcur
  by_cases h : 0 ≤ howF wd
  · rw [if_pos ⟨h, by omega⟩]
  · rw [if_neg (by omega)]
    have : -1 ≤ howF wd := by
      unfold howF
      repeat (split; omega)
      omega
    omega
set_option maxRecDepth 100000 in
set_option maxHeartbeats 8000000 in
theorem lparse_short (s : ByteArray) (w : World) (hs : s.size < 29) : Calls Tryz.prog 11 #[.string s] w (ParseLPost s.data.toList w) := by
  have HV : Hid (lineF s.data.toList = none) := Lib.hid (by unfold lineF; rw [if_pos (by rw [size_list]; exact hs)])
  unfold ParseLPost
  have l1 : (s.size : Int) < 29 := by omega
  go_enter Tryz.func11, Tryz.ntmps11
  go_wp2
  exact bodyPost_ret (v := lineR none) (results_cell_two rfl _ _ w.heap.size 23 (cellsV zeroL).toArray (0, 0) _ (.int .i64 123) rfl rfl (heap_alloc_new w _) Tryz.underlying23 (by rfl) (by kernel_rfl)) rfl ⟨by rw [HV.out], (Below.refl _ _).alloc (Nat.le_refl _) _⟩
set_option maxRecDepth 100000 in
set_option maxHeartbeats 8000000 in
theorem lparse_bad (s : ByteArray) (w : World) (hs : 29 ≤ s.size) (hr : (readF (s.data.toList.take 29)).2 ≠ 0) (h1 : TabP w) (h2 : TabS w) (hsz : s.size ≤ 100000000) : Calls Tryz.prog 11 #[.string s] w (ParseLPost s.data.toList w) := by
  have HV : Hid (lineF s.data.toList = none) := Lib.hid (by unfold lineF; rw [if_neg (by rw [size_list]; omega), if_pos hr])
  have he : (s.extract 0 29).data.toList = s.data.toList.take 29 := by rw [Lib.extract_data]; simp
  have hw1 : Spares nowhere w (w.alloc (.cells (cellsV zeroL).toArray 23)) := (Spares.refl _ _).alloc _
  have cP := parse_anyD (s.extract 0 29) (w.alloc (.cells (cellsV zeroL).toArray 23)) (h1.spares hw1 (fun h => h)) (h2.spares hw1 (fun h => h)) (by rw [ByteArray.size_extract]; omega)
  unfold ParseDPost at cP
  rw [he] at cP
  obtain ⟨X, hX⟩ : ∃ X, (readF (s.data.toList.take 29)).1 = X := ⟨_, rfl⟩
  obtain ⟨Y, hY⟩ : ∃ Y, (readF (s.data.toList.take 29)).2 = Y := ⟨_, rfl⟩
  rw [hX, hY] at cP
  rw [hY] at hr
  have q1 : (Y != 0) = true := by simpa using hr
  have l1 : ¬ (s.size : Int) < 29 := by omega
  have l2 : (29 : Int) ≤ (s.size : Int) := by omega
  clear hX hY hr h1 h2 hw1 he
  unfold ParseLPost
  go_enter Tryz.func11, Tryz.ntmps11
  go_wp2_with fail
  refine cP.mono ?_
  rintro e w2 ⟨rfl, hb⟩
  have hb2 : Below w.heap.size w w2 := ((Below.refl _ _).alloc (Nat.le_refl _) _).trans (hb.mono (by simp))
  have hr2 : w2.heap[w.heap.size]? = some (.cells (cellsV zeroL).toArray 23 (0, 0)) := (hb.block w.heap.size (by simp)).trans (heap_alloc_new w _)
  clear hb cP
  go_wp2
  go_quiet (fail)
  obtain ⟨wo, hwo⟩ : ∃ wo, w2.drewN nq = wo := ⟨_, rfl⟩
  have hr3 : wo.heap[w.heap.size]? = some (.cells (cellsV zeroL).toArray 23 (0, 0)) := by rw [← hwo]; exact hr2
  have hs3 : Spares nowhere w wo := by rw [← hwo]; exact (Below.spares (F := nowhere) hb2 (fun _ hk => .inr hk)).drewN nq
  rw [hwo]
  have HT : Hid (wo.there w.heap.size 0 7) := Lib.hid (there_of hr3 _ _ (by decide))
  have HI : Hid ((Tryz.prog.info? 23).map (·.size) = some 7) := Lib.hid (by kernel_rfl)
  have H3 := Lib.hid hr3
  have S3 := Lib.hid hs3
  clear hr3 hs3 hwo hr2 hb2
  go_wp2_with ((with_reducible show wpList _ _ _ (⟨none, .store 23 _ _, _, _, _, _⟩ :: _) _ _); refine wpList_store_mid rfl 23 (.tmp 2) (.tmp 29) rfl w.heap.size 0 (cellsV zeroL).toArray rfl rfl HT.out HI.out (all_oneCell_toArray (cellsV_one _)) ?_)
  exact bodyPost_ret (v := lineR none) (results_cell_two rfl _ _ w.heap.size 23 (cellsV zeroL).toArray (0, 0) _ (.int .i64 123) rfl rfl (heap_setCells (cellsV zeroL) [] (cellsV zeroL) [] wo H3.out rfl) Tryz.underlying23 (by rfl) HI.out) rfl ⟨by rw [HV.out], (S3.out.trans' (F' := fun b => b = w.heap.size) (spares_setCells _ _ _ (Spares.refl _ _)) (fun b hb => .inr (by omega))).below0⟩
end Go.Proofs.YtkbcklaloblmeaaGreatDoor
