/-
  Small letters of a text, in the program and in the reference.
-/
import Derived.Test.YtokgpmelhmaokaaDoorNormSplit
import Derived.Laws.OwnMore
import Derived.Deep.Draws
import Derived.Laws.Rows
namespace Go.Proofs.YtokgpmelhmaokaaDoor
open Go.RowKit HeadMath NormMath

def MBlk (w : World) (g : Nat) (t : TypeId) (cs : Array Value) (r : Nat × Nat) : Prop := w.heap[g]? = some (.cells cs t r)
section
variable {w w' : World} {g : Nat} {t : TypeId} {cs : Array Value} {r : Nat × Nat}
theorem MBlk.lt (h : MBlk w g t cs r) : g < w.heap.size := by
  rcases Nat.lt_or_ge g w.heap.size with hlt | hge
  · exact hlt
  · unfold MBlk at h; rw [Array.getElem?_eq_none hge] at h; cases h
theorem MBlk.cell (h : MBlk w g t cs r) (i : Nat) : w.cell? ⟨g, i, none⟩ = cs[i]? := cell_of_row w g i cs t r h
theorem MBlk.frozen (h : MBlk w g t cs r) (i : Nat) (hi : i < r.1) : w.frozen? ⟨g, i, none⟩ = false := by
  unfold MBlk at h
  simp [World.frozen?, h]
  omega
theorem MBlk.new (w : World) (t : TypeId) (cs : Array Value) (r : Nat × Nat) : MBlk (w.alloc (.cells cs t r)) w.heap.size t cs r := heap_alloc_new w _
theorem MBlk.set_ (h : MBlk w g t cs r) (i : Nat) (u : Value) : MBlk (w.setCell ⟨g, i, none⟩ u) g t (cs.setIfInBounds i u) r := by
  unfold MBlk at h ⊢
  simp [World.setCell, Array.getElem?_modify, h]
end

/-- The text with small letters up to k. -/
def mixL (l : List UInt8) (k : Nat) : List UInt8 := (l.take k).map small ++ l.drop k
theorem mixL_len (l : List UInt8) (k : Nat) : (mixL l k).length = l.length := by
  simp [mixL]; omega
theorem mixL_zero (l : List UInt8) : mixL l 0 = l := by simp [mixL]
theorem mixL_end (l : List UInt8) : mixL l l.length = lowF l := by simp [mixL, lowF]
theorem mixL_get (l : List UInt8) (k j : Nat) (h : j < l.length) : (mixL l k)[j]? = some (if j < k then small l[j] else l[j]) := by
  unfold mixL
  by_cases hj : j < k
  · rw [List.getElem?_append_left (by simp; omega), if_pos hj]
    simp [hj, h]
  · rw [List.getElem?_append_right (by simp; omega), if_neg hj, List.getElem?_drop]
    rw [List.getElem?_eq_getElem (by simp; omega)]
    congr 2
    simp; omega

def mixRow (l : List UInt8) (k pad : Nat) : Array Value := ((mixL l k).map fun b => Value.int .u8 b.toNat).toArray ++ Array.replicate pad (.int .u8 0)
theorem mixRow_get (l : List UInt8) (k pad j : Nat) (h : j < l.length) : (mixRow l k pad)[j]? = some (.int .u8 ((if j < k then small l[j] else l[j]).toNat : Int)) := by
  unfold mixRow
  rw [Array.getElem?_append_left (by simp [mixL_len, h])]
  simp [mixL_get l k j h]
theorem mixRow_set (l : List UInt8) (k pad : Nat) (h : k < l.length) : (mixRow l k pad).setIfInBounds k (.int .u8 ((small l[k]).toNat : Int)) = mixRow l (k + 1) pad := by
  apply Array.ext_getElem?
  intro i
  rw [Array.getElem?_setIfInBounds]
  have hsz : ∀ k', (mixRow l k' pad).size = l.length + pad := fun k' => by simp [mixRow, mixL_len]
  by_cases hik : k = i
  · subst hik
    rw [if_pos rfl, if_pos (by rw [hsz]; omega), mixRow_get _ _ _ _ h, if_pos (by omega)]
  · rw [if_neg hik]
    by_cases hi : i < l.length
    · rw [mixRow_get _ _ _ _ hi, mixRow_get _ _ _ _ hi]
      by_cases h2 : i < k
      · rw [if_pos h2, if_pos (by omega)]
      · rw [if_neg h2, if_neg (by omega)]
    · unfold mixRow
      rw [Array.getElem?_append_right (by simp [mixL_len]; omega), Array.getElem?_append_right (by simp [mixL_len]; omega)]
      simp [mixL_len]
theorem bytesRow_mix (s : ByteArray) (cap : Nat) : bytesRow s cap = mixRow s.data.toList 0 (cap - s.size) := by
  unfold bytesRow mixRow
  rw [mixL_zero]
  congr 1
  apply Array.ext'
  simp

theorem conv_low {w : World} {g pad cap : Nat} {r : Nat × Nat} (s : ByteArray) (h : MBlk w g 5 (mixRow s.data.toList s.size pad) r) :
    (convert 29 9 (.slice (some ⟨g, 0, none⟩) s.size cap)).run Tryd.prog w = .ok (.string ⟨(lowF s.data.toList).toArray⟩) w := by
  have := run_convert_bytes_back (P := Tryd.prog) w 29 9 5 ⟨g, 0, none⟩ cap (lowF s.data.toList) Tryd.underlying29 Tryd.underlying5 Tryd.underlying9 (fun j hj => by
    have e : (⟨g, 0, none⟩ : Addr).add j = ⟨g, j, none⟩ := by unfold Addr.add; by_cases h0 : j = 0 <;> simp [h0]
    have hj' : j < s.size := by simpa [lowF] using hj
    rw [e, h.cell j, mixRow_get _ _ _ _ (by rw [size_list]; exact hj'), if_pos hj']
    simp [lowF])
  have hl : (lowF s.data.toList).length = s.size := by simp [lowF]
  rwa [hl] at this

set_option maxHeartbeats 2000000 in
theorem refLow_any (s : ByteArray) (w : World) (hs : s.size ≤ 140737488351232) : Calls Tryd.prog 32 #[.string s] w fun e w' => e = .returned (.string ⟨(lowF s.data.toList).toArray⟩) ∧ Below w.heap.size w w' := by
  have hcv := fun w s => run_bytes_of_string (P := Tryd.prog) w 9 29 5 s Tryd.underlying9 Tryd.underlying29 Tryd.underlying5
  have hm0 := fun cap => Lib.hid (bytesRow_mix s cap)
  go_enter Tryd.func32, Tryd.ntmps32
  go_wp2
  generalize grownCap w s.size 0 5 = cap
  have hB0 : MBlk (w.alloc (.cells (bytesRow s cap) 5 ((bytesRow s cap).size, (bytesRow s cap).size + 1))).drew w.heap.size 5 (mixRow s.data.toList 0 (cap - s.size)) (s.size + (cap - s.size), s.size + (cap - s.size) + 1) := by
    have h := MBlk.new w 5 (bytesRow s cap) ((bytesRow s cap).size, (bytesRow s cap).size + 1)
    have hsz : (bytesRow s cap).size = s.size + (cap - s.size) := by simp [bytesRow]
    rw [hsz] at h ⊢
    rw [(hm0 cap).out] at h ⊢
    exact h
  have hbe0 : Below w.heap.size w (w.alloc (.cells (bytesRow s cap) 5 ((bytesRow s cap).size, (bytesRow s cap).size + 1))).drew := ((Below.refl _ w).alloc (Nat.le_refl _) _).drew
  generalize (w.alloc (.cells (bytesRow s cap) 5 ((bytesRow s cap).size, (bytesRow s cap).size + 1))).drew = w0 at hB0 hbe0 ⊢
  generalize cap - s.size = pad at hB0
  go_loopw [4] (fun i wr => ∃ k : Nat, k ≤ s.size ∧ i = .int .i64 k ∧ MBlk wr w.heap.size 5 (mixRow s.data.toList k pad) (s.size + pad, s.size + pad + 1) ∧ Below w.heap.size w wr) (fun i _ => s.size - (intOf i).toNat)
  case atStart => exact ⟨0, Nat.zero_le _, rfl, hB0, hbe0⟩
  case round =>
    obtain ⟨k, hk, rfl, hA, hb⟩ := hrel
    clear hB0 hbe0 hcv
    by_cases hlt : k < s.size
    · have a0 := hA.cell k
      have hk' : k < s.data.toList.length := by rw [size_list]; exact hlt
      rw [mixRow_get _ _ _ _ hk', if_neg (Nat.lt_irrefl k)] at a0
      have f0 := hA.frozen k (by simp; omega)
      have HS := Lib.hid (mixRow_set s.data.toList k pad hk')
      go_wp2_with fail
      refine (low_any _ _).mono ?_
      rintro e w1 ⟨rfl, rfl⟩
      go_wp2
      go_roundw
      case rel =>
        refine ⟨k + 1, by omega, by go_num, ?_, hb.setCell (by simp) _⟩
        rw [← HS.out]
        exact hA.set_ k _
      case measure => simp [intOf]; omega
    · have hks : k = s.size := by omega
      subst hks
      have c0 := conv_low (cap := cap) s hA
      go_wp2
      go_ret
      exact ⟨rfl, hb⟩
set_option maxHeartbeats 2000000 in
theorem lower_any (s : ByteArray) (w : World) (hs : s.size ≤ 140737488351232) : Calls Tryd.prog 31 #[.string s] w fun e w' => e = .returned (.string ⟨(lowF s.data.toList).toArray⟩) ∧ Below w.heap.size w w' := by
  have hcv := fun w s => run_bytes_of_string (P := Tryd.prog) w 9 29 5 s Tryd.underlying9 Tryd.underlying29 Tryd.underlying5
  have hm0 := fun cap => Lib.hid (bytesRow_mix s cap)
  go_enter Tryd.func31, Tryd.ntmps31
  go_wp2
  generalize grownCap w s.size 0 5 = cap
  have hB0 : MBlk (w.alloc (.cells (bytesRow s cap) 5 ((bytesRow s cap).size, (bytesRow s cap).size + 1))).drew w.heap.size 5 (mixRow s.data.toList 0 (cap - s.size)) (s.size + (cap - s.size), s.size + (cap - s.size) + 1) := by
    have h := MBlk.new w 5 (bytesRow s cap) ((bytesRow s cap).size, (bytesRow s cap).size + 1)
    have hsz : (bytesRow s cap).size = s.size + (cap - s.size) := by simp [bytesRow]
    rw [hsz] at h ⊢
    rw [(hm0 cap).out] at h ⊢
    exact h
  have hbe0 : Below w.heap.size w (w.alloc (.cells (bytesRow s cap) 5 ((bytesRow s cap).size, (bytesRow s cap).size + 1))).drew := ((Below.refl _ w).alloc (Nat.le_refl _) _).drew
  generalize (w.alloc (.cells (bytesRow s cap) 5 ((bytesRow s cap).size, (bytesRow s cap).size + 1))).drew = w0 at hB0 hbe0 ⊢
  generalize cap - s.size = pad at hB0
  go_loopw [10] (fun i wr => ∃ k : Nat, k ≤ s.size ∧ i = .int .i64 k ∧ MBlk wr w.heap.size 5 (mixRow s.data.toList k pad) (s.size + pad, s.size + pad + 1) ∧ Below w.heap.size w wr) (fun i _ => s.size - (intOf i).toNat)
  case atStart => exact ⟨0, Nat.zero_le _, rfl, hB0, hbe0⟩
  case round =>
    obtain ⟨k, hk, rfl, hA, hb⟩ := hrel
    clear hB0 hbe0 hcv
    by_cases hlt : k < s.size
    · have a0 := hA.cell k
      have hk' : k < s.data.toList.length := by rw [size_list]; exact hlt
      rw [mixRow_get _ _ _ _ hk', if_neg (Nat.lt_irrefl k)] at a0
      have f0 := hA.frozen k (by simp; omega)
      have HS := Lib.hid (mixRow_set s.data.toList k pad hk')
      go_wp2_with fail
      refine (small_any _ _).mono ?_
      rintro e w1 ⟨rfl, rfl⟩
      go_wp2
      go_roundw
      case rel =>
        refine ⟨k + 1, by omega, by go_num, ?_, hb.setCell (by simp) _⟩
        rw [← HS.out]
        exact hA.set_ k _
      case measure => simp [intOf]; omega
    · have hks : k = s.size := by omega
      subst hks
      have c0 := conv_low (cap := cap) s hA
      go_wp2
      go_ret
      exact ⟨rfl, hb⟩
end Go.Proofs.YtokgpmelhmaokaaDoor
