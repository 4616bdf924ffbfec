/-
  A host in one form, in the program and in the reference.
-/
import Derived.Test.YtokgpmelhmaokaaDoorNormLow
namespace Go.Proofs.YtokgpmelhmaokaaDoor
open Go.RowKit HeadMath NormMath

def portB : List UInt8 := [58, 56, 48]
def hostF (s : List UInt8) : List UInt8 := Lib.trimSuffix (lowF s) portB
def HostPost (s : ByteArray) (w : World) (e : Ending) (w' : World) : Prop := e = .returned (.string ⟨(hostF s.data.toList).toArray⟩) ∧ Below w.heap.size w w'
theorem lowF_size (s : ByteArray) : (⟨(lowF s.data.toList).toArray⟩ : ByteArray).size = s.size := by
  show (lowF s.data.toList).toArray.size = s.size
  simp [lowF]
set_option maxHeartbeats 2000000 in
theorem host_any (s : ByteArray) (w : World) (hs : s.size ≤ 140737488351232) : Calls Tryd.prog 16 #[.string s] w (HostPost s w) := by
  have HV : Hid (∀ t : ByteArray, t = ⟨(lowF s.data.toList).toArray⟩ → (⟨(Lib.trimSuffix t.data.toList [58, 56, 48]).toArray⟩ : ByteArray) = ⟨(hostF s.data.toList).toArray⟩) := Lib.hid (fun t h => by subst h; rfl)
  have HZ := Lib.hid (lowF_size s)
  obtain ⟨t, ht⟩ : ∃ t : ByteArray, (⟨(lowF s.data.toList).toArray⟩ : ByteArray) = t := ⟨_, rfl⟩
  have HT := Lib.hid ht
  have cL := lower_any s
  simp only [ht] at cL
  have htz : t.size = s.size := by rw [← ht]; exact lowF_size s
  clear ht
  go_enter Tryd.func16, Tryd.ntmps16
  go_wp2_with fail
  refine (cL _ hs).mono ?_
  rintro e w1 ⟨rfl, hb⟩
  go_wp2_with fail
  refine (Tryd.strings_TrimSuffix t _ w1 (by omega)).mono ?_
  rintro e w2 ⟨rfl, rfl⟩
  go_wp2
  go_ret
  have e := HV.out t HT.out.symm
  refine ⟨?_, hb⟩
  show Ending.returned (Value.string _) = _
  rw [e]

theorem suffix_short {l : List UInt8} (h : l.length < 3) : Lib.trimSuffix l portB = l := by
  unfold Lib.trimSuffix Lib.hasSuffix
  rw [if_neg]
  intro h2
  have := (List.isSuffixOf_iff_suffix.1 h2).length_le
  simp [portB] at this
  omega
theorem extract_tail (t : ByteArray) (k : Nat) (_h : k ≤ t.size) : (t.extract k t.size).data.toList = t.data.toList.drop k := by
  apply List.ext_getElem
  · rw [size_list, extract_size _ _ _ _h (Nat.le_refl _), List.length_drop, size_list]
  · intro j h1 h2
    have hj : k + j < t.size := by rw [List.length_drop, size_list] at h2; omega
    have hs : j < (t.extract k t.size).size := by rw [extract_size _ _ _ _h (Nat.le_refl _)]; omega
    rw [list_at _ j hs, extract_at t k t.size j hj (Nat.le_refl _), List.getElem_drop]
    rfl
theorem extract_head (t : ByteArray) (k : Nat) (_h : k ≤ t.size) : (t.extract 0 k).data.toList = t.data.toList.take k := by
  apply List.ext_getElem
  · rw [size_list, extract_size _ _ _ (Nat.zero_le _) _h, List.length_take, size_list]; omega
  · intro j h1 h2
    have hj : j < k := by rw [List.length_take, size_list] at h2; omega
    have hs : j < (t.extract 0 k).size := by rw [extract_size _ _ _ (Nat.zero_le _) _h]; omega
    rw [list_at _ j hs, extract_at t 0 k j (by omega) _h, List.getElem_take]
    simp only [Nat.zero_add]
    rfl
theorem suffix_yes {t : ByteArray} (h3 : 3 ≤ t.size) (h : (t.extract (t.size - 3) t.size).data.toList = portB) : (⟨(Lib.trimSuffix t.data.toList portB).toArray⟩ : ByteArray) = t.extract 0 (t.size - 3) := by
  have e : (t.extract 0 (t.size - 3)).data.toList = Lib.trimSuffix t.data.toList portB := by
    unfold Lib.trimSuffix Lib.hasSuffix
    rw [extract_tail _ _ (by omega)] at h
    rw [if_pos (by rw [List.isSuffixOf_iff_suffix, List.suffix_iff_eq_drop, size_list]; exact h.symm), extract_head _ _ (by omega), size_list]
    rfl
  rw [← e]
theorem suffix_no {t : ByteArray} (h3 : 3 ≤ t.size) (h : (t.extract (t.size - 3) t.size).data.toList ≠ portB) : (⟨(Lib.trimSuffix t.data.toList portB).toArray⟩ : ByteArray) = t := by
  have e : Lib.trimSuffix t.data.toList portB = t.data.toList := by
    unfold Lib.trimSuffix Lib.hasSuffix
    rw [extract_tail _ _ (by omega)] at h
    rw [if_neg (by rw [List.isSuffixOf_iff_suffix, List.suffix_iff_eq_drop, size_list]; exact fun e => h e.symm)]
  rw [e]
set_option maxHeartbeats 2000000 in
theorem refHost_any (s : ByteArray) (w : World) (hs : s.size ≤ 140737488351232) : Calls Tryd.prog 17 #[.string s] w (HostPost s w) := by
  obtain ⟨t, ht⟩ : ∃ t : ByteArray, (⟨(lowF s.data.toList).toArray⟩ : ByteArray) = t := ⟨_, rfl⟩
  have cL := fun w => refLow_any s w hs
  simp only [ht] at cL
  have htz : t.size = s.size := by rw [← ht]; exact lowF_size s
  have htl : lowF s.data.toList = t.data.toList := by rw [← ht]
  have hts : t.size ≤ 140737488351232 := by omega
  clear htz
  by_cases h3 : 3 ≤ t.size
  · by_cases hc : (t.extract (t.size - 3) t.size).data.toList = portB
    · have HV : Hid ((⟨(hostF s.data.toList).toArray⟩ : ByteArray) = t.extract 0 (t.size - 3)) := Lib.hid (by unfold hostF; rw [htl, suffix_yes h3 hc])
      have q : ((t.extract (t.size - 3) t.size).toList == [58, 56, 48]) = true := by rw [Lib.toList_data, hc]; rfl
      clear hc htl ht hs
      go_enter Tryd.func17, Tryd.ntmps17
      go_wp2_with fail
      refine (cL _).mono ?_
      rintro e w1 ⟨rfl, hb⟩
      go_wp2
      go_ret
      refine ⟨?_, hb⟩
      rw [HV.out]
      rfl
    · have HV : Hid ((⟨(hostF s.data.toList).toArray⟩ : ByteArray) = t) := Lib.hid (by unfold hostF; rw [htl, suffix_no h3 hc])
      have q : ((t.extract (t.size - 3) t.size).toList == [58, 56, 48]) = false := by rw [Lib.toList_data]; simpa [portB] using hc
      clear hc htl ht hs
      go_enter Tryd.func17, Tryd.ntmps17
      go_wp2_with fail
      refine (cL _).mono ?_
      rintro e w1 ⟨rfl, hb⟩
      go_wp2
      go_ret
      refine ⟨?_, hb⟩
      rw [HV.out]
      rfl
  · have HV : Hid ((⟨(hostF s.data.toList).toArray⟩ : ByteArray) = t) := Lib.hid (by unfold hostF; rw [htl, suffix_short (by rw [size_list]; omega)])
    clear htl ht hs
    go_enter Tryd.func17, Tryd.ntmps17
    go_wp2_with fail
    refine (cL _).mono ?_
    rintro e w1 ⟨rfl, hb⟩
    go_wp2
    go_ret
    refine ⟨?_, hb⟩
    rw [HV.out]
    rfl
end Go.Proofs.YtokgpmelhmaokaaDoor
