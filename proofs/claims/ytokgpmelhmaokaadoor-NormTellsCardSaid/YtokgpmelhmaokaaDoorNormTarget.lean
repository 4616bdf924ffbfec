/-
  A target's whole form, in both.
-/
import Derived.Test.YtokgpmelhmaokaaDoorNormTargetMath
import Derived.Test.YtokgpmelhmaokaaDoorNormDotsN
import Derived.Test.YtokgpmelhmaokaaDoorNormDotsD
import Derived.Test.YtokgpmelhmaokaaDoorNormDotsU
import Derived.Test.YtokgpmelhmaokaaDoorNormDotsE
import Derived.Test.YtokgpmelhmaokaaDoorNormRefDotsA
import Derived.Test.YtokgpmelhmaokaaDoorNormRefDotsB
import Derived.Test.YtokgpmelhmaokaaDoorNormRefDotsC
namespace Go.Proofs.YtokgpmelhmaokaaDoor
open Go.RowKit HeadMath NormMath

def DotsPost (s : ByteArray) (w : World) (e : Ending) (w' : World) : Prop := e = .returned (.string ⟨(dotsF s.data.toList).toArray⟩) ∧ Below w.heap.size w w'
theorem dots_any (s : ByteArray) (w : World) (hs : s.size ≤ 1000000) (m : Int) (hm : w.cell? ⟨1, 0, none⟩ = some (.int .i64 m)) : Calls Tryd.prog 14 #[.string s] w (DotsPost s w) := by
  obtain ⟨D, x, hL⟩ : ∃ D x, splitS (stripF s.data.toList) = D ++ [x] := by
    rcases List.eq_nil_or_concat (splitS (stripF s.data.toList)) with h | ⟨D, x, h⟩
    · exact absurd h (splitS_ne _)
    · exact ⟨D, x, by rw [h, List.concat_eq_append]⟩
  have key : ∀ (D' : List Seg) (x' : Seg), splitS (stripF s.data.toList) = D' ++ [x'] → x' = x := by
    intro D' x' h
    rw [hL] at h
    have := congrArg List.getLast? h
    simpa using this.symm
  by_cases h1 : x = []
  · subst h1; exact dots_nil s w hs m hm key
  · by_cases h2 : x = [46]
    · subst h2; exact dots_dot s w hs m hm key
    · by_cases h3 : x = [46, 46]
      · subst h3; exact dots_up s w hs m hm key
      · exact dots_else s w hs m hm (fun D' x' h => by rw [key D' x' h]; exact ⟨h2, h3, h1⟩)
theorem refDots_any (s : ByteArray) (w : World) (hs : s.size ≤ 1000000) : Calls Tryd.prog 15 #[.string s] w (DotsPost s w) := by
  by_cases h0 : 0 < s.size
  · by_cases hc : s[0] = 47
    · exact refDots_slash s w hs h0 hc
    · exact refDots_plain s w hs h0 hc
  · exact refDots_empty s w hs (List.eq_nil_of_length_eq_zero (by rw [size_list]; omega))
theorem max_stays {w w' : World} {v : Value} (hm : w.cell? ⟨1, 0, none⟩ = some v) (hb : Below w.heap.size w w') : w'.cell? ⟨1, 0, none⟩ = some v := by
  have hlt : 1 < w.heap.size := by
    rcases Nat.lt_or_ge 1 w.heap.size with h | h
    · exact h
    · exfalso
      have : w.cell? ⟨1, 0, none⟩ = none := by
        unfold World.cell?
        rw [show w.heap[(⟨1, 0, none⟩ : Addr).block]? = none from Array.getElem?_eq_none h]
      rw [this] at hm
      cases hm
  rw [hb.cell hlt]
  exact hm
def TargetPost (s : ByteArray) (w : World) (e : Ending) (w' : World) : Prop := e = .returned (targetV s.data.toList) ∧ Below w.heap.size w w'
theorem esc_size {s : ByteArray} {t : List UInt8} (h : esc s.data.toList = some t) : (⟨t.toArray⟩ : ByteArray).size ≤ s.size := by
  have h1 := esc_len _ _ _ (Nat.le_refl _) h
  rw [size_list] at h1
  exact h1
theorem dots_size (s : ByteArray) : (⟨(dotsF s.data.toList).toArray⟩ : ByteArray).size ≤ s.size + 2 := by
  have h1 := dotsF_len s.data.toList
  rw [size_list] at h1
  exact h1
theorem drew_below (w : World) (n : Nat) : Below w.heap.size w (w.drewN n) := ((Spares.refl nowhere w).drewN n).below0
theorem escV_some {s t : List UInt8} (h : esc s = some t) : escV s = .tuple #[.string ⟨t.toArray⟩, .bool true] := by unfold escV; rw [h]
theorem escV_none {s : List UInt8} (h : esc s = none) : escV s = .tuple #[.string ⟨#[]⟩, .bool false] := by unfold escV; rw [h]
theorem targetV_some {s t : List UInt8} (h : esc s = some t) : targetV s = .tuple #[.string (wholeF ⟨t.toArray⟩), .bool true] := by unfold targetV; rw [h]
theorem targetV_none {s : List UInt8} (h : esc s = none) : targetV s = .tuple #[.string ⟨#[]⟩, .bool false] := by unfold targetV; rw [h]
-- GEN
set_option maxHeartbeats 4000000 in
theorem target_any (s : ByteArray) (w : World) (hs : s.size ≤ 1000000) (m : Int) (hm : w.cell? ⟨1, 0, none⟩ = some (.int .i64 m)) : Calls Tryd.prog 10 #[.string s] w (TargetPost s w) := by
  cases he : esc s.data.toList with
  | none =>
    have HT := Lib.hid (targetV_none he)
    have HE := Lib.hid (escV_none he)
    clear he
    go_enter Tryd.func10, Tryd.ntmps10
    go_wp2_with fail
    refine (escapes_any s _ (by omega)).mono ?_
    rintro e w1 ⟨rfl, hb⟩
    rw [HE.out]
    go_wp2
    go_ret2
    exact ⟨by rw [HT.out]; rfl, hb⟩
  | some t =>
    obtain ⟨E, hE⟩ : ∃ E : ByteArray, (⟨t.toArray⟩ : ByteArray) = E := ⟨_, rfl⟩
    have HT := Lib.hid (targetV_some he)
    have HE := Lib.hid (escV_some he)
    have hz := esc_size he
    rw [hE] at HT HE hz
    clear he hE
    by_cases ha : askAt E < 0
    · have HW := Lib.hid (wholeF_no ha)
      have HS := Lib.hid (splitV_no ha)
      clear ha
      go_enter Tryd.func10, Tryd.ntmps10
      go_wp2_with fail
      refine (escapes_any s _ (by omega)).mono ?_
      rintro e w1 ⟨rfl, hb1⟩
      rw [HE.out]
      go_wp2_with fail
      refine (split_any E _ (by omega)).mono ?_
      rintro e w2 ⟨n2, rfl, hw2⟩
      have hb2 := hb1.trans ((hw2 ▸ drew_below w1 n2 : Below w1.heap.size w1 w2).mono hb1.size)
      rw [HS.out]
      have cD := fun w h => dots_any E w (by omega) m h
      clear hw2 hb1
      go_wp2_with fail
      refine (cD _ (max_stays hm hb2)).mono ?_
      rintro e w3 ⟨rfl, hb3⟩
      have hb := hb2.trans (hb3.mono hb2.size)
      rw [← HW.out]
      clear hb2 hb3 cD
      go_wp2
      go_ret2
      exact ⟨by rw [HT.out]; rfl, hb⟩
    · obtain ⟨i, hi⟩ : ∃ i : Nat, askAt E = i := ⟨(askAt E).toNat, by omega⟩
      obtain ⟨P, hP⟩ : ∃ P, E.extract 0 i = P := ⟨_, rfl⟩
      obtain ⟨Q, hQ⟩ : ∃ Q, E.extract (i + 1) E.size = Q := ⟨_, rfl⟩
      have HW := Lib.hid (wholeF_at hi)
      have HS := Lib.hid (splitV_at hi)
      have hPz : P.size ≤ 1000000 := by rw [← hP, ByteArray.size_extract]; omega
      have hQz : Q.size ≤ 1000000 := by rw [← hQ, ByteArray.size_extract]; omega
      have hDz := dots_size P
      rw [hP, hQ] at HW HS
      obtain ⟨V, hV⟩ : ∃ V : ByteArray, (⟨(dotsF P.data.toList).toArray⟩ : ByteArray) = V := ⟨_, rfl⟩
      have HV := Lib.hid hV
      rw [hV] at HW hDz
      clear ha hi hP hQ hV
      go_enter Tryd.func10, Tryd.ntmps10
      go_wp2_with fail
      refine (escapes_any s _ (by omega)).mono ?_
      rintro e w1 ⟨rfl, hb1⟩
      rw [HE.out]
      go_wp2_with fail
      refine (split_any E _ (by omega)).mono ?_
      rintro e w2 ⟨n2, rfl, hw2⟩
      have hb2 := hb1.trans ((hw2 ▸ drew_below w1 n2 : Below w1.heap.size w1 w2).mono hb1.size)
      rw [HS.out]
      have cD := fun w h => dots_any P w (by omega) m h
      clear hw2 hb1
      go_wp2_with fail
      refine (cD _ (max_stays hm hb2)).mono ?_
      rintro e w3 ⟨rfl, hb3⟩
      have hb := hb2.trans (hb3.mono hb2.size)
      rw [HV.out]
      clear hb2 hb3 cD
      go_wp2
      go_ret2
      exact ⟨by rw [HT.out, HW.out]; rfl, hb⟩
set_option maxHeartbeats 4000000 in
theorem refTarget_any (s : ByteArray) (w : World) (hs : s.size ≤ 1000000) : Calls Tryd.prog 11 #[.string s] w (TargetPost s w) := by
  cases he : esc s.data.toList with
  | none =>
    have HT := Lib.hid (targetV_none he)
    have HE := Lib.hid (escV_none he)
    clear he
    go_enter Tryd.func11, Tryd.ntmps11
    go_wp2_with fail
    refine (refEscapes_any s _ (by omega)).mono ?_
    rintro e w1 ⟨rfl, hb⟩
    rw [HE.out]
    go_wp2
    go_ret2
    exact ⟨by rw [HT.out]; rfl, hb⟩
  | some t =>
    obtain ⟨E, hE⟩ : ∃ E : ByteArray, (⟨t.toArray⟩ : ByteArray) = E := ⟨_, rfl⟩
    have HT := Lib.hid (targetV_some he)
    have HE := Lib.hid (escV_some he)
    have hz := esc_size he
    rw [hE] at HT HE hz
    clear he hE
    by_cases ha : askAt E < 0
    · have HW := Lib.hid (wholeF_no ha)
      have HS := Lib.hid (splitV_no ha)
      clear ha
      go_enter Tryd.func11, Tryd.ntmps11
      go_wp2_with fail
      refine (refEscapes_any s _ (by omega)).mono ?_
      rintro e w1 ⟨rfl, hb1⟩
      rw [HE.out]
      go_wp2_with fail
      refine (refSplit_any E _ (by omega)).mono ?_
      rintro e w2 ⟨n2, rfl, hw2⟩
      have hb2 := hb1.trans ((hw2 ▸ drew_below w1 n2 : Below w1.heap.size w1 w2).mono hb1.size)
      rw [HS.out]
      have cD := fun w (_ : True) => refDots_any E w (by omega)
      clear hw2 hb1
      go_wp2_with fail
      refine (cD _ trivial).mono ?_
      rintro e w3 ⟨rfl, hb3⟩
      have hb := hb2.trans (hb3.mono hb2.size)
      rw [← HW.out]
      clear hb2 hb3 cD
      go_wp2
      go_ret2
      exact ⟨by rw [HT.out]; rfl, hb⟩
    · obtain ⟨i, hi⟩ : ∃ i : Nat, askAt E = i := ⟨(askAt E).toNat, by omega⟩
      obtain ⟨P, hP⟩ : ∃ P, E.extract 0 i = P := ⟨_, rfl⟩
      obtain ⟨Q, hQ⟩ : ∃ Q, E.extract (i + 1) E.size = Q := ⟨_, rfl⟩
      have HW := Lib.hid (wholeF_at hi)
      have HS := Lib.hid (splitV_at hi)
      have hPz : P.size ≤ 1000000 := by rw [← hP, ByteArray.size_extract]; omega
      have hQz : Q.size ≤ 1000000 := by rw [← hQ, ByteArray.size_extract]; omega
      have hDz := dots_size P
      rw [hP, hQ] at HW HS
      obtain ⟨V, hV⟩ : ∃ V : ByteArray, (⟨(dotsF P.data.toList).toArray⟩ : ByteArray) = V := ⟨_, rfl⟩
      have HV := Lib.hid hV
      rw [hV] at HW hDz
      clear ha hi hP hQ hV
      go_enter Tryd.func11, Tryd.ntmps11
      go_wp2_with fail
      refine (refEscapes_any s _ (by omega)).mono ?_
      rintro e w1 ⟨rfl, hb1⟩
      rw [HE.out]
      go_wp2_with fail
      refine (refSplit_any E _ (by omega)).mono ?_
      rintro e w2 ⟨n2, rfl, hw2⟩
      have hb2 := hb1.trans ((hw2 ▸ drew_below w1 n2 : Below w1.heap.size w1 w2).mono hb1.size)
      rw [HS.out]
      have cD := fun w (_ : True) => refDots_any P w (by omega)
      clear hw2 hb1
      go_wp2_with fail
      refine (cD _ trivial).mono ?_
      rintro e w3 ⟨rfl, hb3⟩
      have hb := hb2.trans (hb3.mono hb2.size)
      rw [HV.out]
      clear hb2 hb3 cD
      go_wp2
      go_ret2
      exact ⟨by rw [HT.out, HW.out]; rfl, hb⟩
end Go.Proofs.YtokgpmelhmaokaaDoor
