/-
  NormOnce's walk.
-/
import Derived.Test.YtokgpmelhmaokaaDoorNormOnceDots
import Derived.Test.YtokgpmelhmaokaaDoorNormKnown
import Derived.Test.YtokgpmelhmaokaaDoorHandedBoth
namespace Go.Proofs.YtokgpmelhmaokaaDoor
open Go.RowKit HeadMath NormMath

set_option maxHeartbeats 8000000 in
theorem once_any (s : ByteArray) (w : World) (hz : s.size ≤ 140737488351232) (m : Int) (hm : w.cell? ⟨1, 0, none⟩ = some (.int .i64 m)) : Calls Tryd.prog 4 #[.string s] w fun e w' => e = .returned (.bool true) ∧ Below w.heap.size w w' := by
  have ck := known_any w m hm
  by_cases hb : s.size ≤ 500
  · cases he : esc s.data.toList with
    | none =>
      have HT := Lib.hid (targetV_none he)
      have c3 := fun w h => target_any s w (by omega) m h
      clear he
      go_enter Tryd.func4, Tryd.ntmps4
      go_wp2_with fail
      refine ck.mono ?_
      rintro e w1 ⟨rfl, hb1⟩
      clear ck
      go_wp2_with fail
      refine (c3 _ (max_stays hm hb1)).mono ?_
      rintro e w4 ⟨rfl, hb4⟩
      rw [HT.out]
      replace hb4 := hb1.trans (hb4.mono hb1.size)
      clear hb1
      go_wp2
      go_ret
      exact ⟨rfl, hb4⟩
    | some t =>
      have hsz : (wholeF ⟨t.toArray⟩).size ≤ 502 := by
        have h1 := esc_size he
        have h2 := whole_size (e := ⟨t.toArray⟩)
        omega
      obtain ⟨h1, h2⟩ := target_twice he
      obtain ⟨r, hr⟩ := whole_ahead ⟨t.toArray⟩
      have h3 := targetV_some he
      obtain ⟨T, hT⟩ : ∃ T, wholeF ⟨t.toArray⟩ = T := ⟨_, rfl⟩
      rw [hT] at hsz h1 h2 h3 hr
      have HE := Lib.hid h1
      have HU := Lib.hid h2
      have HT := Lib.hid h3
      have h0 : 0 < T.size := by rw [← size_list, hr]; simp
      have q : ((T[0].toNat : Int) == 47) = true := by
        refine (u8_beq_lit _ 47 (by decide)).trans ?_
        have e1 : T.data.toList[0]'(by rw [size_list]; exact h0) = 47 := by simp [hr]
        rw [list_at T 0 h0] at e1
        simpa using e1
      have c3 := fun w h => target_any s w (by omega) m h
      have c4 := fun w h => target_any T w (by omega) m h
      have c5 := fun w => escapes_any T w (by omega)
      clear he h1 h2 h3 hr hT
      go_enter Tryd.func4, Tryd.ntmps4
      go_wp2_with fail
      refine ck.mono ?_
      rintro e w1 ⟨rfl, hb1⟩
      clear ck
      go_wp2_with fail
      refine (c3 _ (max_stays hm hb1)).mono ?_
      rintro e w2 ⟨rfl, hb2⟩
      rw [HT.out]
      replace hb2 := hb1.trans (hb2.mono hb1.size)
      clear hb1
      go_wp2_with fail
      refine (c4 _ (max_stays hm hb2)).mono ?_
      rintro e w3 ⟨rfl, hb3⟩
      rw [HU.out]
      replace hb3 := hb2.trans (hb3.mono hb2.size)
      clear hb2
      go_wp2_with fail
      refine (c5 _).mono ?_
      rintro e w4 ⟨rfl, hb4⟩
      rw [HE.out]
      replace hb4 := hb3.trans (hb4.mono hb3.size)
      clear hb3
      go_wp2
      go_ret
      exact ⟨rfl, hb4⟩
  · go_enter Tryd.func4, Tryd.ntmps4
    go_wp2_with fail
    refine ck.mono ?_
    rintro e w1 ⟨rfl, hb1⟩
    clear ck
    go_wp2
    go_ret
    exact ⟨rfl, hb1⟩
end Go.Proofs.YtokgpmelhmaokaaDoor
