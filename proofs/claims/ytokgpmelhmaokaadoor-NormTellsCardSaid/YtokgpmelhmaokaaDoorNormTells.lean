/-
  NormTells' walk.
-/
import Derived.Test.YtokgpmelhmaokaaDoorNormKnown
import Derived.Test.YtokgpmelhmaokaaDoorHandedBoth
namespace Go.Proofs.YtokgpmelhmaokaaDoor
open Go.RowKit HeadMath NormMath

theorem escV_form (s : List UInt8) : ∃ a ok, escV s = .tuple #[.string a, .bool ok] := by
  cases h : esc s with
  | none => exact ⟨_, _, escV_none h⟩
  | some t => exact ⟨_, _, escV_some h⟩
theorem targetV_form (s : List UInt8) : ∃ a ok, targetV s = .tuple #[.string a, .bool ok] := by
  cases h : esc s with
  | none => exact ⟨_, _, targetV_none h⟩
  | some t => exact ⟨_, _, targetV_some h⟩
theorem splitV_form (s : ByteArray) : ∃ a b ok, splitV s = .tuple #[.string a, .string b, .bool ok] := by
  unfold splitV
  split
  · exact ⟨_, _, _, rfl⟩
  · exact ⟨_, _, _, rfl⟩
set_option maxHeartbeats 8000000 in
theorem tells_any (s : ByteArray) (w : World) (hz : s.size ≤ 140737488351232) (m : Int) (hm : w.cell? ⟨1, 0, none⟩ = some (.int .i64 m)) : Calls Tryd.prog 3 #[.string s] w fun e w' => e = .returned (.bool true) ∧ Below w.heap.size w w' := by
  have ck := known_any w m hm
  by_cases hb : s.size ≤ 500
  · obtain ⟨a, ok, hE⟩ := escV_form s.data.toList
    obtain ⟨c, good, hT⟩ := targetV_form s.data.toList
    obtain ⟨d, f, g, hS⟩ := splitV_form s
    obtain ⟨D, hD⟩ : ∃ D : ByteArray, (⟨(dotsF s.data.toList).toArray⟩ : ByteArray) = D := ⟨_, rfl⟩
    obtain ⟨H, hH⟩ : ∃ H : ByteArray, (⟨(hostF s.data.toList).toArray⟩ : ByteArray) = H := ⟨_, rfl⟩
    have HE := Lib.hid hE
    have HT := Lib.hid hT
    have HS := Lib.hid hS
    have HD := Lib.hid hD
    have HH := Lib.hid hH
    have c1 := fun w => escapes_any s w (by omega)
    have c2 := fun w => refEscapes_any s w (by omega)
    have c3 := fun w h => target_any s w (by omega) m h
    have c4 := fun w => refTarget_any s w (by omega)
    have c5 := fun w => split_any s w (by omega)
    have c6 := fun w => refSplit_any s w (by omega)
    have c7 := fun w h => dots_any s w (by omega) m h
    have c8 := fun w => refDots_any s w (by omega)
    have c9 := fun w => host_any s w (by omega)
    have c10 := fun w => refHost_any s w (by omega)
    clear hE hT hS hD hH
    go_enter Tryd.func3, Tryd.ntmps3
    go_wp2_with fail
    refine ck.mono ?_
    rintro e w1 ⟨rfl, hb1⟩
    clear ck
    go_wp2_with fail
    refine (c1 _).mono ?_
    rintro e w2 ⟨rfl, hb2⟩
    rw [HE.out]
    replace hb2 := hb1.trans (hb2.mono hb1.size)
    clear hb1
    go_wp2_with fail
    refine (c2 _).mono ?_
    rintro e w3 ⟨rfl, hb3⟩
    rw [HE.out]
    replace hb3 := hb2.trans (hb3.mono hb2.size)
    clear hb2
    go_wp2_with fail
    refine (c3 _ (max_stays hm hb3)).mono ?_
    rintro e w4 ⟨rfl, hb4⟩
    rw [HT.out]
    replace hb4 := hb3.trans (hb4.mono hb3.size)
    clear hb3
    go_wp2_with fail
    refine (c4 _).mono ?_
    rintro e w5 ⟨rfl, hb5⟩
    rw [HT.out]
    replace hb5 := hb4.trans (hb5.mono hb4.size)
    clear hb4
    go_wp2_with fail
    refine (c5 _).mono ?_
    rintro e w6 ⟨n6, rfl, hw6⟩
    have hb6 := hb5.trans ((hw6 ▸ drew_below w5 n6 : Below w5.heap.size w5 w6).mono hb5.size)
    rw [HS.out]
    clear hb5 hw6
    go_wp2_with fail
    refine (c6 _).mono ?_
    rintro e w7 ⟨n7, rfl, hw7⟩
    have hb7 := hb6.trans ((hw7 ▸ drew_below w6 n7 : Below w6.heap.size w6 w7).mono hb6.size)
    rw [HS.out]
    clear hb6 hw7
    go_wp2_with fail
    refine (c7 _ (max_stays hm hb7)).mono ?_
    rintro e w8 ⟨rfl, hb8⟩
    rw [HD.out]
    replace hb8 := hb7.trans (hb8.mono hb7.size)
    clear hb7
    go_wp2_with fail
    refine (c8 _).mono ?_
    rintro e w9 ⟨rfl, hb9⟩
    rw [HD.out]
    replace hb9 := hb8.trans (hb9.mono hb8.size)
    clear hb8
    go_wp2_with fail
    refine (c9 _).mono ?_
    rintro e w10 ⟨rfl, hb10⟩
    rw [HH.out]
    replace hb10 := hb9.trans (hb10.mono hb9.size)
    clear hb9
    go_wp2_with fail
    refine (c10 _).mono ?_
    rintro e w11 ⟨rfl, hb11⟩
    rw [HH.out]
    replace hb11 := hb10.trans (hb11.mono hb10.size)
    clear hb10
    go_wp2
    go_ret
    exact ⟨rfl, hb11⟩
  · go_enter Tryd.func3, Tryd.ntmps3
    go_wp2_with fail
    refine ck.mono ?_
    rintro e w1 ⟨rfl, hb1⟩
    clear ck
    go_wp2
    go_ret
    exact ⟨rfl, hb1⟩
end Go.Proofs.YtokgpmelhmaokaaDoor
