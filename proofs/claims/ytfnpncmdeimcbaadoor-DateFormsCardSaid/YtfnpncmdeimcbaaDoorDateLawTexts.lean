/-
  DateTexts.
-/
import Derived.Test.YtfnpncmdeimcbaaDoorDateKnown
import Derived.Test.YtfnpncmdeimcbaaDoorDateRefText
namespace Go.Proofs.YtfnpncmdeimcbaaDoor
open Go.RowKit DateMath

theorem refTextD_at {w : World} (t : Int) (x : World) (hx : Below w.heap.size w x) : Calls Tryd.prog 11 #[.int .i64 t] x fun e w' => e = .returned (.string (arrD (plainT (momOf (clampN t))))) ∧ Below w.heap.size w w' :=
  (refText_any t x).mono fun e w' ⟨he, hb⟩ => ⟨he, hx.trans (hb.mono hx.size)⟩
set_option maxRecDepth 100000 in
set_option maxHeartbeats 8000000 in
theorem textsD_any (t : Int) (raw : Bool) (w : World) (h1 : TabP w) (h2 : TabS w) (hlo : -9223372036854775808 ≤ t) (hhi : t ≤ 9223372036854775807) : Calls Tryd.prog 3 #[.int .i64 t, .bool raw] w (YesD w) := by
  have CK := Lib.hid (knownD_any w h1 h2)
  obtain ⟨u, hu⟩ : ∃ u, (if raw then t else t.tmod 253402300799) = u := ⟨_, rfl⟩
  have za : (arrD (plainT (momOf (clampN u)))).size ≤ 140737488351232 := by rw [arrD_size, plain_len (mom_ok _ (clampN_le u))]; decide
  have cta := textD_at h1 h2 u
  have cra := fun x hx => refTextD_at (w := w) u x hx
  have cpa := parseD_at h1 h2 _ za
  rw [read_text] at cpa
  have na := clampN_int u
  obtain ⟨X, hX⟩ : ∃ X, arrD (plainT (momOf (clampN u))) = X := ⟨_, rfl⟩
  obtain ⟨p, hp⟩ : ∃ p, clampN u = p := ⟨_, rfl⟩
  rw [hX] at cta cpa cra
  rw [hp] at cpa na
  have hself : (X.toList == X.toList) = true := beq_self_eq_true _
  have CTA := Lib.hid cta
  have CPA := Lib.hid cpa
  have CRA := Lib.hid cra
  have NA : Hid (min (max u 0) 253402300799 = (p : Int)) := Lib.hid na.symm
  have hpl : p ≤ 253402300799 := by omega
  have hpp : ((p : Int) == (p : Int)) = true := beq_self_eq_true _
  clear cta cpa cra na hX hp za h1 h2
  unfold YesD
  cases raw
  · have hu : t.tmod 253402300799 = u := by simpa using hu
    have HU := Lib.hid hu
    clear hu
    go_enter Tryd.func3, Tryd.ntmps3
    go_wp2_with fail
    refine CK.out.mono ?_
    rintro e w1 ⟨rfl, hb1⟩
    have HB1 := Lib.hid hb1
    clear hb1
    go_wp2_with fail
    rw [HU.out]
    refine (CTA.out w1 HB1.out).mono ?_
    rintro e w2 ⟨rfl, hb2⟩
    have HB2 := Lib.hid hb2
    clear hb2
    go_wp2_with fail
    refine (CPA.out w2 HB2.out).mono ?_
    rintro e w3 ⟨rfl, hb3⟩
    have HB3 := Lib.hid hb3
    clear hb3
    go_wp2_with fail
    refine (CRA.out w3 HB3.out).mono ?_
    rintro e w4 ⟨rfl, hb4⟩
    have HB4 := Lib.hid hb4
    clear hb4
    have na := NA.out
    go_wp2
    go_ret
    exact ⟨rfl, HB4.out⟩
  · have hu : t = u := by simpa using hu
    subst hu
    go_enter Tryd.func3, Tryd.ntmps3
    go_wp2_with fail
    refine CK.out.mono ?_
    rintro e w1 ⟨rfl, hb1⟩
    have HB1 := Lib.hid hb1
    clear hb1
    go_wp2_with fail
    refine (CTA.out w1 HB1.out).mono ?_
    rintro e w2 ⟨rfl, hb2⟩
    have HB2 := Lib.hid hb2
    clear hb2
    go_wp2_with fail
    refine (CPA.out w2 HB2.out).mono ?_
    rintro e w3 ⟨rfl, hb3⟩
    have HB3 := Lib.hid hb3
    clear hb3
    go_wp2_with fail
    refine (CRA.out w3 HB3.out).mono ?_
    rintro e w4 ⟨rfl, hb4⟩
    have HB4 := Lib.hid hb4
    clear hb4
    have na := NA.out
    go_wp2
    go_ret
    exact ⟨rfl, HB4.out⟩
end Go.Proofs.YtfnpncmdeimcbaaDoor
