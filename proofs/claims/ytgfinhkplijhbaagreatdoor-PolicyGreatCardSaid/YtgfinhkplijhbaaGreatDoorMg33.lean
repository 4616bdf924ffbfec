/-
  Just so long bodies may be kept: the law's walk.
-/
import Derived.Test.YtgfinhkplijhbaaGreatDoorMg16
import Derived.Test.YtgfinhkplijhbaaGreatDoorMg30
import Derived.Test.YtgfinhkplijhbaaGreatDoorMg32
namespace Go.Proofs.YtgfinhkplijhbaaGreatDoor
open Go.RowKit HeadMath HeadS CtrlS VaryS

set_option maxRecDepth 100000 in
set_option maxHeartbeats 8000000 in
theorem great_law (n : Int) (w : World) (h1 : -9223372036854775808 ≤ n) (h2 : n ≤ 9223372036854775807) : Calls Tryz.prog 5 #[.int .i64 n] w (RulePost true w) := by
  have HKN := Lib.hid (fun x => pknown_any x)
  have HPL := Lib.hid (fun x => place_any n 5 x (by decide) (by decide) ⟨h1, h2⟩)
  clear h1 h2
  unfold RulePost at HKN ⊢
  go_enter Tryz.func5, Tryz.ntmps5
  go_wp2_with fail
  refine (HKN.out _).mono ?_
  rintro e w1 ⟨rfl, hb⟩
  have HB1 := Lib.hid hb
  clear hb HKN
  go_wp2_with fail
  refine (HPL.out _).mono ?_
  rintro e w2 ⟨⟨k, hk, rfl⟩, rfl⟩
  obtain ⟨m, hm⟩ : ∃ m : Nat, 59998 + k = m := ⟨_, rfl⟩
  have hs : (59998 : Int) + (k : Int) = (m : Int) := by omega
  have k4 : (k : Int) ≤ 4 := by omega
  have hm1 : m ≤ 60003 := by omega
  obtain ⟨M, hM⟩ : ∃ M, decide (m ≤ 60000) = M := ⟨_, rfl⟩
  have d1 : decide ((m : Int) ≤ 60000) = M := by rw [← hM]; exact decide_eq_decide.2 (by omega)
  have HMM := Lib.hid hM
  have CM : Hid (∀ y ha hc, Calls Tryz.prog 14 #[.agg #[.string ⟨#[71, 69, 84]⟩, .string ⟨#[]⟩, .slice none 0 0, .slice none 0 0], .agg #[.int .i64 200, .string ⟨#[]⟩, .slice none 0 0, .slice ha m hc]] y (RulePost M y)) := Lib.hid (fun y ha hc => by
    have h := may_any y getB ⟨#[]⟩ [] none 0 none 0 0 200 ⟨#[]⟩ [] none 0 ha m hc (nil_fields y) (few_lit rfl) (nil_fields y) (few_lit rfl)
    have e : mayF getB [] 200 [] m = M := (may_great m).trans hM
    rw [← e]
    exact h)
  unfold RulePost at CM
  have hmk := make_bytes m (by omega)
  have hMM : (M == M) = true := beq_self_eq_true _
  clear hm hM hk
  go_wp2_with fail
  refine (CM.out _ _ _).mono ?_
  rintro e w3 ⟨rfl, hb3⟩
  have HB3 := Lib.hid (HB1.out.trans (((below_al (Below.refl _ _) _).trans (hb3.mono (by simp))).mono HB1.out.size))
  clear hb3 CM
  go_wp2
  go_ret
  exact ⟨rfl, HB3.out⟩
end Go.Proofs.YtgfinhkplijhbaaGreatDoor
