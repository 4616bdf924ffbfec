/-
  ConfMany's walk.
-/
import Derived.Test.YtjdiaighfhljgaaDoorConfManyMath
namespace Go.Proofs.YtjdiaighfhljgaaDoor
open Go.RowKit GlobMath DateMath

def DigPost (n : Nat) (w : World) (e : Ending) (w' : World) : Prop := e = .returned (.string (digB n)) ∧ w' = w
theorem digB_one {n : Nat} (h : n < 10) : digB n = dig1 n := by unfold digB; rw [if_pos h]
theorem dig_one (n : Nat) (h : n < 10) (w : World) : Calls Tryd.prog 6 #[.int .i64 n] w (DigPost n w) := by
  have HD := Lib.hid (digB_one h)
  unfold DigPost
  go_enter Tryd.func6, Tryd.ntmps6
  go_wp2
  go_ret
  exact ⟨by rw [HD.out]; rfl, rfl⟩
theorem dig_join (n : Nat) (a b : ByteArray) (h10 : ¬ n < 10) (hz1 : a.size ≤ 100) (hz2 : b.size ≤ 100) (hab : a ++ b = digB n)
    (c1 : ∀ w, Calls Tryd.prog 6 #[.int .i64 ((n / 10 : Nat) : Int)] w fun e w' => e = .returned (.string a) ∧ w' = w)
    (c2 : ∀ w, Calls Tryd.prog 6 #[.int .i64 ((n % 10 : Nat) : Int)] w fun e w' => e = .returned (.string b) ∧ w' = w) (hn : n < 1000) (w : World) :
    Calls Tryd.prog 6 #[.int .i64 n] w (DigPost n w) := by
  have HD := Lib.hid hab
  clear hab
  unfold DigPost
  have e1 : (n : Int).tdiv 10 = ((n / 10 : Nat) : Int) := by rw [Int.tdiv_eq_ediv_of_nonneg (by omega)]; omega
  have e2 : (n : Int).tmod 10 = ((n % 10 : Nat) : Int) := by rw [Int.tmod_eq_emod_of_nonneg (by omega)]; omega
  go_enter Tryd.func6, Tryd.ntmps6
  go_wp2_with fail
  refine (c1 w).mono ?_
  rintro e w1 ⟨rfl, hw⟩
  replace hw := hw.symm
  subst hw
  go_wp2_with fail
  refine (c2 _).mono ?_
  rintro e w2 ⟨rfl, hw⟩
  replace hw := hw.symm
  subst hw
  go_wp2
  go_ret
  exact ⟨by rw [← HD.out]; rfl, rfl⟩
theorem digits_any (n : Nat) (h : n < 1000) (w : World) : Calls Tryd.prog 6 #[.int .i64 n] w (DigPost n w) := by
  have two : ∀ n : Nat, n < 100 → ∀ w, Calls Tryd.prog 6 #[.int .i64 n] w (DigPost n w) := by
    intro n h w
    by_cases h1 : n < 10
    · exact dig_one n h1 w
    · exact dig_join n (digB (n / 10)) (digB (n % 10)) h1 (by have := dig_size (n / 10) (by omega); omega) (by have := dig_size (n % 10) (by omega); omega)
        (by rw [digB_one (show n / 10 < 10 by omega), digB_one (show n % 10 < 10 by omega)]; unfold digB; rw [if_neg h1, if_pos h])
        (fun w => dig_one _ (by omega) w) (fun w => dig_one _ (by omega) w) (by omega) w
  by_cases h1 : n < 100
  · exact two n h1 w
  · exact dig_join n (digB (n / 10)) (digB (n % 10)) (by omega) (by have := dig_size (n / 10) (by omega); omega) (by have := dig_size (n % 10) (by omega); omega)
      (by rw [digB_one (show n % 10 < 10 by omega), show digB (n / 10) = dig1 (n / 10 / 10) ++ dig1 (n / 10 % 10) from by unfold digB; rw [if_neg (by omega), if_pos (by omega)]]; unfold digB; rw [if_neg (by omega), if_neg h1])
      (fun w => two _ (by omega) w) (fun w => dig_one _ (by omega) w) h w
set_option maxHeartbeats 8000000 in
theorem many_any (n l : Nat) (c : Bool) (m : Int) (w : World) (hn : n < 65536) (hl : l < 65536) (hm : w.cell? ⟨0, 0, none⟩ = some (.int .i64 m)) : Calls Tryd.prog 3 #[.int .u16 n, .int .u16 l, .bool c] w (Knows w) := by
  have h0 : 0 < w.heap.size := by
    rcases Nat.lt_or_ge 0 w.heap.size with h | h
    · exact h
    · simp [World.cell?, Array.getElem?_eq_none h] at hm
  have CK := known_any m w hm
  obtain ⟨K, hK⟩ : ∃ K, n % 60 = K := ⟨_, rfl⟩
  obtain ⟨g, hg⟩ : ∃ g, l % 300 = g := ⟨_, rfl⟩
  have hK60 : K < 60 := by omega
  have hg300 : g < 300 := by omega
  have e1 : (n : Int).tmod 60 = (K : Int) := by rw [Int.tmod_eq_emod_of_nonneg (by omega)]; omega
  have e2 : (l : Int).tmod 300 = (g : Int) := by rw [Int.tmod_eq_emod_of_nonneg (by omega)]; omega
  have e3 : (n : Int) % 60 = (K : Int) := by omega
  have e4 : (l : Int) % 300 = (g : Int) := by omega
  have cD := digits_any g (by omega)
  have hdz := dig_size g (by omega)
  have HT0 : Hid ((⟨#[108, 111, 103, 32]⟩ ++ digB g) ++ ⟨#[10]⟩ = textM g c 0) := Lib.hid rfl
  obtain ⟨dg, hdg⟩ : ∃ dg, digB g = dg := ⟨_, rfl⟩
  unfold DigPost at cD
  simp only [hdg] at cD
  rw [hdg] at hdz HT0
  unfold Knows at CK ⊢
  clear hK hg hdg
  go_enter Tryd.func3, Tryd.ntmps3
  go_wp2_with fail
  refine CK.mono ?_
  rintro e w1 ⟨rfl, hb1⟩
  have hm1 : w1.cell? ⟨0, 0, none⟩ = some (.int .i64 m) := (hb1.cell (p := ⟨0, 0, none⟩) h0).trans hm
  have HM1 := Lib.hid hm1
  have HB1 := Lib.hid hb1
  clear hm1 hb1 CK hm
  go_wp2_with fail
  refine (cD w1).mono ?_
  rintro e w2 ⟨rfl, hw⟩
  replace hw := hw.symm
  subst hw
  clear cD
  go_wp2
  go_loopw [8, 9] (fun s i wr => ∃ k : Nat, k ≤ K ∧ s = .string (textM g c k) ∧ i = .int .i64 k ∧ Hid (wr = w1)) (fun _ i _ => K - (intOf i).toNat)
  case atStart => exact ⟨0, Nat.zero_le _, by rw [← HT0.out], rfl, Lib.hid rfl⟩
  case round =>
    obtain ⟨k, hk, rfl, rfl, HW⟩ := hrel
    have hTz := textM_size g hg300 c k (by omega)
    by_cases hlt : k < K
    · have hltI : (k : Int) < (K : Int) := by omega
      have cE := digits_any k (by omega)
      have hez := dig_size k (by omega)
      have HTN : Hid (textM g c (k + 1) = (if c then (((textM g c k ++ ⟨#[97, 108, 108, 111, 119, 32, 42, 32, 104]⟩) ++ digB k) ++ ⟨#[32, 47, 42]⟩) ++ ⟨#[13]⟩ else ((textM g c k ++ ⟨#[97, 108, 108, 111, 119, 32, 42, 32, 104]⟩) ++ digB k) ++ ⟨#[32, 47, 42]⟩) ++ ⟨#[10]⟩) := Lib.hid rfl
      obtain ⟨T, hT⟩ : ∃ T, textM g c k = T := ⟨_, rfl⟩
      obtain ⟨dk, hdk⟩ : ∃ dk, digB k = dk := ⟨_, rfl⟩
      unfold DigPost at cE
      simp only [hdk] at cE
      rw [hT] at hTz HTN ⊢
      rw [hdk] at hez HTN
      clear hT hdk
      go_wp2_with fail
      refine (cE _).mono ?_
      rintro e w2 ⟨rfl, hw⟩
      replace hw := hw.symm
      subst hw
      clear cE
      cases c with
      | true =>
        go_wp2
        go_roundw
        case rel => exact ⟨k + 1, by omega, by rw [HTN.out]; rfl, by go_num, HW⟩
        case measure => simp [intOf]; omega
      | false =>
        go_wp2
        go_roundw
        case rel => exact ⟨k + 1, by omega, by rw [HTN.out]; rfl, by go_num, HW⟩
        case measure => simp [intOf]; omega
    · obtain rfl : k = K := by omega
      obtain rfl := HW.out
      have cP := many_parse g hg300 c k (by omega) m wr HM1.out
      have hkk : ¬ ((k : Int) < (k : Int)) := by omega
      by_cases hg2 : g ≤ 200
      · have d1 : decide ((200 : Int) < (g : Int)) = false := by simp; omega
        have d1n : decide (200 < g) = false := by simp; omega
        by_cases hk2 : k ≤ 50
        · have d2 : decide ((50 : Int) < (k : Int)) = false := by simp; omega
          have d2n : decide (50 < k) = false := by simp; omega
          have hR : manyR g k = .inl (⟨k, true, consoleB, g⟩, k + 2) := by unfold manyR; rw [if_pos hg2, if_pos hk2]
          rw [hR] at cP
          clear hR hg2 hk2 hTz
          go_wp2_with fail
          refine cP.mono ?_
          rintro e w3 ⟨⟨ra, rc, rfl⟩, hb3⟩
          have HB3 := Lib.hid (HB1.out.trans (hb3.mono HB1.out.size))
          have HB4 := Lib.hid (HB3.out.alloc HB3.out.size (.cells #[.slice ra k rc, .bool true, .string consoleB, .int .i64 g] 27))
          clear hb3 cP
          go_wp2
          go_ret
          exact ⟨rfl, HB4.out⟩
        · have d2 : decide ((50 : Int) < (k : Int)) = true := by simp; omega
          have d2n : decide (50 < k) = true := by simp; omega
          have hR : manyR g k = .inr 52 := by unfold manyR; rw [if_pos hg2, if_neg hk2]
          rw [hR] at cP
          unfold ConfPost zeroConf at cP
          clear hR hg2 hk2 hTz
          go_wp2_with fail
          refine cP.mono ?_
          rintro e w3 ⟨rfl, hb3⟩
          have HB3 := Lib.hid (HB1.out.trans (hb3.mono HB1.out.size))
          have HB4 := Lib.hid (HB3.out.alloc HB3.out.size (.cells #[.slice none 0 0, .bool false, .string ⟨#[]⟩, .int .i64 0] 27))
          clear hb3 cP
          go_wp2
          go_ret
          exact ⟨rfl, HB4.out⟩
      · have d1 : decide ((200 : Int) < (g : Int)) = true := by simp; omega
        have d1n : decide (200 < g) = true := by simp; omega
        have hR : manyR g k = .inr 1 := by unfold manyR; rw [if_neg hg2]
        rw [hR] at cP
        unfold ConfPost zeroConf at cP
        clear hR hg2 hTz
        go_wp2_with fail
        refine cP.mono ?_
        rintro e w3 ⟨rfl, hb3⟩
        have HB3 := Lib.hid (HB1.out.trans (hb3.mono HB1.out.size))
        have HB4 := Lib.hid (HB3.out.alloc HB3.out.size (.cells #[.slice none 0 0, .bool false, .string ⟨#[]⟩, .int .i64 0] 27))
        clear hb3 cP
        go_wp2
        go_ret
        exact ⟨rfl, HB4.out⟩
end Go.Proofs.YtjdiaighfhljgaaDoor
