/-
  The reference's date of its parts; its rows of names.
-/
import Derived.Test.YtfnpncmdeimcbaaDoorDateRefMade
namespace Go.Proofs.YtfnpncmdeimcbaaDoor
open Go.RowKit DateMath

def PairPost (v : Int × Int) (w : World) (e : Ending) (w' : World) : Prop := e = .returned (.tuple #[.int .i64 v.1, .int .i64 v.2]) ∧ Below w.heap.size w w'
set_option maxRecDepth 100000 in
set_option maxHeartbeats 16000000 in
theorem refMade_any (wd : Int) (y : Nat) (m : Int) (d : Nat) (c : ByteArray) (w : World) (hw0 : -1 ≤ wd) (hw1 : wd ≤ 6) (hy : y ≤ 9999) (hm0 : -1 ≤ m) (hm1 : m ≤ 11) (hd : d ≤ 9999) (hc : c.size = 8) :
    Calls Tryd.prog 27 #[.int .i64 wd, .int .i64 y, .int .i64 m, .int .i64 d, .string c] w (PairPost (madeF wd y m d c.data.toList) w) := by
  have CK := Lib.hid (refClock_any c w hc)
  have HM : Hid (madeF wd y m d c.data.toList = match clockR c.data.toList with
    | none => (0, 80)
    | some (h, mi, s) => if 0 ≤ wd ∧ 0 ≤ m ∧ 1970 ≤ y ∧ y ≤ 9999 ∧ 1 ≤ d ∧ d ≤ lenN y m.toNat ∧ (dayN y m.toNat d + 4) % 7 = wd then (dayN y m.toNat d * 86400 + ((h * 3600 + mi * 60 + s : Nat) : Int), 0) else (0, 80)) := Lib.hid rfl
  obtain ⟨R, hR⟩ : ∃ R, madeF wd y m d c.data.toList = R := ⟨_, rfl⟩
  rw [hR] at HM ⊢
  obtain ⟨o, ho⟩ : ∃ o, clockR c.data.toList = o := ⟨_, rfl⟩
  rw [ho] at HM CK
  unfold ClockPost at CK
  clear hR ho hc
  unfold PairPost
  cases o with
  | none =>
    have HN : Hid (R = (0, 80)) := Lib.hid (by rw [HM.out])
    clear HM
    go_enter Tryd.func27, Tryd.ntmps27
    go_wp2_with fail
    refine CK.out.mono ?_
    rintro e w1 ⟨hw, v, hv, rfl, _⟩
    replace hw := hw.symm
    subst hw
    go_wp2
    go_ret2
    exact ⟨by rw [HN.out]; rfl, Below.refl _ _⟩
  | some q =>
    obtain ⟨h, mi, s⟩ := q
    have HS : Hid (R = if 0 ≤ wd ∧ 0 ≤ m ∧ 1970 ≤ y ∧ y ≤ 9999 ∧ 1 ≤ d ∧ d ≤ lenN y m.toNat ∧ (dayN y m.toNat d + 4) % 7 = wd then (dayN y m.toNat d * 86400 + ((h * 3600 + mi * 60 + s : Nat) : Int), 0) else (0, 80)) := Lib.hid (by rw [HM.out])
    have d4 : decide (9999 < (y : Int)) = false := decide_eq_false (by omega)
    have d4n : decide (9999 < y) = false := decide_eq_false (by omega)
    clear HM
    by_cases q1 : 0 ≤ wd
    rotate_left
    · have HN : Hid (R = (0, 80)) := Lib.hid (by rw [HS.out, if_neg (fun h => by exact q1 h.1)])
      have d1 : decide (wd < 0) = true := decide_eq_true (by omega)
      clear HS
      go_enter Tryd.func27, Tryd.ntmps27
      go_wp2_with fail
      refine CK.out.mono ?_
      rintro e w1 ⟨hw, v, hv, rfl, hvs⟩
      replace hw := hw.symm
      subst hw
      have HVS := Lib.hid (hvs h mi s rfl)
      clear hvs
      go_wp2
      go_ret2
      exact ⟨by rw [HN.out]; rfl, Below.refl _ _⟩
    by_cases q2 : 0 ≤ m
    rotate_left
    · have HN : Hid (R = (0, 80)) := Lib.hid (by rw [HS.out, if_neg (fun h => by exact q2 h.2.1)])
      have d1 : decide (wd < 0) = false := decide_eq_false (by omega)
      have d2 : decide (m < 0) = true := decide_eq_true (by omega)
      clear HS
      go_enter Tryd.func27, Tryd.ntmps27
      go_wp2_with fail
      refine CK.out.mono ?_
      rintro e w1 ⟨hw, v, hv, rfl, hvs⟩
      replace hw := hw.symm
      subst hw
      have HVS := Lib.hid (hvs h mi s rfl)
      clear hvs
      go_wp2
      go_ret2
      exact ⟨by rw [HN.out]; rfl, Below.refl _ _⟩
    by_cases q3 : 1970 ≤ y
    rotate_left
    · have HN : Hid (R = (0, 80)) := Lib.hid (by rw [HS.out, if_neg (fun h => by exact q3 h.2.2.1)])
      have d1 : decide (wd < 0) = false := decide_eq_false (by omega)
      have d2 : decide (m < 0) = false := decide_eq_false (by omega)
      have d3 : decide ((y : Int) < 1970) = true := decide_eq_true (by omega)
      have d3n : decide (y < 1970) = true := decide_eq_true (by omega)
      clear HS
      go_enter Tryd.func27, Tryd.ntmps27
      go_wp2_with fail
      refine CK.out.mono ?_
      rintro e w1 ⟨hw, v, hv, rfl, hvs⟩
      replace hw := hw.symm
      subst hw
      have HVS := Lib.hid (hvs h mi s rfl)
      clear hvs
      go_wp2
      go_ret2
      exact ⟨by rw [HN.out]; rfl, Below.refl _ _⟩
    by_cases q5 : 1 ≤ d
    rotate_left
    · have HN : Hid (R = (0, 80)) := Lib.hid (by rw [HS.out, if_neg (fun h => by exact q5 h.2.2.2.2.1)])
      have d1 : decide (wd < 0) = false := decide_eq_false (by omega)
      have d2 : decide (m < 0) = false := decide_eq_false (by omega)
      have d3 : decide ((y : Int) < 1970) = false := decide_eq_false (by omega)
      have d3n : decide (y < 1970) = false := decide_eq_false (by omega)
      have d5 : decide ((d : Int) < 1) = true := decide_eq_true (by omega)
      have d5n : decide (d < 1) = true := decide_eq_true (by omega)
      clear HS
      go_enter Tryd.func27, Tryd.ntmps27
      go_wp2_with fail
      refine CK.out.mono ?_
      rintro e w1 ⟨hw, v, hv, rfl, hvs⟩
      replace hw := hw.symm
      subst hw
      have HVS := Lib.hid (hvs h mi s rfl)
      clear hvs
      go_wp2
      go_ret2
      exact ⟨by rw [HN.out]; rfl, Below.refl _ _⟩
    obtain ⟨k, rfl⟩ : ∃ k : Nat, m = k := ⟨m.toNat, by omega⟩
    have hkn : ((k : Int)).toNat = k := by omega
    rw [hkn] at HS
    have d1 : decide (wd < 0) = false := decide_eq_false (by omega)
    have d2 : decide ((k : Int) < 0) = false := decide_eq_false (by omega)
    have d3 : decide ((y : Int) < 1970) = false := decide_eq_false (by omega)
    have d3n : decide (y < 1970) = false := decide_eq_false (by omega)
    have d5 : decide ((d : Int) < 1) = false := decide_eq_false (by omega)
    have d5n : decide (d < 1) = false := decide_eq_false (by omega)
    have CL := Lib.hid (length_any y k w (by omega) (by omega))
    have hlb : lenN y k ≤ 31 := by unfold lenN; split <;> first | omega | (have := leap_cases y; omega)
    have CDY := Lib.hid (fun x => day_any y k d x (by omega) (by omega) (by omega) (by omega))
    have hdb : -1000000 ≤ dayN y k d ∧ dayN y k d ≤ 50000000 := by
      have h1 := ahead_bd y (by omega)
      have h2 := cum_bd y k (by omega)
      unfold dayN
      omega
    have hdp : 0 ≤ dayN y k d := by
      have h1 := ahead_min y q3
      have h2 := cum_bd y k (by omega)
      unfold dayN
      omega
    have hcs : ((k + 1 : Nat) : Int) = (k : Int) + 1 := by omega
    rw [hcs] at CL
    have cdy := CDY.out
    rw [hcs] at cdy
    replace CDY := Lib.hid cdy
    obtain ⟨ln, hln⟩ : ∃ ln, lenN y k = ln := ⟨_, rfl⟩
    obtain ⟨N, hN⟩ : ∃ N, dayN y k d = N := ⟨_, rfl⟩
    rw [hln] at CL hlb HS
    rw [hN] at CDY hdb HS hdp
    clear hln hN hcs cdy hkn
    by_cases q6 : d ≤ ln
    rotate_left
    · have HN : Hid (R = (0, 80)) := Lib.hid (by rw [HS.out, if_neg (fun h => q6 h.2.2.2.2.2.1)])
      have d6 : decide ((ln : Int) < (d : Int)) = true := decide_eq_true (by omega)
      have d6n : decide (ln < d) = true := decide_eq_true (by omega)
      clear HS
      go_enter Tryd.func27, Tryd.ntmps27
      go_wp2_with fail
      refine CK.out.mono ?_
      rintro e w1 ⟨hw, v, hv, rfl, hvs⟩
      replace hw := hw.symm
      subst hw
      have HVS := Lib.hid (hvs h mi s rfl)
      clear hvs
      go_wp2_with fail
      refine CL.out.mono ?_
      rintro e w2 ⟨rfl, hb2⟩
      have HB2 := Lib.hid hb2
      clear hb2
      go_wp2
      go_ret2
      exact ⟨by rw [HN.out]; rfl, HB2.out⟩
    have d6 : decide ((ln : Int) < (d : Int)) = false := decide_eq_false (by omega)
    have d6n : decide (ln < d) = false := decide_eq_false (by omega)
    by_cases q7 : (N + 4) % 7 = wd
    rotate_left
    · have HN : Hid (R = (0, 80)) := Lib.hid (by rw [HS.out, if_neg (fun h => q7 h.2.2.2.2.2.2)])
      have e7 : ((N + 4) % 7 != wd) = true := by simpa using q7
      clear HS q7
      go_enter Tryd.func27, Tryd.ntmps27
      go_wp2_with fail
      refine CK.out.mono ?_
      rintro e w1 ⟨hw, v, hv, rfl, hvs⟩
      replace hw := hw.symm
      subst hw
      have HVS := Lib.hid (hvs h mi s rfl)
      clear hvs
      go_wp2_with fail
      refine CL.out.mono ?_
      rintro e w2 ⟨rfl, hb2⟩
      have HB2 := Lib.hid hb2
      clear hb2
      go_wp2_with fail
      refine (CDY.out w2).mono ?_
      rintro e w3 ⟨rfl, hb3⟩
      have HB3 := Lib.hid (HB2.out.trans (hb3.mono HB2.out.size))
      clear hb3
      go_wp2
      go_ret2
      exact ⟨by rw [HN.out]; rfl, HB3.out⟩
    · have HN : Hid (R = (N * 86400 + ((h * 3600 + mi * 60 + s : Nat) : Int), 0)) := Lib.hid (by rw [HS.out, if_pos ⟨q1, q2, q3, hy, q5, q6, q7⟩])
      have e7 : ((N + 4) % 7 != wd) = false := by simpa using q7
      clear HS q7
      go_enter Tryd.func27, Tryd.ntmps27
      go_wp2_with fail
      refine CK.out.mono ?_
      rintro e w1 ⟨hw, v, hv, rfl, hvs⟩
      replace hw := hw.symm
      subst hw
      have HVS := Lib.hid (hvs h mi s rfl)
      clear hvs
      go_wp2_with fail
      refine CL.out.mono ?_
      rintro e w2 ⟨rfl, hb2⟩
      have HB2 := Lib.hid hb2
      clear hb2
      go_wp2_with fail
      refine (CDY.out w2).mono ?_
      rintro e w3 ⟨rfl, hb3⟩
      have HB3 := Lib.hid (HB2.out.trans (hb3.mono HB2.out.size))
      clear hb3
      go_wp2
      go_ret2
      exact ⟨by rw [HN.out, ← HVS.out]; rfl, HB3.out⟩
set_option maxRecDepth 100000 in
set_option maxHeartbeats 4000000 in
theorem refDays_any (w : World) : Calls Tryd.prog 23 #[] w fun e w' => e = .returned (.slice (some ⟨w.heap.size, 0, none⟩) 7 7) ∧ w' = w.alloc (.cells (day3L.map fun l => Value.string (arrD l)).toArray 9) := by
  go_enter Tryd.func23, Tryd.ntmps23
  go_wp2
  go_ret
  exact ⟨rfl, rfl⟩
set_option maxRecDepth 100000 in
set_option maxHeartbeats 4000000 in
theorem refLongs_any (w : World) : Calls Tryd.prog 29 #[] w fun e w' => e = .returned (.slice (some ⟨w.heap.size, 0, none⟩) 7 7) ∧ w' = w.alloc (.cells (dayL.map fun l => Value.string (arrD l)).toArray 9) := by
  go_enter Tryd.func29, Tryd.ntmps29
  go_wp2
  go_ret
  exact ⟨rfl, rfl⟩
set_option maxRecDepth 100000 in
set_option maxHeartbeats 4000000 in
theorem refMonths_any (w : World) : Calls Tryd.prog 25 #[] w fun e w' => e = .returned (.slice (some ⟨w.heap.size, 0, none⟩) 12 12) ∧ w' = w.alloc (.cells (monL.map fun l => Value.string (arrD l)).toArray 9) := by
  go_enter Tryd.func25, Tryd.ntmps25
  go_wp2
  go_ret
  exact ⟨rfl, rfl⟩
theorem row_cells {w : World} {g : Nat} {L : List Bs} (h : w.heap[g]? = some (.cells (L.map fun l => Value.string (arrD l)).toArray 9 (0, 0))) : ∀ k (hk : k < L.length), w.cell? ⟨g, k, none⟩ = some (.string (arrD L[k])) := by
  intro k hk
  rw [Lib.cell_of_heap h]
  simp [hk]
end Go.Proofs.YtfnpncmdeimcbaaDoor
