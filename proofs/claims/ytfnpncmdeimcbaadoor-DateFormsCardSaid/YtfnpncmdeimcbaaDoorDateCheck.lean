/-
  A date that was read, held against its own text.
-/
import Derived.Test.YtfnpncmdeimcbaaDoorDateRead
namespace Go.Proofs.YtfnpncmdeimcbaaDoor
open Go.RowKit DateMath

/-- What checked leaves. -/
def CheckPost (v : Int × Int) (p : Nat) (w : World) (e : Ending) (w' : World) : Prop := e = .returned (.tuple #[.int .i64 v.1, .int .i64 v.2]) ∧ Spares (fun b => b = p) w w'
theorem checkF_no {r : Raw} {Y : Nat} {f : Mom → Bs} {l : Bs} (h : ¬ (r.ok = true ∧ 1970 ≤ Y ∧ 0 ≤ secsR r Y ∧ secsR r Y ≤ maxT ∧ f (momOf (secsR r Y).toNat) = l)) : checkF r Y f l = (0, 80) := by
  unfold checkF; rw [if_neg h]
theorem checkF_yes {r : Raw} {Y : Nat} {f : Mom → Bs} {l : Bs} (h : r.ok = true ∧ 1970 ≤ Y ∧ 0 ≤ secsR r Y ∧ secsR r Y ≤ maxT ∧ f (momOf (secsR r Y).toNat) = l) : checkF r Y f l = (secsR r Y, 0) := by
  unfold checkF; rw [if_pos h]
theorem arrD_inj {a b : Bs} (h : arrD a = arrD b) : a = b := by
  have := congrArg (fun x : ByteArray => x.data.toList) h
  simpa [arrD] using this
theorem pair_ret {a b c d : Int} (h : ((a, b) : Int × Int) = (c, d)) : Ending.returned (.tuple #[.int .i64 a, .int .i64 b]) = .returned (.tuple #[.int .i64 c, .int .i64 d]) := by cases h; rfl
set_option maxRecDepth 100000 in
set_option maxHeartbeats 16000000 in
theorem checked_any (F : FuncId) (f : Mom → Bs) (r : Raw) (Y : Nat) (s : ByteArray) (p : Nat) (w : World) (hg : CalAt w p) (ht : Tabs w p) (hy : Y ≤ 9999) (hmo : r.mon ≤ 11) (hd : r.day ≤ 9999) (hh : r.hour ≤ 9999) (hmi : r.min ≤ 9999) (hs : r.sec ≤ 9999)
    (hent : ∀ (args : Array Value) (w : World), (callFunc F args).run Tryd.prog w = .ok (.enter F args) w)
    (hform : ∀ (m : Mom) (x : World), OkM m → CalAt x p → Tabs x p → Calls Tryd.prog F #[.pointer (some ⟨p, 0, none⟩), momV m] x (FormPost (f m) p x)) :
    Calls Tryd.prog 17 #[.agg (momC Y r.mon r.day r.hour r.min r.sec 0), .bool r.ok, .string s, .func (.func F) #[.pointer (some ⟨p, 0, none⟩)] #[]] w (CheckPost (checkF r Y f s.data.toList) p w) := by
  obtain ⟨w0, hw0⟩ : ∃ w0, w.alloc (.cells (momC Y r.mon r.day r.hour r.min r.sec 0) 53) = w0 := ⟨_, rfl⟩
  have hs0 : Spares nowhere w w0 := by rw [← hw0]; exact (Spares.refl _ _).alloc _
  have hb0 : w0.heap[w.heap.size]? = some (.cells (momC Y r.mon r.day r.hour r.min r.sec 0) 53 (0, 0)) := by rw [← hw0]; exact heap_alloc_new w _
  have c0 : w0.cell? ⟨w.heap.size, 0, none⟩ = some (.int .i64 Y) := by rw [Lib.cell_of_heap hb0]; rfl
  have c1 : w0.cell? ⟨w.heap.size, 1, none⟩ = some (.int .i64 r.mon) := by rw [Lib.cell_of_heap hb0]; rfl
  have c2 : w0.cell? ⟨w.heap.size, 2, none⟩ = some (.int .i64 r.day) := by rw [Lib.cell_of_heap hb0]; rfl
  have c3 : w0.cell? ⟨w.heap.size, 3, none⟩ = some (.int .i64 r.hour) := by rw [Lib.cell_of_heap hb0]; rfl
  have c4 : w0.cell? ⟨w.heap.size, 4, none⟩ = some (.int .i64 r.min) := by rw [Lib.cell_of_heap hb0]; rfl
  have c5 : w0.cell? ⟨w.heap.size, 5, none⟩ = some (.int .i64 r.sec) := by rw [Lib.cell_of_heap hb0]; rfl
  have c6 : w0.cell? ⟨w.heap.size, 6, none⟩ = some (.int .i64 0) := by rw [Lib.cell_of_heap hb0]; rfl
  have CS := Lib.hid (seconds_any Y r.mon r.day r.hour r.min r.sec 0 w0 hy hmo hd hh hmi hs)
  have hbd := days_bd Y r.mon r.day hy hmo hd
  obtain ⟨T, hT⟩ : ∃ T, secsR r Y = T := ⟨_, rfl⟩
  have hTe : daysT Y r.mon r.day * 86400 + r.hour * 3600 + r.min * 60 + r.sec = T := by rw [← hT]; rfl
  have hTb : -100000000000 ≤ T ∧ T ≤ 400000000000 := by omega
  rw [hTe] at CS
  have HCAL := Lib.hid (hg.below hs0.below0)
  have HTAB := Lib.hid (ht.below hs0.below0)
  have HNO := Lib.hid (fun h => checkF_no (r := r) (Y := Y) (f := f) (l := s.data.toList) (by rw [hT]; exact h))
  have HYES := Lib.hid (fun h => checkF_yes (r := r) (Y := Y) (f := f) (l := s.data.toList) (by rw [hT]; exact h))
  rw [hT] at HYES
  obtain ⟨ok, hok⟩ : ∃ ok, r.ok = ok := ⟨_, rfl⟩
  obtain ⟨rm, hrm⟩ : ∃ n, r.mon = n := ⟨_, rfl⟩
  obtain ⟨rd, hrd⟩ : ∃ n, r.day = n := ⟨_, rfl⟩
  obtain ⟨rh, hrh⟩ : ∃ n, r.hour = n := ⟨_, rfl⟩
  obtain ⟨ri, hri⟩ : ∃ n, r.min = n := ⟨_, rfl⟩
  obtain ⟨rs, hrs⟩ : ∃ n, r.sec = n := ⟨_, rfl⟩
  rw [hok] at HNO HYES ⊢
  rw [hrm, hrd, hrh, hri, hrs] at hw0 CS ⊢
  rw [hrm] at c1
  rw [hrd] at c2
  rw [hrh] at c3
  rw [hri] at c4
  rw [hrs] at c5
  have HS0 := Lib.hid (hs0.mono (F' := fun b => b = p) (fun _ h => by cases h))
  have HFORM := Lib.hid hform
  have HENT := Lib.hid hent
  obtain ⟨R, hR⟩ : ∃ R, checkF r Y f s.data.toList = R := ⟨_, rfl⟩
  rw [hR] at HNO HYES ⊢
  have cs2 := CS.out
  unfold momC at hw0 cs2
  replace CS := Lib.hid cs2
  have HW0 := Lib.hid hw0
  clear cs2 hR hw0 hs0 hb0 hT hTe hbd hg ht hform hent hmo hd hh hmi hs hok hrm hrd hrh hri hrs
  unfold CheckPost momC
  have hc6 : ok = false ∨ (ok = true ∧ ¬ 1970 ≤ Y) ∨ (ok = true ∧ 1970 ≤ Y ∧ T < 0) ∨ (ok = true ∧ 1970 ≤ Y ∧ 0 ≤ T ∧ ¬ T ≤ 253402300799) ∨ (ok = true ∧ 1970 ≤ Y ∧ 0 ≤ T ∧ T ≤ 253402300799) := by
    cases ok
    · exact .inl rfl
    · by_cases a : 1970 ≤ Y
      · by_cases b : T < 0
        · exact .inr (.inr (.inl ⟨rfl, a, b⟩))
        · by_cases c : T ≤ 253402300799
          · exact .inr (.inr (.inr (.inr ⟨rfl, a, by omega, c⟩)))
          · exact .inr (.inr (.inr (.inl ⟨rfl, a, by omega, c⟩)))
      · exact .inr (.inl ⟨rfl, a⟩)
  have hmx : ((maxT : Nat) : Int) = 253402300799 := rfl
  have HLT : Hid (w.heap.size < w0.heap.size) := Lib.hid (by rw [← HW0.out]; simp)
  rcases hc6 with rfl | ⟨rfl, q1⟩ | ⟨rfl, q1, q2⟩ | ⟨rfl, q1, q2, q3⟩ | ⟨rfl, q1, q2, q3⟩
  · have HE := Lib.hid (HNO.out (fun h => by cases h.1))
    clear hmx HNO HYES
    go_enter Tryd.func17, Tryd.ntmps17
    go_wp2_with fail
    change Calls _ _ _ (w.alloc (.cells #[.int .i64 Y, .int .i64 rm, .int .i64 rd, .int .i64 rh, .int .i64 ri, .int .i64 rs, .int .i64 (0 : Nat)] 53)) _
    rw [HW0.out]
    refine CS.out.mono ?_
    rintro e v ⟨rfl, hs1⟩
    have HS1 := Lib.hid (HS0.out.trans (hs1.mono (fun _ h => by cases h)))
    have y0 : v.cell? ⟨w.heap.size, 0, none⟩ = some (.int .i64 Y) := (hs1.cell (p := ⟨w.heap.size, 0, none⟩) HLT.out (fun h => h)).trans c0
    clear hs1
    go_wp2
    go_ret2
    exact ⟨by rw [HE.out]; rfl, HS1.out⟩
  · have HE := Lib.hid (HNO.out (fun h => by exact q1 h.2.1))
    have d1 : decide ((Y : Int) < 1970) = true := by simpa using (by omega : (Y : Int) < 1970)
    clear hmx HNO HYES
    go_enter Tryd.func17, Tryd.ntmps17
    go_wp2_with fail
    change Calls _ _ _ (w.alloc (.cells #[.int .i64 Y, .int .i64 rm, .int .i64 rd, .int .i64 rh, .int .i64 ri, .int .i64 rs, .int .i64 (0 : Nat)] 53)) _
    rw [HW0.out]
    refine CS.out.mono ?_
    rintro e v ⟨rfl, hs1⟩
    have HS1 := Lib.hid (HS0.out.trans (hs1.mono (fun _ h => by cases h)))
    have y0 : v.cell? ⟨w.heap.size, 0, none⟩ = some (.int .i64 Y) := (hs1.cell (p := ⟨w.heap.size, 0, none⟩) HLT.out (fun h => h)).trans c0
    clear hs1
    go_wp2
    go_ret2
    exact ⟨by rw [HE.out]; rfl, HS1.out⟩
  · have HE := Lib.hid (HNO.out (fun h => by have := h.2.2.1; omega))
    have d1 : decide ((Y : Int) < 1970) = false := by simpa using (by omega : ¬ (Y : Int) < 1970)
    have d2 : decide (T < 0) = true := by simpa using (by omega : T < 0)
    clear hmx HNO HYES
    go_enter Tryd.func17, Tryd.ntmps17
    go_wp2_with fail
    change Calls _ _ _ (w.alloc (.cells #[.int .i64 Y, .int .i64 rm, .int .i64 rd, .int .i64 rh, .int .i64 ri, .int .i64 rs, .int .i64 (0 : Nat)] 53)) _
    rw [HW0.out]
    refine CS.out.mono ?_
    rintro e v ⟨rfl, hs1⟩
    have HS1 := Lib.hid (HS0.out.trans (hs1.mono (fun _ h => by cases h)))
    have y0 : v.cell? ⟨w.heap.size, 0, none⟩ = some (.int .i64 Y) := (hs1.cell (p := ⟨w.heap.size, 0, none⟩) HLT.out (fun h => h)).trans c0
    clear hs1
    go_wp2
    go_ret2
    exact ⟨by rw [HE.out]; rfl, HS1.out⟩
  · have HE := Lib.hid (HNO.out (fun h => by have := h.2.2.2.1; omega))
    have d1 : decide ((Y : Int) < 1970) = false := by simpa using (by omega : ¬ (Y : Int) < 1970)
    have d2 : decide (T < 0) = false := by simpa using (by omega : ¬ T < 0)
    have d3 : decide (253402300799 < T) = true := by simpa using (by omega : 253402300799 < T)
    clear hmx HNO HYES
    go_enter Tryd.func17, Tryd.ntmps17
    go_wp2_with fail
    change Calls _ _ _ (w.alloc (.cells #[.int .i64 Y, .int .i64 rm, .int .i64 rd, .int .i64 rh, .int .i64 ri, .int .i64 rs, .int .i64 (0 : Nat)] 53)) _
    rw [HW0.out]
    refine CS.out.mono ?_
    rintro e v ⟨rfl, hs1⟩
    have HS1 := Lib.hid (HS0.out.trans (hs1.mono (fun _ h => by cases h)))
    have y0 : v.cell? ⟨w.heap.size, 0, none⟩ = some (.int .i64 Y) := (hs1.cell (p := ⟨w.heap.size, 0, none⟩) HLT.out (fun h => h)).trans c0
    clear hs1
    go_wp2
    go_ret2
    exact ⟨by rw [HE.out]; rfl, HS1.out⟩
  · obtain ⟨t, rfl⟩ : ∃ t : Nat, T = t := ⟨T.toNat, by omega⟩
    have htm : t ≤ maxT := by unfold maxT; omega
    have d1 : decide ((Y : Int) < 1970) = false := by simpa using (by omega : ¬ (Y : Int) < 1970)
    have d2 : decide ((t : Int) < 0) = false := decide_eq_false (by omega)
    have d3 : decide (253402300799 < (t : Int)) = false := decide_eq_false (by omega)
    have htn : ((t : Int)).toNat = t := by omega
    have HA := Lib.hid (fun (h : f (momOf t) = s.data.toList) => HYES.out ⟨rfl, q1, q2, by rw [hmx]; exact q3, by rw [htn]; exact h⟩)
    have HB := Lib.hid (fun (h : ¬ f (momOf t) = s.data.toList) => HNO.out (fun h' => h (by have := h'.2.2.2.2; rw [htn] at this; exact this)))
    have CM := Lib.hid (fun x => moment_any t x htm)
    have HOK := Lib.hid (mom_ok t htm)
    have hsl : s.toList = s.data.toList := Lib.toList_data s
    have HSL := Lib.hid hsl
    clear hmx HNO HYES htn q2 q3 hTb hsl
    go_enter Tryd.func17, Tryd.ntmps17
    go_wp2_with fail
    change Calls _ _ _ (w.alloc (.cells #[.int .i64 Y, .int .i64 rm, .int .i64 rd, .int .i64 rh, .int .i64 ri, .int .i64 rs, .int .i64 (0 : Nat)] 53)) _
    rw [HW0.out]
    refine CS.out.mono ?_
    rintro e v ⟨rfl, hs1⟩
    have HS1 := Lib.hid (HS0.out.trans (hs1.mono (fun _ h => by cases h)))
    have y0 : v.cell? ⟨w.heap.size, 0, none⟩ = some (.int .i64 Y) := (hs1.cell (p := ⟨w.heap.size, 0, none⟩) HLT.out (fun h => h)).trans c0
    have HCV := Lib.hid (HCAL.out.below hs1.below0)
    have HTV := Lib.hid (HTAB.out.below hs1.below0)
    clear hs1
    go_wp2_with fail
    refine (CM.out v).mono ?_
    rintro e x ⟨rfl, hs2⟩
    have HCX := Lib.hid (HCV.out.below hs2.below0)
    have HTX := Lib.hid (HTV.out.below hs2.below0)
    have HS2 := Lib.hid (HS1.out.trans (hs2.mono (fun _ h => by cases h)))
    clear hs2 y0
    have hent := HENT.out
    go_wp2_with fail
    refine (HFORM.out (momOf t) x HOK.out HCX.out HTX.out).mono ?_
    rintro e u ⟨rfl, _, hs3⟩
    clear hent
    have HS3 := Lib.hid (HS2.out.trans hs3)
    have hal : (arrD (f (momOf t))).toList = f (momOf t) := by rw [Lib.toList_data]; unfold arrD; simp
    obtain ⟨X, hX⟩ : ∃ X, arrD (f (momOf t)) = X := ⟨_, rfl⟩
    obtain ⟨Z, hZ⟩ : ∃ Z, f (momOf t) = Z := ⟨_, rfl⟩
    rw [hX, hZ] at hal
    rw [hX]
    rw [hZ] at HA HB
    clear hs3 hX hZ
    by_cases heq : Z = s.data.toList
    · have teq : (X.toList == s.toList) = true := by rw [HSL.out, hal, heq]; exact beq_self_eq_true _
      have HE := Lib.hid (HA.out heq)
      clear HA HB hal heq HFORM
      go_wp2
      go_ret2
      exact ⟨by rw [HE.out]; rfl, HS3.out⟩
    · have teq : (X.toList == s.toList) = false := by rw [HSL.out, hal]; simpa using heq
      have HE := Lib.hid (HB.out heq)
      clear HA HB hal heq HFORM
      go_wp2
      go_ret2
      exact ⟨by rw [HE.out]; rfl, HS3.out⟩
end Go.Proofs.YtfnpncmdeimcbaaDoor
