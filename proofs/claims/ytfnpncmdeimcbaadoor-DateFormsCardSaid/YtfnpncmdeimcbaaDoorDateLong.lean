/-
  The second form of a time.
-/
import Derived.Test.YtfnpncmdeimcbaaDoorDatePlain
namespace Go.Proofs.YtfnpncmdeimcbaaDoor
open Go.RowKit DateMath

set_option maxRecDepth 100000 in
set_option maxHeartbeats 16000000 in
theorem long_any (m : Mom) (p : Nat) (w : World) (hm : OkM m) (hg : CalNew w p ∨ CalAt w p) (ht : Tabs w p) : Calls Tryd.prog 18 #[.pointer (some ⟨p, 0, none⟩), momV m] w (FormPost (longT m) p w) := by
  have hpw : p < w.heap.size := by
    rcases hg with h | ⟨z, gd, gm, h, _⟩ <;> exact (Array.getElem?_eq_some_iff.1 h).1
  obtain ⟨w0, hw0⟩ : ∃ w0, w.alloc (.cells (momC m.year m.mon m.day m.hour m.min m.sec m.wd) 53) = w0 := ⟨_, rfl⟩
  have hs0 : Spares nowhere w w0 := by rw [← hw0]; exact (Spares.refl _ _).alloc _
  have hb0 : w0.heap[w.heap.size]? = some (.cells (momC m.year m.mon m.day m.hour m.min m.sec m.wd) 53 (0, 0)) := by rw [← hw0]; exact heap_alloc_new w _
  have hg0 : CalNew w0 p ∨ CalAt w0 p := hg.elim (fun h => .inl (CalIs.spares h hs0 (fun h => h))) (fun h => .inr (h.below hs0.below0))
  have ht0 : Tabs w0 p := ht.below hs0.below0
  have CW := Lib.hid (wordsD_any p w0 hg0 ht0)
  have HW := Lib.hid hw0
  have HB := Lib.hid hb0
  have HT := Lib.hid ht0
  have HS := Lib.hid hs0
  have d1 := hm.date.y1; have d2 := hm.date.y2; have d3 := hm.date.m1; have d4 := day_le hm
  have e1 := hm.hour; have e2 := hm.min; have e3 := hm.sec; have e4 := hm.wd
  have HM := Lib.hid hm
  clear hg hg0 ht ht0 hw0 hb0 hs0 hm
  unfold FormPost momV momC
  go_enter Tryd.func18, Tryd.ntmps18
  go_wp2_with fail
  change Calls _ _ _ (w.alloc (.cells (momC m.year m.mon m.day m.hour m.min m.sec m.wd) 53)) _
  rw [HW.out]
  refine CW.out.mono ?_
  rintro e v ⟨rfl, hc, hs⟩
  have hb1 := hs.heap HB.out (by omega)
  have hsv := Lib.hid (HS.out.mono (F' := fun b => b = p) (fun _ h => by cases h) |>.trans hs)
  have htv := HT.out.spares hs
  obtain ⟨gd, gm, n3, n4, nd, nm⟩ := names_get hc
  have HC := Lib.hid hc
  have ND := nd m.wd e4
  have NM := nm m.mon d3
  have m0 : v.cell? ⟨w.heap.size, 0, none⟩ = some (.int .i64 m.year) := by rw [Lib.cell_of_heap hb1]; rfl
  have m1 : v.cell? ⟨w.heap.size, 1, none⟩ = some (.int .i64 m.mon) := by rw [Lib.cell_of_heap hb1]; rfl
  have m2 : v.cell? ⟨w.heap.size, 2, none⟩ = some (.int .i64 m.day) := by rw [Lib.cell_of_heap hb1]; rfl
  have m3 : v.cell? ⟨w.heap.size, 3, none⟩ = some (.int .i64 m.hour) := by rw [Lib.cell_of_heap hb1]; rfl
  have m4 : v.cell? ⟨w.heap.size, 4, none⟩ = some (.int .i64 m.min) := by rw [Lib.cell_of_heap hb1]; rfl
  have m5 : v.cell? ⟨w.heap.size, 5, none⟩ = some (.int .i64 m.sec) := by rw [Lib.cell_of_heap hb1]; rfl
  have m6 : v.cell? ⟨w.heap.size, 6, none⟩ = some (.int .i64 m.wd) := by rw [Lib.cell_of_heap hb1]; rfl
  have k0 : ∀ x : Kin v, x.wd.cell? ⟨w.heap.size, 0, none⟩ = some (.int .i64 m.year) := fun x => x.cell m0
  have k1 : ∀ x : Kin v, x.wd.cell? ⟨w.heap.size, 1, none⟩ = some (.int .i64 m.mon) := fun x => x.cell m1
  have k2 : ∀ x : Kin v, x.wd.cell? ⟨w.heap.size, 2, none⟩ = some (.int .i64 m.day) := fun x => x.cell m2
  have k3 : ∀ x : Kin v, x.wd.cell? ⟨w.heap.size, 3, none⟩ = some (.int .i64 m.hour) := fun x => x.cell m3
  have k4 : ∀ x : Kin v, x.wd.cell? ⟨w.heap.size, 4, none⟩ = some (.int .i64 m.min) := fun x => x.cell m4
  have k5 : ∀ x : Kin v, x.wd.cell? ⟨w.heap.size, 5, none⟩ = some (.int .i64 m.sec) := fun x => x.cell m5
  have k6 : ∀ x : Kin v, x.wd.cell? ⟨w.heap.size, 6, none⟩ = some (.int .i64 m.wd) := fun x => x.cell m6
  have k7 : ∀ x : Kin v, x.wd.cell? ⟨p, 3, none⟩ = some (.slice (some ⟨gd, 0, none⟩) 7 7) := fun x => x.cell n3
  have k8 : ∀ x : Kin v, x.wd.cell? ⟨p, 4, none⟩ = some (.slice (some ⟨gm, 0, none⟩) 12 12) := fun x => x.cell n4
  have k9 : ∀ x : Kin v, x.wd.cell? ⟨gd, m.wd, none⟩ = some (.string (arrD (dayL.getD m.wd []))) := fun x => x.cell ND
  have k10 : ∀ x : Kin v, x.wd.cell? ⟨gm, m.mon, none⟩ = some (.string (arrD (monL.getD m.mon []))) := fun x => x.cell NM
  have M1 : Hid (∀ x : Kin v, Calls Tryd.prog 31 #[.int .i64 m.day, .string ⟨#[48]⟩] x.wd fun e w'' => e = .returned (.string (arrD (two2 m.day))) ∧ ∃ y : Kin v, w'' = y.wd) := Lib.hid (fun x => Kin.calls ((two_zero m.day x.wd (by omega)).mono fun _ _ ⟨a, b⟩ => ⟨a, b ▸ Below.refl _ _⟩))
  obtain ⟨y2, hy2⟩ : ∃ y2 : Nat, m.year % 100 = y2 := ⟨_, rfl⟩
  have y2l : y2 ≤ 99 := by omega
  have yr : IntKind.i64.wrap ((m.year : Int).tmod 100) = (y2 : Int) := by rw [Int.tmod_eq_emod_of_nonneg (by omega), wrap_in (by omega) (by omega)]; omega
  have yq : (m.year : Int).tmod 100 = (y2 : Int) := by rw [Int.tmod_eq_emod_of_nonneg (by omega)]; omega
  have M2 : Hid (∀ x : Kin v, Calls Tryd.prog 31 #[.int .i64 y2, .string ⟨#[48]⟩] x.wd fun e w'' => e = .returned (.string (arrD (two2 y2))) ∧ ∃ y : Kin v, w'' = y.wd) := Lib.hid (fun x => Kin.calls ((two_zero y2 x.wd y2l).mono fun _ _ ⟨a, b⟩ => ⟨a, b ▸ Below.refl _ _⟩))
  have HY2 := Lib.hid hy2
  clear hy2
  have M3 : Hid (∀ x : Kin v, Calls Tryd.prog 33 #[.agg #[.int .i64 m.year, .int .i64 m.mon, .int .i64 m.day, .int .i64 m.hour, .int .i64 m.min, .int .i64 m.sec, .int .i64 m.wd]] x.wd fun e w'' => e = .returned (.string (arrD (clockT m))) ∧ ∃ y : Kin v, w'' = y.wd) := Lib.hid (fun x => Kin.calls (clock_any _ _ _ _ _ _ _ x.wd (by omega) (by omega) (by omega)))
  have hdl := day_long m e4
  have hd3 := day3_len m e4
  have hml := mon_len m d3
  unfold dayT at hdl
  unfold monT at hml
  clear hc hs hb1 htv n3 n4 nd nm ND NM m0 m1 m2 m3 m4 m5 m6
  obtain ⟨D, hD⟩ : ∃ D, arrD (dayL.getD m.wd []) = D := ⟨_, rfl⟩
  obtain ⟨O, hO⟩ : ∃ O, arrD (monL.getD m.mon []) = O := ⟨_, rfl⟩
  obtain ⟨C, hC⟩ : ∃ C, arrD (clockT m) = C := ⟨_, rfl⟩
  obtain ⟨T, hT⟩ : ∃ T, arrD (two2 m.day) = T := ⟨_, rfl⟩
  obtain ⟨Y, hY⟩ : ∃ Y, arrD (two2 y2) = Y := ⟨_, rfl⟩
  rw [hD] at k9
  rw [hO] at k10
  rw [hC] at M3
  rw [hT] at M1
  rw [hY] at M2
  have zD : 6 ≤ D.size ∧ D.size ≤ 9 := by rw [arr_len hD]; exact ⟨hdl.1, hdl.2.1⟩
  have zO : O.size = 3 := by rw [arr_len hO]; exact hml
  have zC : C.size = 8 := arr_len hC
  have zT : T.size = 2 := by rw [arr_len hT]; exact two2_len _
  have zY : Y.size = 2 := by rw [arr_len hY]; rfl
  have zL1 : (⟨#[44, 32]⟩ : ByteArray).size = 2 := rfl
  obtain ⟨A1, hA1⟩ : ∃ A, D ++ ⟨#[44, 32]⟩ = A := ⟨_, rfl⟩
  have zA1 : A1.size = D.size + 2 := by rw [← hA1, ByteArray.size_append, zL1]
  obtain ⟨r1, s1⟩ := add_str hA1 (by omega)
  obtain ⟨A2, hA2⟩ : ∃ A, A1 ++ T = A := ⟨_, rfl⟩
  have zA2 : A2.size = A1.size + T.size := by rw [← hA2, ByteArray.size_append]
  obtain ⟨r2, s2⟩ := add_str hA2 (by omega)
  have zL3 : (⟨#[45]⟩ : ByteArray).size = 1 := rfl
  obtain ⟨A3, hA3⟩ : ∃ A, A2 ++ ⟨#[45]⟩ = A := ⟨_, rfl⟩
  have zA3 : A3.size = A2.size + 1 := by rw [← hA3, ByteArray.size_append, zL3]
  obtain ⟨r3, s3⟩ := add_str hA3 (by omega)
  obtain ⟨A4, hA4⟩ : ∃ A, A3 ++ O = A := ⟨_, rfl⟩
  have zA4 : A4.size = A3.size + O.size := by rw [← hA4, ByteArray.size_append]
  obtain ⟨r4, s4⟩ := add_str hA4 (by omega)
  have zL5 : (⟨#[45]⟩ : ByteArray).size = 1 := rfl
  obtain ⟨A5, hA5⟩ : ∃ A, A4 ++ ⟨#[45]⟩ = A := ⟨_, rfl⟩
  have zA5 : A5.size = A4.size + 1 := by rw [← hA5, ByteArray.size_append, zL5]
  obtain ⟨r5, s5⟩ := add_str hA5 (by omega)
  obtain ⟨A6, hA6⟩ : ∃ A, A5 ++ Y = A := ⟨_, rfl⟩
  have zA6 : A6.size = A5.size + Y.size := by rw [← hA6, ByteArray.size_append]
  obtain ⟨r6, s6⟩ := add_str hA6 (by omega)
  have zL7 : (⟨#[32]⟩ : ByteArray).size = 1 := rfl
  obtain ⟨A7, hA7⟩ : ∃ A, A6 ++ ⟨#[32]⟩ = A := ⟨_, rfl⟩
  have zA7 : A7.size = A6.size + 1 := by rw [← hA7, ByteArray.size_append, zL7]
  obtain ⟨r7, s7⟩ := add_str hA7 (by omega)
  obtain ⟨A8, hA8⟩ : ∃ A, A7 ++ C = A := ⟨_, rfl⟩
  have zA8 : A8.size = A7.size + C.size := by rw [← hA8, ByteArray.size_append]
  obtain ⟨r8, s8⟩ := add_str hA8 (by omega)
  have zL9 : (⟨#[32, 71, 77, 84]⟩ : ByteArray).size = 4 := rfl
  obtain ⟨A9, hA9⟩ : ∃ A, A8 ++ ⟨#[32, 71, 77, 84]⟩ = A := ⟨_, rfl⟩
  have zA9 : A9.size = A8.size + 4 := by rw [← hA9, ByteArray.size_append, zL9]
  obtain ⟨r9, s9⟩ := add_str hA9 (by omega)
  have HE : Hid (A9 = arrD (longT m)) := Lib.hid (by
    rw [← hA9, ← hA8, ← hA7, ← hA6, ← hA5, ← hA4, ← hA3, ← hA2, ← hA1, ← hD, ← hO, ← hC, ← hT, ← hY]
    have t0 : (⟨#[32]⟩ : ByteArray) = arrD [32] := rfl
    have t1 : (⟨#[32, 71, 77, 84]⟩ : ByteArray) = arrD [32, 71, 77, 84] := rfl
    have t2 : (⟨#[44, 32]⟩ : ByteArray) = arrD [44, 32] := rfl
    have t3 : (⟨#[45]⟩ : ByteArray) = arrD [45] := rfl
    rw [t0, t1, t2, t3]
    simp only [arrD_app]
    rw [← HY2.out, ← two2_mod]
    unfold longT dayT monT
    simp only [List.append_assoc, List.cons_append, List.nil_append])
  clear zL1 zL3 zL5 zL7 zL9 zA1 zA2 zA3 zA4 zA5 zA6 zA7 zA8 zA9 hA1 hA2 hA3 hA4 hA5 hA6 hA7 hA8 hA9 hD hO hC hT hY zD zO zC zT zY hdl hd3 hml
  have i6 : (m.wd : Int) < 7 := by omega
  have i11 : (m.mon : Int) < 12 := by omega
  go_wp2_with fail
  refine wp_region_kin (by kernel_rfl) (by kernel_rfl) ?_
  repeat (go_big_quiet_step (first | (go_at_call 31; with_reducible exact M1.out _) | (go_at_call 31; with_reducible exact M2.out _) | (go_at_call 33; with_reducible exact M3.out _)))
  refine wpQuiet_nil ?_
  intro _ hx
  obtain ⟨x, rfl⟩ := hx
  have HF := Lib.hid (HC.out.below x.below)
  have HSF := Lib.hid (hsv.out.trans (Below.spares (F := fun b => b = p) x.below (fun k hk => .inr hk)))
  clear k0 k1 k2 k3 k4 k5 k6 k7 k8 k9 k10 r1 s1 r2 s2 r3 s3 r4 s4 r5 s5 r6 s6 r7 s7 r8 s8 r9 s9
  go_wp2
  go_ret
  exact ⟨by rw [← HE.out]; rfl, HF.out, HSF.out⟩
end Go.Proofs.YtfnpncmdeimcbaaDoor
