/-
  The third form of a time.
-/
import Derived.Test.YtfnpncmdeimcbaaDoorDatePlain
namespace Go.Proofs.YtfnpncmdeimcbaaDoor
open Go.RowKit DateMath

set_option maxRecDepth 100000 in
set_option maxHeartbeats 16000000 in
theorem old_any (m : Mom) (p : Nat) (w : World) (hm : OkM m) (hg : CalNew w p ∨ CalAt w p) (ht : Tabs w p) : Calls Tryd.prog 20 #[.pointer (some ⟨p, 0, none⟩), momV m] w (FormPost (oldT m) p w) := by
  have hpw : p < w.heap.size := by
    rcases hg with h | ⟨z, gd, gm, h, _⟩ <;> exact (Array.getElem?_eq_some_iff.1 h).1
  obtain ⟨w0, hw0⟩ : ∃ w0, w.alloc (.cells (momC m.year m.mon m.day m.hour m.min m.sec m.wd) 53) = w0 := ⟨_, rfl⟩
  have hs0 : Spares nowhere w w0 := by rw [← hw0]; exact (Spares.refl _ _).alloc _
  have hb0 : w0.heap[w.heap.size]? = some (.cells (momC m.year m.mon m.day m.hour m.min m.sec m.wd) 53 (0, 0)) := by rw [← hw0]; exact heap_alloc_new w _
  have hg0 : CalNew w0 p ∨ CalAt w0 p := hg.elim (fun h => .inl (CalIs.spares h hs0 (fun h => h))) (fun h => .inr (h.below hs0.below0))
  have ht0 : Tabs w0 p := ht.below hs0.below0
  have CW := Lib.hid (wordsD_any p w0 hg0 ht0)
  have HW := Lib.hid hw0
  have HB := Lib.hid hb0
  have HT := Lib.hid ht0
  have HS := Lib.hid hs0
  have d1 := hm.date.y1; have d2 := hm.date.y2; have d3 := hm.date.m1; have d4 := day_le hm
  have e1 := hm.hour; have e2 := hm.min; have e3 := hm.sec; have e4 := hm.wd
  have HM := Lib.hid hm
  clear hg hg0 ht ht0 hw0 hb0 hs0 hm
  unfold FormPost momV momC
  go_enter Tryd.func20, Tryd.ntmps20
  go_wp2_with fail
  change Calls _ _ _ (w.alloc (.cells (momC m.year m.mon m.day m.hour m.min m.sec m.wd) 53)) _
  rw [HW.out]
  refine CW.out.mono ?_
  rintro e v ⟨rfl, hc, hs⟩
  have hb1 := hs.heap HB.out (by omega)
  have hsv := Lib.hid (HS.out.mono (F' := fun b => b = p) (fun _ h => by cases h) |>.trans hs)
  have htv := HT.out.spares hs
  obtain ⟨gd, gm, n3, n4, nd, nm⟩ := names_get hc
  have HC := Lib.hid hc
  have ND := nd m.wd e4
  have NM := nm m.mon d3
  have m0 : v.cell? ⟨w.heap.size, 0, none⟩ = some (.int .i64 m.year) := by rw [Lib.cell_of_heap hb1]; rfl
  have m1 : v.cell? ⟨w.heap.size, 1, none⟩ = some (.int .i64 m.mon) := by rw [Lib.cell_of_heap hb1]; rfl
  have m2 : v.cell? ⟨w.heap.size, 2, none⟩ = some (.int .i64 m.day) := by rw [Lib.cell_of_heap hb1]; rfl
  have m3 : v.cell? ⟨w.heap.size, 3, none⟩ = some (.int .i64 m.hour) := by rw [Lib.cell_of_heap hb1]; rfl
  have m4 : v.cell? ⟨w.heap.size, 4, none⟩ = some (.int .i64 m.min) := by rw [Lib.cell_of_heap hb1]; rfl
  have m5 : v.cell? ⟨w.heap.size, 5, none⟩ = some (.int .i64 m.sec) := by rw [Lib.cell_of_heap hb1]; rfl
  have m6 : v.cell? ⟨w.heap.size, 6, none⟩ = some (.int .i64 m.wd) := by rw [Lib.cell_of_heap hb1]; rfl
  have k0 : ∀ x : Kin v, x.wd.cell? ⟨w.heap.size, 0, none⟩ = some (.int .i64 m.year) := fun x => x.cell m0
  have k1 : ∀ x : Kin v, x.wd.cell? ⟨w.heap.size, 1, none⟩ = some (.int .i64 m.mon) := fun x => x.cell m1
  have k2 : ∀ x : Kin v, x.wd.cell? ⟨w.heap.size, 2, none⟩ = some (.int .i64 m.day) := fun x => x.cell m2
  have k3 : ∀ x : Kin v, x.wd.cell? ⟨w.heap.size, 3, none⟩ = some (.int .i64 m.hour) := fun x => x.cell m3
  have k4 : ∀ x : Kin v, x.wd.cell? ⟨w.heap.size, 4, none⟩ = some (.int .i64 m.min) := fun x => x.cell m4
  have k5 : ∀ x : Kin v, x.wd.cell? ⟨w.heap.size, 5, none⟩ = some (.int .i64 m.sec) := fun x => x.cell m5
  have k6 : ∀ x : Kin v, x.wd.cell? ⟨w.heap.size, 6, none⟩ = some (.int .i64 m.wd) := fun x => x.cell m6
  have k7 : ∀ x : Kin v, x.wd.cell? ⟨p, 3, none⟩ = some (.slice (some ⟨gd, 0, none⟩) 7 7) := fun x => x.cell n3
  have k8 : ∀ x : Kin v, x.wd.cell? ⟨p, 4, none⟩ = some (.slice (some ⟨gm, 0, none⟩) 12 12) := fun x => x.cell n4
  have k9 : ∀ x : Kin v, x.wd.cell? ⟨gd, m.wd, none⟩ = some (.string (arrD (dayL.getD m.wd []))) := fun x => x.cell ND
  have k10 : ∀ x : Kin v, x.wd.cell? ⟨gm, m.mon, none⟩ = some (.string (arrD (monL.getD m.mon []))) := fun x => x.cell NM
  have M1 : Hid (∀ x : Kin v, Calls Tryd.prog 31 #[.int .i64 m.day, .string ⟨#[32]⟩] x.wd fun e w'' => e = .returned (.string (arrD (sp2 m.day))) ∧ ∃ y : Kin v, w'' = y.wd) := Lib.hid (fun x => Kin.calls ((two_space m.day x.wd (by omega)).mono fun _ _ ⟨a, b⟩ => ⟨a, b ▸ Below.refl _ _⟩))
  have M2 : Hid (∀ x : Kin v, Calls Tryd.prog 32 #[.int .i64 m.year] x.wd fun e w'' => e = .returned (.string (arrD (two2 (m.year / 100) ++ two2 m.year))) ∧ ∃ y : Kin v, w'' = y.wd) := Lib.hid (fun x => Kin.calls (year_call m.year x.wd (by omega) (by omega) (htv.below x.below).pow))
  have M3 : Hid (∀ x : Kin v, Calls Tryd.prog 33 #[.agg #[.int .i64 m.year, .int .i64 m.mon, .int .i64 m.day, .int .i64 m.hour, .int .i64 m.min, .int .i64 m.sec, .int .i64 m.wd]] x.wd fun e w'' => e = .returned (.string (arrD (clockT m))) ∧ ∃ y : Kin v, w'' = y.wd) := Lib.hid (fun x => Kin.calls (clock_any _ _ _ _ _ _ _ x.wd (by omega) (by omega) (by omega)))
  have hdl := day_long m e4
  have hd3 := day3_len m e4
  have hml := mon_len m d3
  unfold dayT at hdl
  unfold monT at hml
  clear hc hs hb1 htv n3 n4 nd nm ND NM m0 m1 m2 m3 m4 m5 m6
  obtain ⟨D, hD⟩ : ∃ D, arrD (dayL.getD m.wd []) = D := ⟨_, rfl⟩
  obtain ⟨O, hO⟩ : ∃ O, arrD (monL.getD m.mon []) = O := ⟨_, rfl⟩
  obtain ⟨C, hC⟩ : ∃ C, arrD (clockT m) = C := ⟨_, rfl⟩
  obtain ⟨T, hT⟩ : ∃ T, arrD (sp2 m.day) = T := ⟨_, rfl⟩
  obtain ⟨Y, hY⟩ : ∃ Y, arrD (two2 (m.year / 100) ++ two2 m.year) = Y := ⟨_, rfl⟩
  rw [hD] at k9
  rw [hO] at k10
  rw [hC] at M3
  rw [hT] at M1
  rw [hY] at M2
  have zD : 6 ≤ D.size ∧ D.size ≤ 9 := by rw [arr_len hD]; exact ⟨hdl.1, hdl.2.1⟩
  have zO : O.size = 3 := by rw [arr_len hO]; exact hml
  have zC : C.size = 8 := arr_len hC
  have zT : T.size = 2 := by rw [arr_len hT]; exact sp2_len _
  have zY : Y.size = 4 := by rw [arr_len hY]; rfl
  obtain ⟨E3, hE3⟩ : ∃ E3, D.extract 0 3 = E3 := ⟨_, rfl⟩
  have hE : E3 = arrD (day3 m) := by
    rw [← hE3, ← hD]
    apply ByteArray.ext
    apply Array.toList_inj.1
    rw [Lib.extract_data]
    rfl
  have zE : E3.size = 3 := by rw [hE, arrD_size]; exact hd3
  have zL1 : (⟨#[32]⟩ : ByteArray).size = 1 := rfl
  obtain ⟨A1, hA1⟩ : ∃ A, E3 ++ ⟨#[32]⟩ = A := ⟨_, rfl⟩
  have zA1 : A1.size = E3.size + 1 := by rw [← hA1, ByteArray.size_append, zL1]
  obtain ⟨r1, s1⟩ := add_str hA1 (by omega)
  obtain ⟨A2, hA2⟩ : ∃ A, A1 ++ O = A := ⟨_, rfl⟩
  have zA2 : A2.size = A1.size + O.size := by rw [← hA2, ByteArray.size_append]
  obtain ⟨r2, s2⟩ := add_str hA2 (by omega)
  have zL3 : (⟨#[32]⟩ : ByteArray).size = 1 := rfl
  obtain ⟨A3, hA3⟩ : ∃ A, A2 ++ ⟨#[32]⟩ = A := ⟨_, rfl⟩
  have zA3 : A3.size = A2.size + 1 := by rw [← hA3, ByteArray.size_append, zL3]
  obtain ⟨r3, s3⟩ := add_str hA3 (by omega)
  obtain ⟨A4, hA4⟩ : ∃ A, A3 ++ T = A := ⟨_, rfl⟩
  have zA4 : A4.size = A3.size + T.size := by rw [← hA4, ByteArray.size_append]
  obtain ⟨r4, s4⟩ := add_str hA4 (by omega)
  have zL5 : (⟨#[32]⟩ : ByteArray).size = 1 := rfl
  obtain ⟨A5, hA5⟩ : ∃ A, A4 ++ ⟨#[32]⟩ = A := ⟨_, rfl⟩
  have zA5 : A5.size = A4.size + 1 := by rw [← hA5, ByteArray.size_append, zL5]
  obtain ⟨r5, s5⟩ := add_str hA5 (by omega)
  obtain ⟨A6, hA6⟩ : ∃ A, A5 ++ C = A := ⟨_, rfl⟩
  have zA6 : A6.size = A5.size + C.size := by rw [← hA6, ByteArray.size_append]
  obtain ⟨r6, s6⟩ := add_str hA6 (by omega)
  have zL7 : (⟨#[32]⟩ : ByteArray).size = 1 := rfl
  obtain ⟨A7, hA7⟩ : ∃ A, A6 ++ ⟨#[32]⟩ = A := ⟨_, rfl⟩
  have zA7 : A7.size = A6.size + 1 := by rw [← hA7, ByteArray.size_append, zL7]
  obtain ⟨r7, s7⟩ := add_str hA7 (by omega)
  obtain ⟨A8, hA8⟩ : ∃ A, A7 ++ Y = A := ⟨_, rfl⟩
  have zA8 : A8.size = A7.size + Y.size := by rw [← hA8, ByteArray.size_append]
  obtain ⟨r8, s8⟩ := add_str hA8 (by omega)
  have HE : Hid (A8 = arrD (oldT m)) := Lib.hid (by
    rw [← hA8, ← hA7, ← hA6, ← hA5, ← hA4, ← hA3, ← hA2, ← hA1, hE, ← hO, ← hC, ← hT, ← hY]
    have t0 : (⟨#[32]⟩ : ByteArray) = arrD [32] := rfl
    rw [t0]
    simp only [arrD_app]
    unfold oldT monT
    simp only [List.append_assoc, List.cons_append, List.nil_append])
  have q3 : 3 ≤ D.size := by omega
  clear zL1 zL3 zL5 zL7 zA1 zA2 zA3 zA4 zA5 zA6 zA7 zA8 hA1 hA2 hA3 hA4 hA5 hA6 hA7 hA8 hE zE hD hO hC hT hY zD zO zC zT zY hdl hd3 hml
  have i6 : (m.wd : Int) < 7 := by omega
  have i11 : (m.mon : Int) < 12 := by omega
  go_wp2_with fail
  refine wp_region_kin (by kernel_rfl) (by kernel_rfl) ?_
  repeat (go_big_quiet_step (first | (go_at_call 31; with_reducible exact M1.out _) | (go_at_call 32; with_reducible exact M2.out _) | (go_at_call 33; with_reducible exact M3.out _)))
  refine wpQuiet_nil ?_
  intro _ hx
  obtain ⟨x, rfl⟩ := hx
  have HF := Lib.hid (HC.out.below x.below)
  have HSF := Lib.hid (hsv.out.trans (Below.spares (F := fun b => b = p) x.below (fun k hk => .inr hk)))
  clear k0 k1 k2 k3 k4 k5 k6 k7 k8 k9 k10 r1 s1 r2 s2 r3 s3 r4 s4 r5 s5 r6 s6 r7 s7 r8 s8
  go_wp2
  go_ret
  exact ⟨by rw [← HE.out]; rfl, HF.out, HSF.out⟩
end Go.Proofs.YtfnpncmdeimcbaaDoor
