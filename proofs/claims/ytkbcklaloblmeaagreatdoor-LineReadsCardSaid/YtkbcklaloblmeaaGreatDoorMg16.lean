/-
  The three texts of a time.
  What is read of a date: its numbers, and whether they are.
  A date that was read, held against its own text.
  The second form of a time.
  The third form of a time.
  A date that is read.
  A date of the second form that is read.
  A date of the third form that is read.
  date.Text and date.Parse.
  The reference's calendar.
  The reference's two digits, and the number of digits.
  What the reference makes of the parts of a date.
  The reference's date of its parts; its rows of names.
  The reference's Parse, of the first form.
-/
import Derived.Lib.AppendIntMem
import Derived.Deep.MidRow
import Derived.Deep.RegionHeld3
import Derived.Test.YtkbcklaloblmeaaGreatDoorMg2
import Derived.Test.YtkbcklaloblmeaaGreatDoorMg15
namespace Go.Proofs.YtkbcklaloblmeaaGreatDoor
open Go.RowKit DateMath

theorem year_call (n : Nat) (w : World) (h : 1000 ≤ n) (h2 : n ≤ 9999) (ht : TabP w) : Calls Tryz.prog 43 #[.int .i64 n] w fun e w' => e = .returned (.string (arrD (two2 (n / 100) ++ two2 n))) ∧ Below w.heap.size w w' := by
  have c := Tryz.strconv_Itoa n (by omega) (by omega) w ht
  have hd : (⟨(Lib.itoa n).toArray⟩ : ByteArray) = arrD (two2 (n / 100) ++ two2 n) := by
    unfold Lib.itoa
    rw [if_neg (by omega)]
    rw [show ((n : Int)).toNat = n from by omega, dec_four n h h2]
    rfl
  rw [hd] at c
  exact c.mono fun e w' ⟨he, k, os, hw⟩ => ⟨he, hw ▸ Lib.below_grow _ _ (Nat.le_refl _) k os⟩
/-- Cells of the names. -/
theorem names_get {w : World} {p : Nat} (h : CalAt w p) : ∃ gd gm, w.cell? ⟨p, 3, none⟩ = some (.slice (some ⟨gd, 0, none⟩) 7 7) ∧ w.cell? ⟨p, 4, none⟩ = some (.slice (some ⟨gm, 0, none⟩) 12 12) ∧ (∀ k : Nat, k ≤ 6 → w.cell? ⟨gd, k, none⟩ = some (.string (arrD (dayL.getD k [])))) ∧ (∀ k : Nat, k ≤ 11 → w.cell? ⟨gm, k, none⟩ = some (.string (arrD (monL.getD k [])))) := by
  obtain ⟨z, gd, gm, h1, h2, h3, _, _⟩ := h
  refine ⟨gd, gm, h1.get.2.2.1, h1.get.2.2.2, fun k hk => ?_, fun k hk => ?_⟩
  · rw [Lib.cell_of_heap h2]
    have key : ∀ k : Nat, k ≤ 6 → dayA[k]? = some (.string (arrD (dayL.getD k []))) := by
      intro k hk
      rcases (by omega : k = 0 ∨ k = 1 ∨ k = 2 ∨ k = 3 ∨ k = 4 ∨ k = 5 ∨ k = 6) with rfl | rfl | rfl | rfl | rfl | rfl | rfl <;> rfl
    exact key k hk
  · rw [Lib.cell_of_heap h3]
    have key : ∀ k : Nat, k ≤ 11 → monA[k]? = some (.string (arrD (monL.getD k []))) := by
      intro k hk
      rcases (by omega : k = 0 ∨ k = 1 ∨ k = 2 ∨ k = 3 ∨ k = 4 ∨ k = 5 ∨ k = 6 ∨ k = 7 ∨ k = 8 ∨ k = 9 ∨ k = 10 ∨ k = 11) with rfl | rfl | rfl | rfl | rfl | rfl | rfl | rfl | rfl | rfl | rfl | rfl <;> rfl
    exact key k hk
/-- What each of the forms leaves. -/
def FormPost (l : Bs) (p : Nat) (w : World) (e : Ending) (w' : World) : Prop := e = .returned (.string (arrD l)) ∧ CalAt w' p ∧ Spares (fun b => b = p) w w'
theorem arr_len {x : ByteArray} {l : Bs} (h : arrD l = x) : x.size = l.length := by rw [← h]; exact arrD_size l
set_option maxRecDepth 100000 in
set_option maxHeartbeats 16000000 in
theorem plain_any (m : Mom) (p : Nat) (w : World) (hm : OkM m) (hg : CalNew w p ∨ CalAt w p) (ht : Tabs w p) : Calls Tryz.prog 45 #[.pointer (some ⟨p, 0, none⟩), momV m] w (FormPost (plainT m) p w) := by
  have hpw : p < w.heap.size := by
    rcases hg with h | ⟨z, gd, gm, h, _⟩ <;> exact (Array.getElem?_eq_some_iff.1 h).1
  obtain ⟨w0, hw0⟩ : ∃ w0, w.alloc (.cells (momC m.year m.mon m.day m.hour m.min m.sec m.wd) 99) = w0 := ⟨_, rfl⟩
  have hs0 : Spares nowhere w w0 := by rw [← hw0]; exact (Spares.refl _ _).alloc _
  have hb0 : w0.heap[w.heap.size]? = some (.cells (momC m.year m.mon m.day m.hour m.min m.sec m.wd) 99 (0, 0)) := by rw [← hw0]; exact heap_alloc_new w _
  have hg0 : CalNew w0 p ∨ CalAt w0 p := hg.elim (fun h => .inl (CalIs.spares h hs0 (fun h => h))) (fun h => .inr (h.below hs0.below0))
  have ht0 : Tabs w0 p := ht.below hs0.below0
  have CW := Lib.hid (wordsD_any p w0 hg0 ht0)
  have HW := Lib.hid hw0
  have HB := Lib.hid hb0
  have HT := Lib.hid ht0
  have HS := Lib.hid hs0
  have d1 := hm.date.y1; have d2 := hm.date.y2; have d3 := hm.date.m1; have d4 := day_le hm
  have e1 := hm.hour; have e2 := hm.min; have e3 := hm.sec; have e4 := hm.wd
  have HM := Lib.hid hm
  clear hg hg0 ht ht0 hw0 hb0 hs0 hm
  unfold FormPost momV momC
  go_enter Tryz.func45, Tryz.ntmps45
  go_wp2_with fail
  change Calls _ _ _ (w.alloc (.cells (momC m.year m.mon m.day m.hour m.min m.sec m.wd) 99)) _
  rw [HW.out]
  refine CW.out.mono ?_
  rintro e v ⟨rfl, hc, hs⟩
  have hb1 := hs.heap HB.out (by omega)
  have hsv := Lib.hid (HS.out.mono (F' := fun b => b = p) (fun _ h => by cases h) |>.trans hs)
  have htv := HT.out.spares hs
  obtain ⟨gd, gm, n3, n4, nd, nm⟩ := names_get hc
  have HC := Lib.hid hc
  have ND := nd m.wd e4
  have NM := nm m.mon d3
  have m0 : v.cell? ⟨w.heap.size, 0, none⟩ = some (.int .i64 m.year) := by rw [Lib.cell_of_heap hb1]; rfl
  have m1 : v.cell? ⟨w.heap.size, 1, none⟩ = some (.int .i64 m.mon) := by rw [Lib.cell_of_heap hb1]; rfl
  have m2 : v.cell? ⟨w.heap.size, 2, none⟩ = some (.int .i64 m.day) := by rw [Lib.cell_of_heap hb1]; rfl
  have m3 : v.cell? ⟨w.heap.size, 3, none⟩ = some (.int .i64 m.hour) := by rw [Lib.cell_of_heap hb1]; rfl
  have m4 : v.cell? ⟨w.heap.size, 4, none⟩ = some (.int .i64 m.min) := by rw [Lib.cell_of_heap hb1]; rfl
  have m5 : v.cell? ⟨w.heap.size, 5, none⟩ = some (.int .i64 m.sec) := by rw [Lib.cell_of_heap hb1]; rfl
  have m6 : v.cell? ⟨w.heap.size, 6, none⟩ = some (.int .i64 m.wd) := by rw [Lib.cell_of_heap hb1]; rfl
  have k0 : ∀ x : Kin v, x.wd.cell? ⟨w.heap.size, 0, none⟩ = some (.int .i64 m.year) := fun x => x.cell m0
  have k1 : ∀ x : Kin v, x.wd.cell? ⟨w.heap.size, 1, none⟩ = some (.int .i64 m.mon) := fun x => x.cell m1
  have k2 : ∀ x : Kin v, x.wd.cell? ⟨w.heap.size, 2, none⟩ = some (.int .i64 m.day) := fun x => x.cell m2
  have k3 : ∀ x : Kin v, x.wd.cell? ⟨w.heap.size, 3, none⟩ = some (.int .i64 m.hour) := fun x => x.cell m3
  have k4 : ∀ x : Kin v, x.wd.cell? ⟨w.heap.size, 4, none⟩ = some (.int .i64 m.min) := fun x => x.cell m4
  have k5 : ∀ x : Kin v, x.wd.cell? ⟨w.heap.size, 5, none⟩ = some (.int .i64 m.sec) := fun x => x.cell m5
  have k6 : ∀ x : Kin v, x.wd.cell? ⟨w.heap.size, 6, none⟩ = some (.int .i64 m.wd) := fun x => x.cell m6
  have k7 : ∀ x : Kin v, x.wd.cell? ⟨p, 3, none⟩ = some (.slice (some ⟨gd, 0, none⟩) 7 7) := fun x => x.cell n3
  have k8 : ∀ x : Kin v, x.wd.cell? ⟨p, 4, none⟩ = some (.slice (some ⟨gm, 0, none⟩) 12 12) := fun x => x.cell n4
  have k9 : ∀ x : Kin v, x.wd.cell? ⟨gd, m.wd, none⟩ = some (.string (arrD (dayL.getD m.wd []))) := fun x => x.cell ND
  have k10 : ∀ x : Kin v, x.wd.cell? ⟨gm, m.mon, none⟩ = some (.string (arrD (monL.getD m.mon []))) := fun x => x.cell NM
  have M1 : Hid (∀ x : Kin v, Calls Tryz.prog 75 #[.int .i64 m.day, .string ⟨#[48]⟩] x.wd fun e w'' => e = .returned (.string (arrD (two2 m.day))) ∧ ∃ y : Kin v, w'' = y.wd) := Lib.hid (fun x => Kin.calls ((two_zero m.day x.wd (by omega)).mono fun _ _ ⟨a, b⟩ => ⟨a, b ▸ Below.refl _ _⟩))
  have M2 : Hid (∀ x : Kin v, Calls Tryz.prog 43 #[.int .i64 m.year] x.wd fun e w'' => e = .returned (.string (arrD (two2 (m.year / 100) ++ two2 m.year))) ∧ ∃ y : Kin v, w'' = y.wd) := Lib.hid (fun x => Kin.calls (year_call m.year x.wd (by omega) (by omega) (htv.below x.below).pow))
  have M3 : Hid (∀ x : Kin v, Calls Tryz.prog 76 #[.agg #[.int .i64 m.year, .int .i64 m.mon, .int .i64 m.day, .int .i64 m.hour, .int .i64 m.min, .int .i64 m.sec, .int .i64 m.wd]] x.wd fun e w'' => e = .returned (.string (arrD (clockT m))) ∧ ∃ y : Kin v, w'' = y.wd) := Lib.hid (fun x => Kin.calls (clock_any _ _ _ _ _ _ _ x.wd (by omega) (by omega) (by omega)))
  have hdl := day_long m e4
  have hd3 := day3_len m e4
  have hml := mon_len m d3
  unfold dayT at hdl
  unfold monT at hml
  clear hc hs hb1 htv n3 n4 nd nm ND NM m0 m1 m2 m3 m4 m5 m6
  obtain ⟨D, hD⟩ : ∃ D, arrD (dayL.getD m.wd []) = D := ⟨_, rfl⟩
  obtain ⟨O, hO⟩ : ∃ O, arrD (monL.getD m.mon []) = O := ⟨_, rfl⟩
  obtain ⟨C, hC⟩ : ∃ C, arrD (clockT m) = C := ⟨_, rfl⟩
  obtain ⟨T, hT⟩ : ∃ T, arrD (two2 m.day) = T := ⟨_, rfl⟩
  obtain ⟨Y, hY⟩ : ∃ Y, arrD (two2 (m.year / 100) ++ two2 m.year) = Y := ⟨_, rfl⟩
  rw [hD] at k9
  rw [hO] at k10
  rw [hC] at M3
  rw [hT] at M1
  rw [hY] at M2
  have zD : 6 ≤ D.size ∧ D.size ≤ 9 := by rw [arr_len hD]; exact ⟨hdl.1, hdl.2.1⟩
  have zO : O.size = 3 := by rw [arr_len hO]; exact hml
  have zC : C.size = 8 := arr_len hC
  have zT : T.size = 2 := by rw [arr_len hT]; exact two2_len _
  have zY : Y.size = 4 := by rw [arr_len hY]; rfl
  obtain ⟨E3, hE3⟩ : ∃ E3, D.extract 0 3 = E3 := ⟨_, rfl⟩
  have hE : E3 = arrD (day3 m) := by
    rw [← hE3, ← hD]
    apply ByteArray.ext
    apply Array.toList_inj.1
    rw [Lib.extract_data]
    rfl
  have zE : E3.size = 3 := by rw [hE, arrD_size]; exact hd3
  have zL1 : (⟨#[44, 32]⟩ : ByteArray).size = 2 := rfl
  obtain ⟨A1, hA1⟩ : ∃ A, E3 ++ ⟨#[44, 32]⟩ = A := ⟨_, rfl⟩
  have zA1 : A1.size = E3.size + 2 := by rw [← hA1, ByteArray.size_append, zL1]
  obtain ⟨r1, s1⟩ := add_str hA1 (by omega)
  obtain ⟨A2, hA2⟩ : ∃ A, A1 ++ T = A := ⟨_, rfl⟩
  have zA2 : A2.size = A1.size + T.size := by rw [← hA2, ByteArray.size_append]
  obtain ⟨r2, s2⟩ := add_str hA2 (by omega)
  have zL3 : (⟨#[32]⟩ : ByteArray).size = 1 := rfl
  obtain ⟨A3, hA3⟩ : ∃ A, A2 ++ ⟨#[32]⟩ = A := ⟨_, rfl⟩
  have zA3 : A3.size = A2.size + 1 := by rw [← hA3, ByteArray.size_append, zL3]
  obtain ⟨r3, s3⟩ := add_str hA3 (by omega)
  obtain ⟨A4, hA4⟩ : ∃ A, A3 ++ O = A := ⟨_, rfl⟩
  have zA4 : A4.size = A3.size + O.size := by rw [← hA4, ByteArray.size_append]
  obtain ⟨r4, s4⟩ := add_str hA4 (by omega)
  have zL5 : (⟨#[32]⟩ : ByteArray).size = 1 := rfl
  obtain ⟨A5, hA5⟩ : ∃ A, A4 ++ ⟨#[32]⟩ = A := ⟨_, rfl⟩
  have zA5 : A5.size = A4.size + 1 := by rw [← hA5, ByteArray.size_append, zL5]
  obtain ⟨r5, s5⟩ := add_str hA5 (by omega)
  obtain ⟨A6, hA6⟩ : ∃ A, A5 ++ Y = A := ⟨_, rfl⟩
  have zA6 : A6.size = A5.size + Y.size := by rw [← hA6, ByteArray.size_append]
  obtain ⟨r6, s6⟩ := add_str hA6 (by omega)
  have zL7 : (⟨#[32]⟩ : ByteArray).size = 1 := rfl
  obtain ⟨A7, hA7⟩ : ∃ A, A6 ++ ⟨#[32]⟩ = A := ⟨_, rfl⟩
  have zA7 : A7.size = A6.size + 1 := by rw [← hA7, ByteArray.size_append, zL7]
  obtain ⟨r7, s7⟩ := add_str hA7 (by omega)
  obtain ⟨A8, hA8⟩ : ∃ A, A7 ++ C = A := ⟨_, rfl⟩
  have zA8 : A8.size = A7.size + C.size := by rw [← hA8, ByteArray.size_append]
  obtain ⟨r8, s8⟩ := add_str hA8 (by omega)
  have zL9 : (⟨#[32, 71, 77, 84]⟩ : ByteArray).size = 4 := rfl
  obtain ⟨A9, hA9⟩ : ∃ A, A8 ++ ⟨#[32, 71, 77, 84]⟩ = A := ⟨_, rfl⟩
  have zA9 : A9.size = A8.size + 4 := by rw [← hA9, ByteArray.size_append, zL9]
  obtain ⟨r9, s9⟩ := add_str hA9 (by omega)
  have HE : Hid (A9 = arrD (plainT m)) := Lib.hid (by
    rw [← hA9, ← hA8, ← hA7, ← hA6, ← hA5, ← hA4, ← hA3, ← hA2, ← hA1, hE, ← hO, ← hC, ← hT, ← hY]
    have t0 : (⟨#[32]⟩ : ByteArray) = arrD [32] := rfl
    have t1 : (⟨#[32, 71, 77, 84]⟩ : ByteArray) = arrD [32, 71, 77, 84] := rfl
    have t2 : (⟨#[44, 32]⟩ : ByteArray) = arrD [44, 32] := rfl
    rw [t0, t1, t2]
    simp only [arrD_app]
    unfold plainT monT
    simp only [List.append_assoc, List.cons_append, List.nil_append])
  have q3 : 3 ≤ D.size := by omega
  clear zL1 zL3 zL5 zL7 zL9 zA1 zA2 zA3 zA4 zA5 zA6 zA7 zA8 zA9 hA1 hA2 hA3 hA4 hA5 hA6 hA7 hA8 hA9 hE zE hD hO hC hT hY zD zO zC zT zY hdl hd3 hml
  have i6 : (m.wd : Int) < 7 := by omega
  have i11 : (m.mon : Int) < 12 := by omega
  go_wp2_with fail
  refine wp_region_kin (by kernel_rfl) (by kernel_rfl) ?_
  repeat (go_big_quiet_step (first | (go_at_call 75; with_reducible exact M1.out _) | (go_at_call 43; with_reducible exact M2.out _) | (go_at_call 76; with_reducible exact M3.out _)))
  refine wpQuiet_nil ?_
  intro _ hx
  obtain ⟨x, rfl⟩ := hx
  have HF := Lib.hid (HC.out.below x.below)
  have HSF := Lib.hid (hsv.out.trans (Below.spares (F := fun b => b = p) x.below (fun k hk => .inr hk)))
  clear k0 k1 k2 k3 k4 k5 k6 k7 k8 k9 k10 r1 s1 r2 s2 r3 s3 r4 s4 r5 s5 r6 s6 r7 s7 r8 s8 r9 s9
  go_wp2
  go_ret
  exact ⟨by rw [← HE.out]; rfl, HF.out, HSF.out⟩
end Go.Proofs.YtkbcklaloblmeaaGreatDoor
namespace Go.Proofs.YtkbcklaloblmeaaGreatDoor
open Go.RowKit DateMath

theorem names_mon {w : World} {p gm : Nat} (h : CalAt w p) (hg : w.cell? ⟨p, 4, none⟩ = some (.slice (some ⟨gm, 0, none⟩) 12 12)) : ∀ k : Nat, k ≤ 11 → w.cell? ⟨gm, k, none⟩ = some (.string (arrD (monL.getD k []))) := by
  obtain ⟨gd, gm', _, h4, _, hm⟩ := names_get h
  rw [h4] at hg
  obtain rfl : gm' = gm := by injection hg with e; injection e with e; injection e with e; injection e
  exact hm
theorem cells_ne {w : World} {a b : Nat} {c c' : Array Value} {t t' : TypeId} {r r' : Nat × Nat} (ha : w.heap[a]? = some (.cells c t r)) (hb : w.heap[b]? = some (.cells c' t' r')) (h : t ≠ t') : a ≠ b := by
  rintro rfl
  rw [ha] at hb
  injection hb with hb
  injection hb with _ hb _
  exact h hb
theorem results_cell_twoD {P : Program} {fn : Func} {p s : Tmp} {ty : TypeId} (h : fn.results = #[.cell p ty, .tmp s]) (tmps : Array Value) (w : World) (g : Nat) (t : TypeId) (cs : Array Value) (fr : Nat × Nat) (d : TypeDesc) (v : Value)
    (hp : tmps.getD p undef = .pointer (some ⟨g, 0, none⟩)) (hv : tmps.getD s undef = v) (hg : w.heap[g]? = some (.cells cs t fr))
    (hu : P.underlying ty = some d) (hd : (match d with | .struct _ | .array _ _ => true | _ => false) = true) (hi : (P.info? ty).map (·.size) = some cs.size) :
    (results fn tmps).run P w = .ok (.tuple #[.agg cs, v]) w := by
  have hp' : tmps[p]?.getD undef = .pointer (some ⟨g, 0, none⟩) := by simpa using hp
  have hv' : tmps[s]?.getD undef = v := by simpa using hv
  simp [results, h, hp', hv', asAddr, run_loadVar_row w g t ty cs fr d hg hu hd hi]
theorem mom_set0 {x : World} {g a b c d e f k v : Nat} (h : x.heap[g]? = some (.cells (momC a b c d e f k) 99 (0, 0))) : (x.setCell ⟨g, 0, none⟩ (.int .i64 v)).heap[g]? = some (.cells (momC v b c d e f k) 99 (0, 0)) := (heap_setD h 0 _).trans rfl
theorem mom_set1 {x : World} {g a b c d e f k v : Nat} (h : x.heap[g]? = some (.cells (momC a b c d e f k) 99 (0, 0))) : (x.setCell ⟨g, 1, none⟩ (.int .i64 v)).heap[g]? = some (.cells (momC a v c d e f k) 99 (0, 0)) := (heap_setD h 1 _).trans rfl
theorem mom_set2 {x : World} {g a b c d e f k v : Nat} (h : x.heap[g]? = some (.cells (momC a b c d e f k) 99 (0, 0))) : (x.setCell ⟨g, 2, none⟩ (.int .i64 v)).heap[g]? = some (.cells (momC a b v d e f k) 99 (0, 0)) := (heap_setD h 2 _).trans rfl
theorem mom_set3 {x : World} {g a b c d e f k v : Nat} (h : x.heap[g]? = some (.cells (momC a b c d e f k) 99 (0, 0))) : (x.setCell ⟨g, 3, none⟩ (.int .i64 v)).heap[g]? = some (.cells (momC a b c v e f k) 99 (0, 0)) := (heap_setD h 3 _).trans rfl
theorem mom_set4 {x : World} {g a b c d e f k v : Nat} (h : x.heap[g]? = some (.cells (momC a b c d e f k) 99 (0, 0))) : (x.setCell ⟨g, 4, none⟩ (.int .i64 v)).heap[g]? = some (.cells (momC a b c d v f k) 99 (0, 0)) := (heap_setD h 4 _).trans rfl
theorem mom_set5 {x : World} {g a b c d e f k v : Nat} (h : x.heap[g]? = some (.cells (momC a b c d e f k) 99 (0, 0))) : (x.setCell ⟨g, 5, none⟩ (.int .i64 v)).heap[g]? = some (.cells (momC a b c d e v k) 99 (0, 0)) := (heap_setD h 5 _).trans rfl
theorem mom_set6 {x : World} {g a b c d e f k v : Nat} (h : x.heap[g]? = some (.cells (momC a b c d e f k) 99 (0, 0))) : (x.setCell ⟨g, 6, none⟩ (.int .i64 v)).heap[g]? = some (.cells (momC a b c d e f v) 99 (0, 0)) := (heap_setD h 6 _).trans rfl
/-- The moment in the result's block. -/
theorem mom_written {yn mk dn hn mn sn : Nat} {wr : World} {g : Nat} (h : wr.heap[g]? = some (.cells (momC 0 0 0 0 0 0 0) 99 (0, 0))) :
    (((((((wr.setCell ⟨g, 0, none⟩ (.int .i64 yn)).setCell ⟨g, 1, none⟩ (.int .i64 mk)).setCell ⟨g, 2, none⟩ (.int .i64 dn)).setCell ⟨g, 3, none⟩ (.int .i64 hn)).setCell ⟨g, 4, none⟩ (.int .i64 mn)).setCell ⟨g, 5, none⟩ (.int .i64 sn)).setCell ⟨g, 6, none⟩ (.int .i64 0)).drew.heap[g]? = some (.cells (momC yn mk dn hn mn sn 0) 99 (0, 0)) ∧
    Spares (fun b => b = g) wr (((((((wr.setCell ⟨g, 0, none⟩ (.int .i64 yn)).setCell ⟨g, 1, none⟩ (.int .i64 mk)).setCell ⟨g, 2, none⟩ (.int .i64 dn)).setCell ⟨g, 3, none⟩ (.int .i64 hn)).setCell ⟨g, 4, none⟩ (.int .i64 mn)).setCell ⟨g, 5, none⟩ (.int .i64 sn)).setCell ⟨g, 6, none⟩ (.int .i64 0)).drew := by
  have h0 := mom_set0 (v := yn) h
  have s0 := spares_setD (Spares.refl (fun b => b = g) wr) 0 (.int .i64 yn)
  generalize wr.setCell ⟨g, 0, none⟩ (.int .i64 yn) = w0 at *
  have h1 := mom_set1 (v := mk) h0
  have s1 := spares_setD s0 1 (.int .i64 mk)
  generalize w0.setCell ⟨g, 1, none⟩ (.int .i64 mk) = w1 at *
  have h2 := mom_set2 (v := dn) h1
  have s2 := spares_setD s1 2 (.int .i64 dn)
  generalize w1.setCell ⟨g, 2, none⟩ (.int .i64 dn) = w2 at *
  have h3 := mom_set3 (v := hn) h2
  have s3 := spares_setD s2 3 (.int .i64 hn)
  generalize w2.setCell ⟨g, 3, none⟩ (.int .i64 hn) = w3 at *
  have h4 := mom_set4 (v := mn) h3
  have s4 := spares_setD s3 4 (.int .i64 mn)
  generalize w3.setCell ⟨g, 4, none⟩ (.int .i64 mn) = w4 at *
  have h5 := mom_set5 (v := sn) h4
  have s5 := spares_setD s4 5 (.int .i64 sn)
  generalize w4.setCell ⟨g, 5, none⟩ (.int .i64 sn) = w5 at *
  have h6 := mom_set6 (v := 0) h5
  have s6 := spares_setD s5 6 (.int .i64 0)
  exact ⟨h6, s6.drew⟩
/-- The blocks of a reading: the result's, the moment's, the flag's. -/
structure St (w : World) (x : World) (cs : Array Value) (fl : Bool) : Prop where
  res : x.heap[w.heap.size]? = some (.cells (momC 0 0 0 0 0 0 0) 99 (0, 0))
  mom : x.heap[w.heap.size + 1]? = some (.cells cs 99 (0, 0))
  fine : x.heap[w.heap.size + 2]? = some (.cells #[.bool fl] 4 (0, 0))
  spares : Spares nowhere w x
theorem take_st (w x : World) (cs : Array Value) (fl : Bool) (h : St w x cs fl) (s : ByteArray) (j : Nat) (hs : s.size ≤ 9223372036854775807) (hj : j < cs.size) :
    Calls Tryz.prog 79 #[.string s, .pointer (some ⟨w.heap.size + 1, j, none⟩), .pointer (some ⟨w.heap.size + 2, 0, none⟩)] x fun e x' => e = .returned (.tuple #[]) ∧ Hid (St w x' (cs.setIfInBounds j (.int .i64 ((numF s.data.toList 4).getD 0 : Nat))) (fl && (numF s.data.toList 4).isSome)) := by
  refine (take_any s (w.heap.size + 1) j (w.heap.size + 2) cs[j] fl x hs (by omega) (by rw [Lib.cell_of_heap h.mom, Array.getElem?_eq_getElem hj]) (Lib.frozen_of_heap h.mom j) (by rw [Lib.cell_of_heap h.fine]; rfl) (Lib.frozen_of_heap h.fine 0)).mono ?_
  rintro e x' ⟨he, rfl⟩
  refine ⟨he, Lib.hid ⟨?_, ?_, ?_, ?_⟩⟩
  · rw [Below.heap_setCell _ _ _ _ (by show ¬ w.heap.size = w.heap.size + 2; omega), Below.heap_setCell _ _ _ _ (by show ¬ w.heap.size = w.heap.size + 1; omega)]; exact h.res
  · rw [Below.heap_setCell _ _ _ _ (by show ¬ w.heap.size + 1 = w.heap.size + 2; omega)]; exact heap_setD h.mom j _
  · have := heap_setD (w := x.setCell ⟨w.heap.size + 1, j, none⟩ (.int .i64 ((numF s.data.toList 4).getD 0 : Nat))) (by rw [Below.heap_setCell _ _ _ _ (by show ¬ w.heap.size + 2 = w.heap.size + 1; omega)]; exact h.fine) 0 (.bool (fl && (numF s.data.toList 4).isSome))
    exact this
  · exact (h.spares.setCell (p := ⟨w.heap.size + 1, j, none⟩) (.inr (by show _ ≤ w.heap.size + 1; omega)) _).setCell (p := ⟨w.heap.size + 2, 0, none⟩) (.inr (by show _ ≤ w.heap.size + 2; omega)) _
/-- What read leaves. -/
def ReadPost (r : Raw) (p : Nat) (w : World) (e : Ending) (w' : World) : Prop := e = .returned (.tuple #[.agg (momC r.year r.mon r.day r.hour r.min r.sec 0), .bool r.ok]) ∧ CalAt w' p ∧ Spares (fun b => b = p) w w'
set_option maxRecDepth 100000 in
set_option maxHeartbeats 16000000 in
theorem read_any (d mo y c : ByteArray) (p : Nat) (w : World) (hg : CalNew w p) (ht : Tabs w p) (hd : d.size ≤ 100) (hmo : mo.size ≤ 100) (hy : y.size ≤ 100) (hc : c.size = 8) :
    Calls Tryz.prog 53 #[.pointer (some ⟨p, 0, none⟩), .string d, .string mo, .string y, .string c] w (ReadPost (rawOf d.data.toList mo.data.toList y.data.toList c.data.toList) p w) := by
  have hpw : p < w.heap.size := (Array.getElem?_eq_some_iff.1 hg).1
  have hc2 : c[2]'(by omega) = c.data.toList.getD 2 0 := by
    rw [List.getD_eq_getElem?_getD, List.getElem?_eq_getElem (by simp; omega)]; rfl
  have hc5 : c[5]'(by omega) = c.data.toList.getD 5 0 := by
    rw [List.getD_eq_getElem?_getD, List.getElem?_eq_getElem (by simp; omega)]; rfl
  have x1 : (c.extract 0 2).data.toList = sl c.data.toList 0 2 := by rw [Lib.extract_data]; rfl
  have x2 : (c.extract 3 5).data.toList = sl c.data.toList 3 5 := by rw [Lib.extract_data]; rfl
  have x3 : (c.extract 6 8).data.toList = sl c.data.toList 6 8 := by rw [Lib.extract_data]; rfl
  obtain ⟨c1, h1⟩ : ∃ x, c.extract 0 2 = x := ⟨_, rfl⟩
  obtain ⟨c2, h2⟩ : ∃ x, c.extract 3 5 = x := ⟨_, rfl⟩
  obtain ⟨c3, h3⟩ : ∃ x, c.extract 6 8 = x := ⟨_, rfl⟩
  have z1 : c1.size ≤ 8 := by rw [← h1, ByteArray.size_extract]; omega
  have z2 : c2.size ≤ 8 := by rw [← h2, ByteArray.size_extract]; omega
  have z3 : c3.size ≤ 8 := by rw [← h3, ByteArray.size_extract]; omega
  rw [h1] at x1
  rw [h2] at x2
  rw [h3] at x3
  obtain ⟨b2, hb2⟩ : ∃ b, c[2]'(by omega) = b := ⟨_, rfl⟩
  obtain ⟨b5, hb5⟩ : ∃ b, c[5]'(by omega) = b := ⟨_, rfl⟩
  have hf : (c.data.toList.getD 2 0 == 58 && c.data.toList.getD 5 0 == 58) = (((b2.toNat : Int) == 58) && ((b5.toNat : Int) == 58)) := by
    rw [← hc2, ← hc5, hb2, hb5]
    have e : ∀ b : UInt8, (b == 58) = ((b.toNat : Int) == 58) := by
      intro b
      rw [Bool.eq_iff_iff, beq_iff_eq, beq_iff_eq]
      constructor
      · rintro rfl; rfl
      · intro h; exact UInt8.toNat_inj.1 (by have h58 : (58 : UInt8).toNat = 58 := rfl; omega)
    rw [e, e]
  have hF : ∀ fl : Bool, (((b2.toNat : Int) == 58) && ((b5.toNat : Int) == 58)) = fl → Hid (rawOf d.data.toList mo.data.toList y.data.toList c.data.toList = ⟨(numF y.data.toList 4).getD 0, monK mo.data.toList 12, (numF d.data.toList 4).getD 0, (numF c1.data.toList 4).getD 0, (numF c2.data.toList 4).getD 0, (numF c3.data.toList 4).getD 0, ((((fl && (numF d.data.toList 4).isSome) && (numF y.data.toList 4).isSome) && (numF c1.data.toList 4).isSome) && (numF c2.data.toList 4).isSome) && (numF c3.data.toList 4).isSome⟩) := fun fl h => Lib.hid (by
    unfold rawOf
    rw [hf, h, x1, x2, x3])
  have HF := Lib.hid hF
  have b2l := b2.toNat_lt
  have b5l := b5.toNat_lt
  obtain ⟨x0, hx0⟩ : ∃ x0 : Bool → World, x0 = fun fl => ((w.alloc (.cells (momC 0 0 0 0 0 0 0) 99)).alloc (.cells (momC 0 0 0 0 0 0 0) 99)).alloc (.cells #[.bool fl] 4) := ⟨_, rfl⟩
  have hst0 : ∀ fl, St w (x0 fl) (momC 0 0 0 0 0 0 0) fl := by
    intro fl
    rw [hx0]
    refine ⟨?_, ?_, ?_, (((Spares.refl _ _).alloc _).alloc _).alloc _⟩
    · show (((w.alloc _).alloc _).alloc _).heap[w.heap.size]? = _
      rw [Below.heap_alloc _ _ _ (by simp; omega), Below.heap_alloc _ _ _ (by simp)]
      exact heap_alloc_new w _
    · show (((w.alloc _).alloc _).alloc _).heap[w.heap.size + 1]? = _
      rw [Below.heap_alloc _ _ _ (by simp)]
      have := heap_alloc_new (w.alloc (.cells (momC 0 0 0 0 0 0 0) 99)) (.cells (momC 0 0 0 0 0 0 0) 99)
      simpa using this
    · have := heap_alloc_new ((w.alloc (.cells (momC 0 0 0 0 0 0 0) 99)).alloc (.cells (momC 0 0 0 0 0 0 0) 99)) (.cells #[.bool fl] 4)
      simpa using this
  have HST0 := Lib.hid hst0
  have HX0 := Lib.hid (fun fl => congrFun hx0 fl)
  have HG := Lib.hid hg
  have HT := Lib.hid ht
  have hmf : ∀ (fn : Fn) (first cap : Array Value) (w : World), (Instr.makeFunc fn first cap).run Tryz.prog w = .ok (.func fn first cap) w := fun _ _ _ _ => rfl
  obtain ⟨dn, edn⟩ : ∃ n, (numF d.data.toList 4).getD 0 = n := ⟨_, rfl⟩
  obtain ⟨db, edb⟩ : ∃ n, (numF d.data.toList 4).isSome = n := ⟨_, rfl⟩
  obtain ⟨yn, eyn⟩ : ∃ n, (numF y.data.toList 4).getD 0 = n := ⟨_, rfl⟩
  obtain ⟨yb, eyb⟩ : ∃ n, (numF y.data.toList 4).isSome = n := ⟨_, rfl⟩
  obtain ⟨hn, ehn⟩ : ∃ n, (numF c1.data.toList 4).getD 0 = n := ⟨_, rfl⟩
  obtain ⟨hb, ehb⟩ : ∃ n, (numF c1.data.toList 4).isSome = n := ⟨_, rfl⟩
  obtain ⟨mn, emn⟩ : ∃ n, (numF c2.data.toList 4).getD 0 = n := ⟨_, rfl⟩
  obtain ⟨mb, emb⟩ : ∃ n, (numF c2.data.toList 4).isSome = n := ⟨_, rfl⟩
  obtain ⟨sn, esn⟩ : ∃ n, (numF c3.data.toList 4).getD 0 = n := ⟨_, rfl⟩
  obtain ⟨sb, esb⟩ : ∃ n, (numF c3.data.toList 4).isSome = n := ⟨_, rfl⟩
  have T1 : Hid (∀ (x : World) (fl : Bool), St w x (momC 0 0 0 0 0 0 0) fl → Calls Tryz.prog 79 #[.string d, .pointer (some ⟨w.heap.size + 1, 2, none⟩), .pointer (some ⟨w.heap.size + 2, 0, none⟩)] x fun e x' => e = .returned (.tuple #[]) ∧ Hid (St w x' (momC 0 0 dn 0 0 0 0) (fl && db))) := Lib.hid (fun x fl h => by
    have := take_st w x _ fl h d 2 (by omega) (by show 2 < 7; decide)
    rw [edn, edb] at this
    exact this)
  have T2 : Hid (∀ (x : World) (fl : Bool), St w x (momC 0 0 dn 0 0 0 0) fl → Calls Tryz.prog 79 #[.string y, .pointer (some ⟨w.heap.size + 1, 0, none⟩), .pointer (some ⟨w.heap.size + 2, 0, none⟩)] x fun e x' => e = .returned (.tuple #[]) ∧ Hid (St w x' (momC yn 0 dn 0 0 0 0) (fl && yb))) := Lib.hid (fun x fl h => by
    have := take_st w x _ fl h y 0 (by omega) (by show 0 < 7; decide)
    rw [eyn, eyb] at this
    exact this)
  have T3 : Hid (∀ (x : World) (fl : Bool), St w x (momC yn 0 dn 0 0 0 0) fl → Calls Tryz.prog 79 #[.string c1, .pointer (some ⟨w.heap.size + 1, 3, none⟩), .pointer (some ⟨w.heap.size + 2, 0, none⟩)] x fun e x' => e = .returned (.tuple #[]) ∧ Hid (St w x' (momC yn 0 dn hn 0 0 0) (fl && hb))) := Lib.hid (fun x fl h => by
    have := take_st w x _ fl h c1 3 (by omega) (by show 3 < 7; decide)
    rw [ehn, ehb] at this
    exact this)
  have T4 : Hid (∀ (x : World) (fl : Bool), St w x (momC yn 0 dn hn 0 0 0) fl → Calls Tryz.prog 79 #[.string c2, .pointer (some ⟨w.heap.size + 1, 4, none⟩), .pointer (some ⟨w.heap.size + 2, 0, none⟩)] x fun e x' => e = .returned (.tuple #[]) ∧ Hid (St w x' (momC yn 0 dn hn mn 0 0) (fl && mb))) := Lib.hid (fun x fl h => by
    have := take_st w x _ fl h c2 4 (by omega) (by show 4 < 7; decide)
    rw [emn, emb] at this
    exact this)
  have T5 : Hid (∀ (x : World) (fl : Bool), St w x (momC yn 0 dn hn mn 0 0) fl → Calls Tryz.prog 79 #[.string c3, .pointer (some ⟨w.heap.size + 1, 5, none⟩), .pointer (some ⟨w.heap.size + 2, 0, none⟩)] x fun e x' => e = .returned (.tuple #[]) ∧ Hid (St w x' (momC yn 0 dn hn mn sn 0) (fl && sb))) := Lib.hid (fun x fl h => by
    have := take_st w x _ fl h c3 5 (by omega) (by show 5 < 7; decide)
    rw [esn, esb] at this
    exact this)
  rw [edn, edb, eyn, eyb, ehn, ehb, emn, emb, esn, esb] at hF
  have HF := Lib.hid hF
  obtain ⟨l, hlr⟩ : ∃ l, mo.data.toList = l := ⟨_, rfl⟩
  have hmol : mo.toList = l := by rw [Lib.toList_data, hlr]
  have HML := Lib.hid hmol
  rw [hlr] at HF ⊢
  clear edn edb eyn eyb ehn ehb emn emb esn esb hf hF hst0 hx0 hg ht x1 x2 x3 z1 z2 z3 hc2 hc5 hd hy hlr hmol
  unfold ReadPost
  have hmo' : mo.size ≤ 100 := hmo
  clear hmo
  by_cases q2 : ((b2.toNat : Int) == 58) = true
  · by_cases q5 : ((b5.toNat : Int) == 58) = true
    · have HR := HF.out true (by rw [q2, q5]; rfl)
      clear HF
      go_enter Tryz.func53, Tryz.ntmps53
      go_wp2_with fail
      change Calls _ _ _ (((w.alloc (.cells (momC 0 0 0 0 0 0 0) 99)).alloc (.cells (momC 0 0 0 0 0 0 0) 99)).alloc (.cells #[.bool true] 4)) _
      rw [← HX0.out true]
      refine (T1.out _ _ (HST0.out true)).mono ?_
      rintro e x1 ⟨rfl, H1⟩
      clear HST0 HX0 q2 q5
      go_wp2_with fail
      refine (T2.out _ _ H1.out).mono ?_
      rintro e x2 ⟨rfl, H2⟩
      clear H1
      go_wp2_with fail
      refine (T3.out _ _ H2.out).mono ?_
      rintro e x3 ⟨rfl, H3⟩
      clear H2
      go_wp2_with fail
      refine (T4.out _ _ H3.out).mono ?_
      rintro e x4 ⟨rfl, H4⟩
      clear H3
      go_wp2_with fail
      refine (T5.out _ _ H4.out).mono ?_
      rintro e x5 ⟨rfl, H5⟩
      clear H4
      obtain ⟨ok, hok⟩ : ∃ ok, (((((true && db) && yb) && hb) && mb) && sb) = ok := ⟨_, rfl⟩
      rw [hok] at H5 HR
      clear hok T1 T2 T3 T4 T5
      go_wp2_with fail
      have hst := H5.out
      refine (wordsD_any p x5 (.inl (CalIs.spares HG.out hst.spares (fun h => h))) (HT.out.below hst.spares.below0)).mono ?_
      rintro e v ⟨rfl, hcal, hs⟩
      have hres := hs.heap hst.res (by omega)
      have hmom := hs.heap hst.mom (by omega)
      have hfine := hs.heap hst.fine (by omega)
      obtain ⟨z, gd, gm, w1, w2, w3, w4, w5⟩ := id hcal
      have n4 := w1.get.2.2.2
      have gmM : gm ≠ w.heap.size + 1 := cells_ne w3 hmom (by decide)
      have gmR : gm ≠ w.heap.size := cells_ne w3 hres (by decide)
      have gdM : gd ≠ w.heap.size + 1 := cells_ne w2 hmom (by decide)
      have gdR : gd ≠ w.heap.size := cells_ne w2 hres (by decide)
      have GG : Hid (CalIs v p 1 0 z (.slice (some ⟨gd, 0, none⟩) 7 7) (.slice (some ⟨gm, 0, none⟩) 12 12) ∧ v.heap[gd]? = some (.cells dayA 9 (0, 0)) ∧ v.heap[gm]? = some (.cells monA 9 (0, 0)) ∧ gd ≠ p ∧ gm ≠ p ∧ gm ≠ w.heap.size ∧ gm ≠ w.heap.size + 1 ∧ gd ≠ w.heap.size ∧ gd ≠ w.heap.size + 1) := Lib.hid ⟨w1, w2, w3, w4, w5, gmR, gmM, gdR, gdM⟩
      have gmv : gm < v.heap.size := (Array.getElem?_eq_some_iff.1 w3).1
      have NM := Lib.hid (names_mon hcal n4)
      have HCAL := Lib.hid hcal
      have HRES := Lib.hid hres
      have HMOM := Lib.hid hmom
      have HFINE := Lib.hid hfine
      have HSV := Lib.hid ((hst.spares.mono (F' := fun b => b = p) (fun _ h => by cases h)).trans hs)
      have HRV : Hid (w.heap.size + 2 < v.heap.size) := Lib.hid (Array.getElem?_eq_some_iff.1 hfine).1
      have GMM := Lib.hid gmM
      have GMV := Lib.hid gmv
      clear hst hs hres hmom hfine w1 w2 w3 w4 w5 hcal gmM gmR gdM gdR gmv H5 hmf h1 h2 h3 hb2 hb5
      go_wp2
      go_loopw [55] (fun i wr => ∃ k : Nat, k ≤ 12 ∧ i = .int .i64 k ∧ Hid (wr.heap[w.heap.size + 1]? = some (.cells (momC yn (monK l k) dn hn mn sn 0) 99 (0, 0))) ∧ Hid (Spares (fun b => b = w.heap.size + 1) v wr)) (fun i _ => 12 - (intOf i).toNat)
      case atStart => exact ⟨0, Nat.zero_le _, rfl, HMOM, Lib.hid (Spares.refl _ _)⟩
      case round =>
        obtain ⟨k, hk, rfl, HM, HS⟩ := hrel
        by_cases hlt : k < 12
        · have x0 := (HS.out.cell (p := ⟨gm, k, none⟩) GMV.out GMM.out).trans (NM.out k (by omega))
          have c1 : wr.cell? ⟨w.heap.size + 1, 1, none⟩ = some (.int .i64 (monK l k)) := by rw [Lib.cell_of_heap HM.out]; rfl
          have fz := Lib.frozen_of_heap HM.out 1
          have hol : (arrD (monL.getD k [])).toList = monL.getD k [] := by rw [Lib.toList_data]; unfold arrD; simp
          obtain ⟨O, hO⟩ : ∃ O, arrD (monL.getD k []) = O := ⟨_, rfl⟩
          rw [hO] at x0 hol
          have i1 : (k : Int) < 12 := by omega
          by_cases heq : monL.getD k [] = l
          · have teq : (O.toList == mo.toList) = true := by rw [HML.out, hol, heq]; exact beq_self_eq_true _
            have HK : Hid (monK l (k + 1) = k) := Lib.hid (by show (if monL.getD k [] = l then k else monK l k) = k; rw [if_pos heq])
            clear hol hO heq
            go_wp2
            go_roundw
            case rel => exact ⟨k + 1, by omega, by go_num, Lib.hid (by rw [HK.out]; exact heap_setD HM.out 1 _), Lib.hid (spares_setD HS.out 1 _)⟩
            case measure => simp [intOf]; omega
          · have teq : (O.toList == mo.toList) = false := by rw [HML.out, hol]; simpa using heq
            have HK : Hid (monK l (k + 1) = monK l k) := Lib.hid (by show (if monL.getD k [] = l then k else monK l k) = _; rw [if_neg heq])
            clear hol hO heq
            go_wp2
            go_roundw
            case rel => exact ⟨k + 1, by omega, by go_num, Lib.hid (by rw [HK.out]; exact HM.out), HS⟩
            case measure => simp [intOf]; omega
        · obtain rfl : k = 12 := by omega
          obtain ⟨mk, hmk⟩ : ∃ mk, monK l 12 = mk := ⟨_, rfl⟩
          rw [hmk] at HM HR
          have hne2 : ¬ w.heap.size + 2 = w.heap.size + 1 := by omega
          have hne0 : ¬ w.heap.size = w.heap.size + 1 := by omega
          have hR := HS.out.heap HRES.out hne0
          have hFn := HS.out.heap HFINE.out hne2
          have m0 : wr.cell? ⟨w.heap.size + 1, 0, none⟩ = some (.int .i64 yn) := by rw [Lib.cell_of_heap HM.out]; rfl
          have m1 : wr.cell? ⟨w.heap.size + 1, 1, none⟩ = some (.int .i64 mk) := by rw [Lib.cell_of_heap HM.out]; rfl
          have m2 : wr.cell? ⟨w.heap.size + 1, 2, none⟩ = some (.int .i64 dn) := by rw [Lib.cell_of_heap HM.out]; rfl
          have m3 : wr.cell? ⟨w.heap.size + 1, 3, none⟩ = some (.int .i64 hn) := by rw [Lib.cell_of_heap HM.out]; rfl
          have m4 : wr.cell? ⟨w.heap.size + 1, 4, none⟩ = some (.int .i64 mn) := by rw [Lib.cell_of_heap HM.out]; rfl
          have m5 : wr.cell? ⟨w.heap.size + 1, 5, none⟩ = some (.int .i64 sn) := by rw [Lib.cell_of_heap HM.out]; rfl
          have m6 : wr.cell? ⟨w.heap.size + 1, 6, none⟩ = some (.int .i64 0) := by rw [Lib.cell_of_heap HM.out]; rfl
          have f0 : wr.cell? ⟨w.heap.size + 2, 0, none⟩ = some (.bool ok) := by rw [Lib.cell_of_heap hFn]; rfl
          have r0 : wr.cell? ⟨w.heap.size, 0, none⟩ = some (.int .i64 0) := by rw [Lib.cell_of_heap hR]; rfl
          have r1 : wr.cell? ⟨w.heap.size, 1, none⟩ = some (.int .i64 0) := by rw [Lib.cell_of_heap hR]; rfl
          have r2 : wr.cell? ⟨w.heap.size, 2, none⟩ = some (.int .i64 0) := by rw [Lib.cell_of_heap hR]; rfl
          have r3 : wr.cell? ⟨w.heap.size, 3, none⟩ = some (.int .i64 0) := by rw [Lib.cell_of_heap hR]; rfl
          have r4 : wr.cell? ⟨w.heap.size, 4, none⟩ = some (.int .i64 0) := by rw [Lib.cell_of_heap hR]; rfl
          have r5 : wr.cell? ⟨w.heap.size, 5, none⟩ = some (.int .i64 0) := by rw [Lib.cell_of_heap hR]; rfl
          have r6 : wr.cell? ⟨w.heap.size, 6, none⟩ = some (.int .i64 0) := by rw [Lib.cell_of_heap hR]; rfl
          have z0 := Lib.frozen_of_heap hR 0
          have z1 := Lib.frozen_of_heap hR 1
          have z2 := Lib.frozen_of_heap hR 2
          have z3 := Lib.frozen_of_heap hR 3
          have z4 := Lib.frozen_of_heap hR 4
          have z5 := Lib.frozen_of_heap hR 5
          have z6 := Lib.frozen_of_heap hR 6
          have HRR := Lib.hid hR
          clear hR hFn hne2 hne0 hmk
          go_wp2
          go_region
          go_wp2
          have hq := mom_written (yn := yn) (mk := mk) (dn := dn) (hn := hn) (mn := mn) (sn := sn) HRR.out
          refine bodyPost_ret (v := .tuple #[.agg (momC yn mk dn hn mn sn 0), .bool ok]) (results_cell_twoD rfl _ _ w.heap.size 99 (momC yn mk dn hn mn sn 0) (0, 0) _ (.bool ok) rfl rfl hq.1 Tryz.underlying99 (by rfl) (by kernel_rfl)) rfl ⟨by rw [HR.out], ?_, ?_⟩
          · obtain ⟨g1, g2, g3, g4, g5, g6, g7, g8, g9⟩ := GG.out
            have hh : ∀ b, b ≠ w.heap.size + 1 → b ≠ w.heap.size → ∀ o, v.heap[b]? = some o → _ := fun b h1 h2 o ho => hq.2.heap (HS.out.heap ho h1) h2
            exact ⟨z, gd, gm, hh p (by omega) (by omega) _ g1, hh gd g9 g8 _ g2, hh gm g7 g6 _ g3, g4, g5⟩
          · exact (HSV.out.trans' HS.out (fun b hb => .inr (by omega))).trans' hq.2 (fun b hb => .inr (by omega))
    · replace q5 : ((b5.toNat : Int) == 58) = false := by simpa using q5
      have HR := HF.out false (by rw [q2, q5]; rfl)
      clear HF
      go_enter Tryz.func53, Tryz.ntmps53
      go_wp2_with fail
      change Calls _ _ _ (((w.alloc (.cells (momC 0 0 0 0 0 0 0) 99)).alloc (.cells (momC 0 0 0 0 0 0 0) 99)).alloc (.cells #[.bool false] 4)) _
      rw [← HX0.out false]
      refine (T1.out _ _ (HST0.out false)).mono ?_
      rintro e x1 ⟨rfl, H1⟩
      clear HST0 HX0 q2 q5
      go_wp2_with fail
      refine (T2.out _ _ H1.out).mono ?_
      rintro e x2 ⟨rfl, H2⟩
      clear H1
      go_wp2_with fail
      refine (T3.out _ _ H2.out).mono ?_
      rintro e x3 ⟨rfl, H3⟩
      clear H2
      go_wp2_with fail
      refine (T4.out _ _ H3.out).mono ?_
      rintro e x4 ⟨rfl, H4⟩
      clear H3
      go_wp2_with fail
      refine (T5.out _ _ H4.out).mono ?_
      rintro e x5 ⟨rfl, H5⟩
      clear H4
      obtain ⟨ok, hok⟩ : ∃ ok, (((((false && db) && yb) && hb) && mb) && sb) = ok := ⟨_, rfl⟩
      rw [hok] at H5 HR
      clear hok T1 T2 T3 T4 T5
      go_wp2_with fail
      have hst := H5.out
      refine (wordsD_any p x5 (.inl (CalIs.spares HG.out hst.spares (fun h => h))) (HT.out.below hst.spares.below0)).mono ?_
      rintro e v ⟨rfl, hcal, hs⟩
      have hres := hs.heap hst.res (by omega)
      have hmom := hs.heap hst.mom (by omega)
      have hfine := hs.heap hst.fine (by omega)
      obtain ⟨z, gd, gm, w1, w2, w3, w4, w5⟩ := id hcal
      have n4 := w1.get.2.2.2
      have gmM : gm ≠ w.heap.size + 1 := cells_ne w3 hmom (by decide)
      have gmR : gm ≠ w.heap.size := cells_ne w3 hres (by decide)
      have gdM : gd ≠ w.heap.size + 1 := cells_ne w2 hmom (by decide)
      have gdR : gd ≠ w.heap.size := cells_ne w2 hres (by decide)
      have GG : Hid (CalIs v p 1 0 z (.slice (some ⟨gd, 0, none⟩) 7 7) (.slice (some ⟨gm, 0, none⟩) 12 12) ∧ v.heap[gd]? = some (.cells dayA 9 (0, 0)) ∧ v.heap[gm]? = some (.cells monA 9 (0, 0)) ∧ gd ≠ p ∧ gm ≠ p ∧ gm ≠ w.heap.size ∧ gm ≠ w.heap.size + 1 ∧ gd ≠ w.heap.size ∧ gd ≠ w.heap.size + 1) := Lib.hid ⟨w1, w2, w3, w4, w5, gmR, gmM, gdR, gdM⟩
      have gmv : gm < v.heap.size := (Array.getElem?_eq_some_iff.1 w3).1
      have NM := Lib.hid (names_mon hcal n4)
      have HCAL := Lib.hid hcal
      have HRES := Lib.hid hres
      have HMOM := Lib.hid hmom
      have HFINE := Lib.hid hfine
      have HSV := Lib.hid ((hst.spares.mono (F' := fun b => b = p) (fun _ h => by cases h)).trans hs)
      have HRV : Hid (w.heap.size + 2 < v.heap.size) := Lib.hid (Array.getElem?_eq_some_iff.1 hfine).1
      have GMM := Lib.hid gmM
      have GMV := Lib.hid gmv
      clear hst hs hres hmom hfine w1 w2 w3 w4 w5 hcal gmM gmR gdM gdR gmv H5 hmf h1 h2 h3 hb2 hb5
      go_wp2
      go_loopw [55] (fun i wr => ∃ k : Nat, k ≤ 12 ∧ i = .int .i64 k ∧ Hid (wr.heap[w.heap.size + 1]? = some (.cells (momC yn (monK l k) dn hn mn sn 0) 99 (0, 0))) ∧ Hid (Spares (fun b => b = w.heap.size + 1) v wr)) (fun i _ => 12 - (intOf i).toNat)
      case atStart => exact ⟨0, Nat.zero_le _, rfl, HMOM, Lib.hid (Spares.refl _ _)⟩
      case round =>
        obtain ⟨k, hk, rfl, HM, HS⟩ := hrel
        by_cases hlt : k < 12
        · have x0 := (HS.out.cell (p := ⟨gm, k, none⟩) GMV.out GMM.out).trans (NM.out k (by omega))
          have c1 : wr.cell? ⟨w.heap.size + 1, 1, none⟩ = some (.int .i64 (monK l k)) := by rw [Lib.cell_of_heap HM.out]; rfl
          have fz := Lib.frozen_of_heap HM.out 1
          have hol : (arrD (monL.getD k [])).toList = monL.getD k [] := by rw [Lib.toList_data]; unfold arrD; simp
          obtain ⟨O, hO⟩ : ∃ O, arrD (monL.getD k []) = O := ⟨_, rfl⟩
          rw [hO] at x0 hol
          have i1 : (k : Int) < 12 := by omega
          by_cases heq : monL.getD k [] = l
          · have teq : (O.toList == mo.toList) = true := by rw [HML.out, hol, heq]; exact beq_self_eq_true _
            have HK : Hid (monK l (k + 1) = k) := Lib.hid (by show (if monL.getD k [] = l then k else monK l k) = k; rw [if_pos heq])
            clear hol hO heq
            go_wp2
            go_roundw
            case rel => exact ⟨k + 1, by omega, by go_num, Lib.hid (by rw [HK.out]; exact heap_setD HM.out 1 _), Lib.hid (spares_setD HS.out 1 _)⟩
            case measure => simp [intOf]; omega
          · have teq : (O.toList == mo.toList) = false := by rw [HML.out, hol]; simpa using heq
            have HK : Hid (monK l (k + 1) = monK l k) := Lib.hid (by show (if monL.getD k [] = l then k else monK l k) = _; rw [if_neg heq])
            clear hol hO heq
            go_wp2
            go_roundw
            case rel => exact ⟨k + 1, by omega, by go_num, Lib.hid (by rw [HK.out]; exact HM.out), HS⟩
            case measure => simp [intOf]; omega
        · obtain rfl : k = 12 := by omega
          obtain ⟨mk, hmk⟩ : ∃ mk, monK l 12 = mk := ⟨_, rfl⟩
          rw [hmk] at HM HR
          have hne2 : ¬ w.heap.size + 2 = w.heap.size + 1 := by omega
          have hne0 : ¬ w.heap.size = w.heap.size + 1 := by omega
          have hR := HS.out.heap HRES.out hne0
          have hFn := HS.out.heap HFINE.out hne2
          have m0 : wr.cell? ⟨w.heap.size + 1, 0, none⟩ = some (.int .i64 yn) := by rw [Lib.cell_of_heap HM.out]; rfl
          have m1 : wr.cell? ⟨w.heap.size + 1, 1, none⟩ = some (.int .i64 mk) := by rw [Lib.cell_of_heap HM.out]; rfl
          have m2 : wr.cell? ⟨w.heap.size + 1, 2, none⟩ = some (.int .i64 dn) := by rw [Lib.cell_of_heap HM.out]; rfl
          have m3 : wr.cell? ⟨w.heap.size + 1, 3, none⟩ = some (.int .i64 hn) := by rw [Lib.cell_of_heap HM.out]; rfl
          have m4 : wr.cell? ⟨w.heap.size + 1, 4, none⟩ = some (.int .i64 mn) := by rw [Lib.cell_of_heap HM.out]; rfl
          have m5 : wr.cell? ⟨w.heap.size + 1, 5, none⟩ = some (.int .i64 sn) := by rw [Lib.cell_of_heap HM.out]; rfl
          have m6 : wr.cell? ⟨w.heap.size + 1, 6, none⟩ = some (.int .i64 0) := by rw [Lib.cell_of_heap HM.out]; rfl
          have f0 : wr.cell? ⟨w.heap.size + 2, 0, none⟩ = some (.bool ok) := by rw [Lib.cell_of_heap hFn]; rfl
          have r0 : wr.cell? ⟨w.heap.size, 0, none⟩ = some (.int .i64 0) := by rw [Lib.cell_of_heap hR]; rfl
          have r1 : wr.cell? ⟨w.heap.size, 1, none⟩ = some (.int .i64 0) := by rw [Lib.cell_of_heap hR]; rfl
          have r2 : wr.cell? ⟨w.heap.size, 2, none⟩ = some (.int .i64 0) := by rw [Lib.cell_of_heap hR]; rfl
          have r3 : wr.cell? ⟨w.heap.size, 3, none⟩ = some (.int .i64 0) := by rw [Lib.cell_of_heap hR]; rfl
          have r4 : wr.cell? ⟨w.heap.size, 4, none⟩ = some (.int .i64 0) := by rw [Lib.cell_of_heap hR]; rfl
          have r5 : wr.cell? ⟨w.heap.size, 5, none⟩ = some (.int .i64 0) := by rw [Lib.cell_of_heap hR]; rfl
          have r6 : wr.cell? ⟨w.heap.size, 6, none⟩ = some (.int .i64 0) := by rw [Lib.cell_of_heap hR]; rfl
          have z0 := Lib.frozen_of_heap hR 0
          have z1 := Lib.frozen_of_heap hR 1
          have z2 := Lib.frozen_of_heap hR 2
          have z3 := Lib.frozen_of_heap hR 3
          have z4 := Lib.frozen_of_heap hR 4
          have z5 := Lib.frozen_of_heap hR 5
          have z6 := Lib.frozen_of_heap hR 6
          have HRR := Lib.hid hR
          clear hR hFn hne2 hne0 hmk
          go_wp2
          go_region
          go_wp2
          have hq := mom_written (yn := yn) (mk := mk) (dn := dn) (hn := hn) (mn := mn) (sn := sn) HRR.out
          refine bodyPost_ret (v := .tuple #[.agg (momC yn mk dn hn mn sn 0), .bool ok]) (results_cell_twoD rfl _ _ w.heap.size 99 (momC yn mk dn hn mn sn 0) (0, 0) _ (.bool ok) rfl rfl hq.1 Tryz.underlying99 (by rfl) (by kernel_rfl)) rfl ⟨by rw [HR.out], ?_, ?_⟩
          · obtain ⟨g1, g2, g3, g4, g5, g6, g7, g8, g9⟩ := GG.out
            have hh : ∀ b, b ≠ w.heap.size + 1 → b ≠ w.heap.size → ∀ o, v.heap[b]? = some o → _ := fun b h1 h2 o ho => hq.2.heap (HS.out.heap ho h1) h2
            exact ⟨z, gd, gm, hh p (by omega) (by omega) _ g1, hh gd g9 g8 _ g2, hh gm g7 g6 _ g3, g4, g5⟩
          · exact (HSV.out.trans' HS.out (fun b hb => .inr (by omega))).trans' hq.2 (fun b hb => .inr (by omega))
  · replace q2 : ((b2.toNat : Int) == 58) = false := by simpa using q2
    have HR := HF.out false (by rw [q2]; rfl)
    clear HF
    go_enter Tryz.func53, Tryz.ntmps53
    go_wp2_with fail
    change Calls _ _ _ (((w.alloc (.cells (momC 0 0 0 0 0 0 0) 99)).alloc (.cells (momC 0 0 0 0 0 0 0) 99)).alloc (.cells #[.bool false] 4)) _
    rw [← HX0.out false]
    refine (T1.out _ _ (HST0.out false)).mono ?_
    rintro e x1 ⟨rfl, H1⟩
    clear HST0 HX0 q2 
    go_wp2_with fail
    refine (T2.out _ _ H1.out).mono ?_
    rintro e x2 ⟨rfl, H2⟩
    clear H1
    go_wp2_with fail
    refine (T3.out _ _ H2.out).mono ?_
    rintro e x3 ⟨rfl, H3⟩
    clear H2
    go_wp2_with fail
    refine (T4.out _ _ H3.out).mono ?_
    rintro e x4 ⟨rfl, H4⟩
    clear H3
    go_wp2_with fail
    refine (T5.out _ _ H4.out).mono ?_
    rintro e x5 ⟨rfl, H5⟩
    clear H4
    obtain ⟨ok, hok⟩ : ∃ ok, (((((false && db) && yb) && hb) && mb) && sb) = ok := ⟨_, rfl⟩
    rw [hok] at H5 HR
    clear hok T1 T2 T3 T4 T5
    go_wp2_with fail
    have hst := H5.out
    refine (wordsD_any p x5 (.inl (CalIs.spares HG.out hst.spares (fun h => h))) (HT.out.below hst.spares.below0)).mono ?_
    rintro e v ⟨rfl, hcal, hs⟩
    have hres := hs.heap hst.res (by omega)
    have hmom := hs.heap hst.mom (by omega)
    have hfine := hs.heap hst.fine (by omega)
    obtain ⟨z, gd, gm, w1, w2, w3, w4, w5⟩ := id hcal
    have n4 := w1.get.2.2.2
    have gmM : gm ≠ w.heap.size + 1 := cells_ne w3 hmom (by decide)
    have gmR : gm ≠ w.heap.size := cells_ne w3 hres (by decide)
    have gdM : gd ≠ w.heap.size + 1 := cells_ne w2 hmom (by decide)
    have gdR : gd ≠ w.heap.size := cells_ne w2 hres (by decide)
    have GG : Hid (CalIs v p 1 0 z (.slice (some ⟨gd, 0, none⟩) 7 7) (.slice (some ⟨gm, 0, none⟩) 12 12) ∧ v.heap[gd]? = some (.cells dayA 9 (0, 0)) ∧ v.heap[gm]? = some (.cells monA 9 (0, 0)) ∧ gd ≠ p ∧ gm ≠ p ∧ gm ≠ w.heap.size ∧ gm ≠ w.heap.size + 1 ∧ gd ≠ w.heap.size ∧ gd ≠ w.heap.size + 1) := Lib.hid ⟨w1, w2, w3, w4, w5, gmR, gmM, gdR, gdM⟩
    have gmv : gm < v.heap.size := (Array.getElem?_eq_some_iff.1 w3).1
    have NM := Lib.hid (names_mon hcal n4)
    have HCAL := Lib.hid hcal
    have HRES := Lib.hid hres
    have HMOM := Lib.hid hmom
    have HFINE := Lib.hid hfine
    have HSV := Lib.hid ((hst.spares.mono (F' := fun b => b = p) (fun _ h => by cases h)).trans hs)
    have HRV : Hid (w.heap.size + 2 < v.heap.size) := Lib.hid (Array.getElem?_eq_some_iff.1 hfine).1
    have GMM := Lib.hid gmM
    have GMV := Lib.hid gmv
    clear hst hs hres hmom hfine w1 w2 w3 w4 w5 hcal gmM gmR gdM gdR gmv H5 hmf h1 h2 h3 hb2 hb5
    go_wp2
    go_loopw [55] (fun i wr => ∃ k : Nat, k ≤ 12 ∧ i = .int .i64 k ∧ Hid (wr.heap[w.heap.size + 1]? = some (.cells (momC yn (monK l k) dn hn mn sn 0) 99 (0, 0))) ∧ Hid (Spares (fun b => b = w.heap.size + 1) v wr)) (fun i _ => 12 - (intOf i).toNat)
    case atStart => exact ⟨0, Nat.zero_le _, rfl, HMOM, Lib.hid (Spares.refl _ _)⟩
    case round =>
      obtain ⟨k, hk, rfl, HM, HS⟩ := hrel
      by_cases hlt : k < 12
      · have x0 := (HS.out.cell (p := ⟨gm, k, none⟩) GMV.out GMM.out).trans (NM.out k (by omega))
        have c1 : wr.cell? ⟨w.heap.size + 1, 1, none⟩ = some (.int .i64 (monK l k)) := by rw [Lib.cell_of_heap HM.out]; rfl
        have fz := Lib.frozen_of_heap HM.out 1
        have hol : (arrD (monL.getD k [])).toList = monL.getD k [] := by rw [Lib.toList_data]; unfold arrD; simp
        obtain ⟨O, hO⟩ : ∃ O, arrD (monL.getD k []) = O := ⟨_, rfl⟩
        rw [hO] at x0 hol
        have i1 : (k : Int) < 12 := by omega
        by_cases heq : monL.getD k [] = l
        · have teq : (O.toList == mo.toList) = true := by rw [HML.out, hol, heq]; exact beq_self_eq_true _
          have HK : Hid (monK l (k + 1) = k) := Lib.hid (by show (if monL.getD k [] = l then k else monK l k) = k; rw [if_pos heq])
          clear hol hO heq
          go_wp2
          go_roundw
          case rel => exact ⟨k + 1, by omega, by go_num, Lib.hid (by rw [HK.out]; exact heap_setD HM.out 1 _), Lib.hid (spares_setD HS.out 1 _)⟩
          case measure => simp [intOf]; omega
        · have teq : (O.toList == mo.toList) = false := by rw [HML.out, hol]; simpa using heq
          have HK : Hid (monK l (k + 1) = monK l k) := Lib.hid (by show (if monL.getD k [] = l then k else monK l k) = _; rw [if_neg heq])
          clear hol hO heq
          go_wp2
          go_roundw
          case rel => exact ⟨k + 1, by omega, by go_num, Lib.hid (by rw [HK.out]; exact HM.out), HS⟩
          case measure => simp [intOf]; omega
      · obtain rfl : k = 12 := by omega
        obtain ⟨mk, hmk⟩ : ∃ mk, monK l 12 = mk := ⟨_, rfl⟩
        rw [hmk] at HM HR
        have hne2 : ¬ w.heap.size + 2 = w.heap.size + 1 := by omega
        have hne0 : ¬ w.heap.size = w.heap.size + 1 := by omega
        have hR := HS.out.heap HRES.out hne0
        have hFn := HS.out.heap HFINE.out hne2
        have m0 : wr.cell? ⟨w.heap.size + 1, 0, none⟩ = some (.int .i64 yn) := by rw [Lib.cell_of_heap HM.out]; rfl
        have m1 : wr.cell? ⟨w.heap.size + 1, 1, none⟩ = some (.int .i64 mk) := by rw [Lib.cell_of_heap HM.out]; rfl
        have m2 : wr.cell? ⟨w.heap.size + 1, 2, none⟩ = some (.int .i64 dn) := by rw [Lib.cell_of_heap HM.out]; rfl
        have m3 : wr.cell? ⟨w.heap.size + 1, 3, none⟩ = some (.int .i64 hn) := by rw [Lib.cell_of_heap HM.out]; rfl
        have m4 : wr.cell? ⟨w.heap.size + 1, 4, none⟩ = some (.int .i64 mn) := by rw [Lib.cell_of_heap HM.out]; rfl
        have m5 : wr.cell? ⟨w.heap.size + 1, 5, none⟩ = some (.int .i64 sn) := by rw [Lib.cell_of_heap HM.out]; rfl
        have m6 : wr.cell? ⟨w.heap.size + 1, 6, none⟩ = some (.int .i64 0) := by rw [Lib.cell_of_heap HM.out]; rfl
        have f0 : wr.cell? ⟨w.heap.size + 2, 0, none⟩ = some (.bool ok) := by rw [Lib.cell_of_heap hFn]; rfl
        have r0 : wr.cell? ⟨w.heap.size, 0, none⟩ = some (.int .i64 0) := by rw [Lib.cell_of_heap hR]; rfl
        have r1 : wr.cell? ⟨w.heap.size, 1, none⟩ = some (.int .i64 0) := by rw [Lib.cell_of_heap hR]; rfl
        have r2 : wr.cell? ⟨w.heap.size, 2, none⟩ = some (.int .i64 0) := by rw [Lib.cell_of_heap hR]; rfl
        have r3 : wr.cell? ⟨w.heap.size, 3, none⟩ = some (.int .i64 0) := by rw [Lib.cell_of_heap hR]; rfl
        have r4 : wr.cell? ⟨w.heap.size, 4, none⟩ = some (.int .i64 0) := by rw [Lib.cell_of_heap hR]; rfl
        have r5 : wr.cell? ⟨w.heap.size, 5, none⟩ = some (.int .i64 0) := by rw [Lib.cell_of_heap hR]; rfl
        have r6 : wr.cell? ⟨w.heap.size, 6, none⟩ = some (.int .i64 0) := by rw [Lib.cell_of_heap hR]; rfl
        have z0 := Lib.frozen_of_heap hR 0
        have z1 := Lib.frozen_of_heap hR 1
        have z2 := Lib.frozen_of_heap hR 2
        have z3 := Lib.frozen_of_heap hR 3
        have z4 := Lib.frozen_of_heap hR 4
        have z5 := Lib.frozen_of_heap hR 5
        have z6 := Lib.frozen_of_heap hR 6
        have HRR := Lib.hid hR
        clear hR hFn hne2 hne0 hmk
        go_wp2
        go_region
        go_wp2
        have hq := mom_written (yn := yn) (mk := mk) (dn := dn) (hn := hn) (mn := mn) (sn := sn) HRR.out
        refine bodyPost_ret (v := .tuple #[.agg (momC yn mk dn hn mn sn 0), .bool ok]) (results_cell_twoD rfl _ _ w.heap.size 99 (momC yn mk dn hn mn sn 0) (0, 0) _ (.bool ok) rfl rfl hq.1 Tryz.underlying99 (by rfl) (by kernel_rfl)) rfl ⟨by rw [HR.out], ?_, ?_⟩
        · obtain ⟨g1, g2, g3, g4, g5, g6, g7, g8, g9⟩ := GG.out
          have hh : ∀ b, b ≠ w.heap.size + 1 → b ≠ w.heap.size → ∀ o, v.heap[b]? = some o → _ := fun b h1 h2 o ho => hq.2.heap (HS.out.heap ho h1) h2
          exact ⟨z, gd, gm, hh p (by omega) (by omega) _ g1, hh gd g9 g8 _ g2, hh gm g7 g6 _ g3, g4, g5⟩
        · exact (HSV.out.trans' HS.out (fun b hb => .inr (by omega))).trans' hq.2 (fun b hb => .inr (by omega))
end Go.Proofs.YtkbcklaloblmeaaGreatDoor
namespace Go.Proofs.YtkbcklaloblmeaaGreatDoor
open Go.RowKit DateMath

/-- What checked leaves. -/
def CheckPost (v : Int × Int) (p : Nat) (w : World) (e : Ending) (w' : World) : Prop := e = .returned (.tuple #[.int .i64 v.1, .int .i64 v.2]) ∧ Spares (fun b => b = p) w w'
theorem checkF_no {r : Raw} {Y : Nat} {f : Mom → Bs} {l : Bs} (h : ¬ (r.ok = true ∧ 1970 ≤ Y ∧ 0 ≤ secsR r Y ∧ secsR r Y ≤ maxT ∧ f (momOf (secsR r Y).toNat) = l)) : checkF r Y f l = (0, 80) := by
  unfold checkF; rw [if_neg h]
theorem checkF_yes {r : Raw} {Y : Nat} {f : Mom → Bs} {l : Bs} (h : r.ok = true ∧ 1970 ≤ Y ∧ 0 ≤ secsR r Y ∧ secsR r Y ≤ maxT ∧ f (momOf (secsR r Y).toNat) = l) : checkF r Y f l = (secsR r Y, 0) := by
  unfold checkF; rw [if_pos h]
set_option maxRecDepth 100000 in
set_option maxHeartbeats 16000000 in
theorem checked_any (F : FuncId) (f : Mom → Bs) (r : Raw) (Y : Nat) (s : ByteArray) (p : Nat) (w : World) (hg : CalAt w p) (ht : Tabs w p) (hy : Y ≤ 9999) (hmo : r.mon ≤ 11) (hd : r.day ≤ 9999) (hh : r.hour ≤ 9999) (hmi : r.min ≤ 9999) (hs : r.sec ≤ 9999)
    (hent : ∀ (args : Array Value) (w : World), (callFunc F args).run Tryz.prog w = .ok (.enter F args) w)
    (hform : ∀ (m : Mom) (x : World), OkM m → CalAt x p → Tabs x p → Calls Tryz.prog F #[.pointer (some ⟨p, 0, none⟩), momV m] x (FormPost (f m) p x)) :
    Calls Tryz.prog 54 #[.agg (momC Y r.mon r.day r.hour r.min r.sec 0), .bool r.ok, .string s, .func (.func F) #[.pointer (some ⟨p, 0, none⟩)] #[]] w (CheckPost (checkF r Y f s.data.toList) p w) := by
  obtain ⟨w0, hw0⟩ : ∃ w0, w.alloc (.cells (momC Y r.mon r.day r.hour r.min r.sec 0) 99) = w0 := ⟨_, rfl⟩
  have hs0 : Spares nowhere w w0 := by rw [← hw0]; exact (Spares.refl _ _).alloc _
  have hb0 : w0.heap[w.heap.size]? = some (.cells (momC Y r.mon r.day r.hour r.min r.sec 0) 99 (0, 0)) := by rw [← hw0]; exact heap_alloc_new w _
  have c0 : w0.cell? ⟨w.heap.size, 0, none⟩ = some (.int .i64 Y) := by rw [Lib.cell_of_heap hb0]; rfl
  have c1 : w0.cell? ⟨w.heap.size, 1, none⟩ = some (.int .i64 r.mon) := by rw [Lib.cell_of_heap hb0]; rfl
  have c2 : w0.cell? ⟨w.heap.size, 2, none⟩ = some (.int .i64 r.day) := by rw [Lib.cell_of_heap hb0]; rfl
  have c3 : w0.cell? ⟨w.heap.size, 3, none⟩ = some (.int .i64 r.hour) := by rw [Lib.cell_of_heap hb0]; rfl
  have c4 : w0.cell? ⟨w.heap.size, 4, none⟩ = some (.int .i64 r.min) := by rw [Lib.cell_of_heap hb0]; rfl
  have c5 : w0.cell? ⟨w.heap.size, 5, none⟩ = some (.int .i64 r.sec) := by rw [Lib.cell_of_heap hb0]; rfl
  have c6 : w0.cell? ⟨w.heap.size, 6, none⟩ = some (.int .i64 0) := by rw [Lib.cell_of_heap hb0]; rfl
  have CS := Lib.hid (seconds_any Y r.mon r.day r.hour r.min r.sec 0 w0 hy hmo hd hh hmi hs)
  have hbd := days_bd Y r.mon r.day hy hmo hd
  obtain ⟨T, hT⟩ : ∃ T, secsR r Y = T := ⟨_, rfl⟩
  have hTe : daysT Y r.mon r.day * 86400 + r.hour * 3600 + r.min * 60 + r.sec = T := by rw [← hT]; rfl
  have hTb : -100000000000 ≤ T ∧ T ≤ 400000000000 := by omega
  rw [hTe] at CS
  have HCAL := Lib.hid (hg.below hs0.below0)
  have HTAB := Lib.hid (ht.below hs0.below0)
  have HNO := Lib.hid (fun h => checkF_no (r := r) (Y := Y) (f := f) (l := s.data.toList) (by rw [hT]; exact h))
  have HYES := Lib.hid (fun h => checkF_yes (r := r) (Y := Y) (f := f) (l := s.data.toList) (by rw [hT]; exact h))
  rw [hT] at HYES
  obtain ⟨ok, hok⟩ : ∃ ok, r.ok = ok := ⟨_, rfl⟩
  obtain ⟨rm, hrm⟩ : ∃ n, r.mon = n := ⟨_, rfl⟩
  obtain ⟨rd, hrd⟩ : ∃ n, r.day = n := ⟨_, rfl⟩
  obtain ⟨rh, hrh⟩ : ∃ n, r.hour = n := ⟨_, rfl⟩
  obtain ⟨ri, hri⟩ : ∃ n, r.min = n := ⟨_, rfl⟩
  obtain ⟨rs, hrs⟩ : ∃ n, r.sec = n := ⟨_, rfl⟩
  rw [hok] at HNO HYES ⊢
  rw [hrm, hrd, hrh, hri, hrs] at hw0 CS ⊢
  rw [hrm] at c1
  rw [hrd] at c2
  rw [hrh] at c3
  rw [hri] at c4
  rw [hrs] at c5
  have HS0 := Lib.hid (hs0.mono (F' := fun b => b = p) (fun _ h => by cases h))
  have HFORM := Lib.hid hform
  have HENT := Lib.hid hent
  obtain ⟨R, hR⟩ : ∃ R, checkF r Y f s.data.toList = R := ⟨_, rfl⟩
  rw [hR] at HNO HYES ⊢
  have cs2 := CS.out
  unfold momC at hw0 cs2
  replace CS := Lib.hid cs2
  have HW0 := Lib.hid hw0
  clear cs2 hR hw0 hs0 hb0 hT hTe hbd hg ht hform hent hmo hd hh hmi hs hok hrm hrd hrh hri hrs
  unfold CheckPost momC
  have hc6 : ok = false ∨ (ok = true ∧ ¬ 1970 ≤ Y) ∨ (ok = true ∧ 1970 ≤ Y ∧ T < 0) ∨ (ok = true ∧ 1970 ≤ Y ∧ 0 ≤ T ∧ ¬ T ≤ 253402300799) ∨ (ok = true ∧ 1970 ≤ Y ∧ 0 ≤ T ∧ T ≤ 253402300799) := by
    cases ok
    · exact .inl rfl
    · by_cases a : 1970 ≤ Y
      · by_cases b : T < 0
        · exact .inr (.inr (.inl ⟨rfl, a, b⟩))
        · by_cases c : T ≤ 253402300799
          · exact .inr (.inr (.inr (.inr ⟨rfl, a, by omega, c⟩)))
          · exact .inr (.inr (.inr (.inl ⟨rfl, a, by omega, c⟩)))
      · exact .inr (.inl ⟨rfl, a⟩)
  have hmx : ((maxT : Nat) : Int) = 253402300799 := rfl
  have HLT : Hid (w.heap.size < w0.heap.size) := Lib.hid (by rw [← HW0.out]; simp)
  rcases hc6 with rfl | ⟨rfl, q1⟩ | ⟨rfl, q1, q2⟩ | ⟨rfl, q1, q2, q3⟩ | ⟨rfl, q1, q2, q3⟩
  · have HE := Lib.hid (HNO.out (fun h => by cases h.1))
    clear hmx HNO HYES
    go_enter Tryz.func54, Tryz.ntmps54
    go_wp2_with fail
    change Calls _ _ _ (w.alloc (.cells #[.int .i64 Y, .int .i64 rm, .int .i64 rd, .int .i64 rh, .int .i64 ri, .int .i64 rs, .int .i64 (0 : Nat)] 99)) _
    rw [HW0.out]
    refine CS.out.mono ?_
    rintro e v ⟨rfl, hs1⟩
    have HS1 := Lib.hid (HS0.out.trans (hs1.mono (fun _ h => by cases h)))
    have y0 : v.cell? ⟨w.heap.size, 0, none⟩ = some (.int .i64 Y) := (hs1.cell (p := ⟨w.heap.size, 0, none⟩) HLT.out (fun h => h)).trans c0
    clear hs1
    go_wp2
    go_ret2
    exact ⟨by rw [HE.out]; rfl, HS1.out⟩
  · have HE := Lib.hid (HNO.out (fun h => by exact q1 h.2.1))
    have d1 : decide ((Y : Int) < 1970) = true := by simpa using (by omega : (Y : Int) < 1970)
    clear hmx HNO HYES
    go_enter Tryz.func54, Tryz.ntmps54
    go_wp2_with fail
    change Calls _ _ _ (w.alloc (.cells #[.int .i64 Y, .int .i64 rm, .int .i64 rd, .int .i64 rh, .int .i64 ri, .int .i64 rs, .int .i64 (0 : Nat)] 99)) _
    rw [HW0.out]
    refine CS.out.mono ?_
    rintro e v ⟨rfl, hs1⟩
    have HS1 := Lib.hid (HS0.out.trans (hs1.mono (fun _ h => by cases h)))
    have y0 : v.cell? ⟨w.heap.size, 0, none⟩ = some (.int .i64 Y) := (hs1.cell (p := ⟨w.heap.size, 0, none⟩) HLT.out (fun h => h)).trans c0
    clear hs1
    go_wp2
    go_ret2
    exact ⟨by rw [HE.out]; rfl, HS1.out⟩
  · have HE := Lib.hid (HNO.out (fun h => by have := h.2.2.1; omega))
    have d1 : decide ((Y : Int) < 1970) = false := by simpa using (by omega : ¬ (Y : Int) < 1970)
    have d2 : decide (T < 0) = true := by simpa using (by omega : T < 0)
    clear hmx HNO HYES
    go_enter Tryz.func54, Tryz.ntmps54
    go_wp2_with fail
    change Calls _ _ _ (w.alloc (.cells #[.int .i64 Y, .int .i64 rm, .int .i64 rd, .int .i64 rh, .int .i64 ri, .int .i64 rs, .int .i64 (0 : Nat)] 99)) _
    rw [HW0.out]
    refine CS.out.mono ?_
    rintro e v ⟨rfl, hs1⟩
    have HS1 := Lib.hid (HS0.out.trans (hs1.mono (fun _ h => by cases h)))
    have y0 : v.cell? ⟨w.heap.size, 0, none⟩ = some (.int .i64 Y) := (hs1.cell (p := ⟨w.heap.size, 0, none⟩) HLT.out (fun h => h)).trans c0
    clear hs1
    go_wp2
    go_ret2
    exact ⟨by rw [HE.out]; rfl, HS1.out⟩
  · have HE := Lib.hid (HNO.out (fun h => by have := h.2.2.2.1; omega))
    have d1 : decide ((Y : Int) < 1970) = false := by simpa using (by omega : ¬ (Y : Int) < 1970)
    have d2 : decide (T < 0) = false := by simpa using (by omega : ¬ T < 0)
    have d3 : decide (253402300799 < T) = true := by simpa using (by omega : 253402300799 < T)
    clear hmx HNO HYES
    go_enter Tryz.func54, Tryz.ntmps54
    go_wp2_with fail
    change Calls _ _ _ (w.alloc (.cells #[.int .i64 Y, .int .i64 rm, .int .i64 rd, .int .i64 rh, .int .i64 ri, .int .i64 rs, .int .i64 (0 : Nat)] 99)) _
    rw [HW0.out]
    refine CS.out.mono ?_
    rintro e v ⟨rfl, hs1⟩
    have HS1 := Lib.hid (HS0.out.trans (hs1.mono (fun _ h => by cases h)))
    have y0 : v.cell? ⟨w.heap.size, 0, none⟩ = some (.int .i64 Y) := (hs1.cell (p := ⟨w.heap.size, 0, none⟩) HLT.out (fun h => h)).trans c0
    clear hs1
    go_wp2
    go_ret2
    exact ⟨by rw [HE.out]; rfl, HS1.out⟩
  · obtain ⟨t, rfl⟩ : ∃ t : Nat, T = t := ⟨T.toNat, by omega⟩
    have htm : t ≤ maxT := by unfold maxT; omega
    have d1 : decide ((Y : Int) < 1970) = false := by simpa using (by omega : ¬ (Y : Int) < 1970)
    have d2 : decide ((t : Int) < 0) = false := decide_eq_false (by omega)
    have d3 : decide (253402300799 < (t : Int)) = false := decide_eq_false (by omega)
    have htn : ((t : Int)).toNat = t := by omega
    have HA := Lib.hid (fun (h : f (momOf t) = s.data.toList) => HYES.out ⟨rfl, q1, q2, by rw [hmx]; exact q3, by rw [htn]; exact h⟩)
    have HB := Lib.hid (fun (h : ¬ f (momOf t) = s.data.toList) => HNO.out (fun h' => h (by have := h'.2.2.2.2; rw [htn] at this; exact this)))
    have CM := Lib.hid (fun x => moment_any t x htm)
    have HOK := Lib.hid (mom_ok t htm)
    have hsl : s.toList = s.data.toList := Lib.toList_data s
    have HSL := Lib.hid hsl
    clear hmx HNO HYES htn q2 q3 hTb hsl
    go_enter Tryz.func54, Tryz.ntmps54
    go_wp2_with fail
    change Calls _ _ _ (w.alloc (.cells #[.int .i64 Y, .int .i64 rm, .int .i64 rd, .int .i64 rh, .int .i64 ri, .int .i64 rs, .int .i64 (0 : Nat)] 99)) _
    rw [HW0.out]
    refine CS.out.mono ?_
    rintro e v ⟨rfl, hs1⟩
    have HS1 := Lib.hid (HS0.out.trans (hs1.mono (fun _ h => by cases h)))
    have y0 : v.cell? ⟨w.heap.size, 0, none⟩ = some (.int .i64 Y) := (hs1.cell (p := ⟨w.heap.size, 0, none⟩) HLT.out (fun h => h)).trans c0
    have HCV := Lib.hid (HCAL.out.below hs1.below0)
    have HTV := Lib.hid (HTAB.out.below hs1.below0)
    clear hs1
    go_wp2_with fail
    refine (CM.out v).mono ?_
    rintro e x ⟨rfl, hs2⟩
    have HCX := Lib.hid (HCV.out.below hs2.below0)
    have HTX := Lib.hid (HTV.out.below hs2.below0)
    have HS2 := Lib.hid (HS1.out.trans (hs2.mono (fun _ h => by cases h)))
    clear hs2 y0
    have hent := HENT.out
    go_wp2_with fail
    refine (HFORM.out (momOf t) x HOK.out HCX.out HTX.out).mono ?_
    rintro e u ⟨rfl, _, hs3⟩
    clear hent
    have HS3 := Lib.hid (HS2.out.trans hs3)
    have hal : (arrD (f (momOf t))).toList = f (momOf t) := by rw [Lib.toList_data]; unfold arrD; simp
    obtain ⟨X, hX⟩ : ∃ X, arrD (f (momOf t)) = X := ⟨_, rfl⟩
    obtain ⟨Z, hZ⟩ : ∃ Z, f (momOf t) = Z := ⟨_, rfl⟩
    rw [hX, hZ] at hal
    rw [hX]
    rw [hZ] at HA HB
    clear hs3 hX hZ
    by_cases heq : Z = s.data.toList
    · have teq : (X.toList == s.toList) = true := by rw [HSL.out, hal, heq]; exact beq_self_eq_true _
      have HE := Lib.hid (HA.out heq)
      clear HA HB hal heq HFORM
      go_wp2
      go_ret2
      exact ⟨by rw [HE.out]; rfl, HS3.out⟩
    · have teq : (X.toList == s.toList) = false := by rw [HSL.out, hal]; simpa using heq
      have HE := Lib.hid (HB.out heq)
      clear HA HB hal heq HFORM
      go_wp2
      go_ret2
      exact ⟨by rw [HE.out]; rfl, HS3.out⟩
end Go.Proofs.YtkbcklaloblmeaaGreatDoor
namespace Go.Proofs.YtkbcklaloblmeaaGreatDoor
open Go.RowKit DateMath

set_option maxRecDepth 100000 in
set_option maxHeartbeats 16000000 in
theorem long_any (m : Mom) (p : Nat) (w : World) (hm : OkM m) (hg : CalNew w p ∨ CalAt w p) (ht : Tabs w p) : Calls Tryz.prog 55 #[.pointer (some ⟨p, 0, none⟩), momV m] w (FormPost (longT m) p w) := by
  have hpw : p < w.heap.size := by
    rcases hg with h | ⟨z, gd, gm, h, _⟩ <;> exact (Array.getElem?_eq_some_iff.1 h).1
  obtain ⟨w0, hw0⟩ : ∃ w0, w.alloc (.cells (momC m.year m.mon m.day m.hour m.min m.sec m.wd) 99) = w0 := ⟨_, rfl⟩
  have hs0 : Spares nowhere w w0 := by rw [← hw0]; exact (Spares.refl _ _).alloc _
  have hb0 : w0.heap[w.heap.size]? = some (.cells (momC m.year m.mon m.day m.hour m.min m.sec m.wd) 99 (0, 0)) := by rw [← hw0]; exact heap_alloc_new w _
  have hg0 : CalNew w0 p ∨ CalAt w0 p := hg.elim (fun h => .inl (CalIs.spares h hs0 (fun h => h))) (fun h => .inr (h.below hs0.below0))
  have ht0 : Tabs w0 p := ht.below hs0.below0
  have CW := Lib.hid (wordsD_any p w0 hg0 ht0)
  have HW := Lib.hid hw0
  have HB := Lib.hid hb0
  have HT := Lib.hid ht0
  have HS := Lib.hid hs0
  have d1 := hm.date.y1; have d2 := hm.date.y2; have d3 := hm.date.m1; have d4 := day_le hm
  have e1 := hm.hour; have e2 := hm.min; have e3 := hm.sec; have e4 := hm.wd
  have HM := Lib.hid hm
  clear hg hg0 ht ht0 hw0 hb0 hs0 hm
  unfold FormPost momV momC
  go_enter Tryz.func55, Tryz.ntmps55
  go_wp2_with fail
  change Calls _ _ _ (w.alloc (.cells (momC m.year m.mon m.day m.hour m.min m.sec m.wd) 99)) _
  rw [HW.out]
  refine CW.out.mono ?_
  rintro e v ⟨rfl, hc, hs⟩
  have hb1 := hs.heap HB.out (by omega)
  have hsv := Lib.hid (HS.out.mono (F' := fun b => b = p) (fun _ h => by cases h) |>.trans hs)
  have htv := HT.out.spares hs
  obtain ⟨gd, gm, n3, n4, nd, nm⟩ := names_get hc
  have HC := Lib.hid hc
  have ND := nd m.wd e4
  have NM := nm m.mon d3
  have m0 : v.cell? ⟨w.heap.size, 0, none⟩ = some (.int .i64 m.year) := by rw [Lib.cell_of_heap hb1]; rfl
  have m1 : v.cell? ⟨w.heap.size, 1, none⟩ = some (.int .i64 m.mon) := by rw [Lib.cell_of_heap hb1]; rfl
  have m2 : v.cell? ⟨w.heap.size, 2, none⟩ = some (.int .i64 m.day) := by rw [Lib.cell_of_heap hb1]; rfl
  have m3 : v.cell? ⟨w.heap.size, 3, none⟩ = some (.int .i64 m.hour) := by rw [Lib.cell_of_heap hb1]; rfl
  have m4 : v.cell? ⟨w.heap.size, 4, none⟩ = some (.int .i64 m.min) := by rw [Lib.cell_of_heap hb1]; rfl
  have m5 : v.cell? ⟨w.heap.size, 5, none⟩ = some (.int .i64 m.sec) := by rw [Lib.cell_of_heap hb1]; rfl
  have m6 : v.cell? ⟨w.heap.size, 6, none⟩ = some (.int .i64 m.wd) := by rw [Lib.cell_of_heap hb1]; rfl
  have k0 : ∀ x : Kin v, x.wd.cell? ⟨w.heap.size, 0, none⟩ = some (.int .i64 m.year) := fun x => x.cell m0
  have k1 : ∀ x : Kin v, x.wd.cell? ⟨w.heap.size, 1, none⟩ = some (.int .i64 m.mon) := fun x => x.cell m1
  have k2 : ∀ x : Kin v, x.wd.cell? ⟨w.heap.size, 2, none⟩ = some (.int .i64 m.day) := fun x => x.cell m2
  have k3 : ∀ x : Kin v, x.wd.cell? ⟨w.heap.size, 3, none⟩ = some (.int .i64 m.hour) := fun x => x.cell m3
  have k4 : ∀ x : Kin v, x.wd.cell? ⟨w.heap.size, 4, none⟩ = some (.int .i64 m.min) := fun x => x.cell m4
  have k5 : ∀ x : Kin v, x.wd.cell? ⟨w.heap.size, 5, none⟩ = some (.int .i64 m.sec) := fun x => x.cell m5
  have k6 : ∀ x : Kin v, x.wd.cell? ⟨w.heap.size, 6, none⟩ = some (.int .i64 m.wd) := fun x => x.cell m6
  have k7 : ∀ x : Kin v, x.wd.cell? ⟨p, 3, none⟩ = some (.slice (some ⟨gd, 0, none⟩) 7 7) := fun x => x.cell n3
  have k8 : ∀ x : Kin v, x.wd.cell? ⟨p, 4, none⟩ = some (.slice (some ⟨gm, 0, none⟩) 12 12) := fun x => x.cell n4
  have k9 : ∀ x : Kin v, x.wd.cell? ⟨gd, m.wd, none⟩ = some (.string (arrD (dayL.getD m.wd []))) := fun x => x.cell ND
  have k10 : ∀ x : Kin v, x.wd.cell? ⟨gm, m.mon, none⟩ = some (.string (arrD (monL.getD m.mon []))) := fun x => x.cell NM
  have M1 : Hid (∀ x : Kin v, Calls Tryz.prog 75 #[.int .i64 m.day, .string ⟨#[48]⟩] x.wd fun e w'' => e = .returned (.string (arrD (two2 m.day))) ∧ ∃ y : Kin v, w'' = y.wd) := Lib.hid (fun x => Kin.calls ((two_zero m.day x.wd (by omega)).mono fun _ _ ⟨a, b⟩ => ⟨a, b ▸ Below.refl _ _⟩))
  obtain ⟨y2, hy2⟩ : ∃ y2 : Nat, m.year % 100 = y2 := ⟨_, rfl⟩
  have y2l : y2 ≤ 99 := by omega
  have yr : IntKind.i64.wrap ((m.year : Int).tmod 100) = (y2 : Int) := by rw [Int.tmod_eq_emod_of_nonneg (by omega), wrap_in (by omega) (by omega)]; omega
  have yq : (m.year : Int).tmod 100 = (y2 : Int) := by rw [Int.tmod_eq_emod_of_nonneg (by omega)]; omega
  have M2 : Hid (∀ x : Kin v, Calls Tryz.prog 75 #[.int .i64 y2, .string ⟨#[48]⟩] x.wd fun e w'' => e = .returned (.string (arrD (two2 y2))) ∧ ∃ y : Kin v, w'' = y.wd) := Lib.hid (fun x => Kin.calls ((two_zero y2 x.wd y2l).mono fun _ _ ⟨a, b⟩ => ⟨a, b ▸ Below.refl _ _⟩))
  have HY2 := Lib.hid hy2
  clear hy2
  have M3 : Hid (∀ x : Kin v, Calls Tryz.prog 76 #[.agg #[.int .i64 m.year, .int .i64 m.mon, .int .i64 m.day, .int .i64 m.hour, .int .i64 m.min, .int .i64 m.sec, .int .i64 m.wd]] x.wd fun e w'' => e = .returned (.string (arrD (clockT m))) ∧ ∃ y : Kin v, w'' = y.wd) := Lib.hid (fun x => Kin.calls (clock_any _ _ _ _ _ _ _ x.wd (by omega) (by omega) (by omega)))
  have hdl := day_long m e4
  have hd3 := day3_len m e4
  have hml := mon_len m d3
  unfold dayT at hdl
  unfold monT at hml
  clear hc hs hb1 htv n3 n4 nd nm ND NM m0 m1 m2 m3 m4 m5 m6
  obtain ⟨D, hD⟩ : ∃ D, arrD (dayL.getD m.wd []) = D := ⟨_, rfl⟩
  obtain ⟨O, hO⟩ : ∃ O, arrD (monL.getD m.mon []) = O := ⟨_, rfl⟩
  obtain ⟨C, hC⟩ : ∃ C, arrD (clockT m) = C := ⟨_, rfl⟩
  obtain ⟨T, hT⟩ : ∃ T, arrD (two2 m.day) = T := ⟨_, rfl⟩
  obtain ⟨Y, hY⟩ : ∃ Y, arrD (two2 y2) = Y := ⟨_, rfl⟩
  rw [hD] at k9
  rw [hO] at k10
  rw [hC] at M3
  rw [hT] at M1
  rw [hY] at M2
  have zD : 6 ≤ D.size ∧ D.size ≤ 9 := by rw [arr_len hD]; exact ⟨hdl.1, hdl.2.1⟩
  have zO : O.size = 3 := by rw [arr_len hO]; exact hml
  have zC : C.size = 8 := arr_len hC
  have zT : T.size = 2 := by rw [arr_len hT]; exact two2_len _
  have zY : Y.size = 2 := by rw [arr_len hY]; rfl
  have zL1 : (⟨#[44, 32]⟩ : ByteArray).size = 2 := rfl
  obtain ⟨A1, hA1⟩ : ∃ A, D ++ ⟨#[44, 32]⟩ = A := ⟨_, rfl⟩
  have zA1 : A1.size = D.size + 2 := by rw [← hA1, ByteArray.size_append, zL1]
  obtain ⟨r1, s1⟩ := add_str hA1 (by omega)
  obtain ⟨A2, hA2⟩ : ∃ A, A1 ++ T = A := ⟨_, rfl⟩
  have zA2 : A2.size = A1.size + T.size := by rw [← hA2, ByteArray.size_append]
  obtain ⟨r2, s2⟩ := add_str hA2 (by omega)
  have zL3 : (⟨#[45]⟩ : ByteArray).size = 1 := rfl
  obtain ⟨A3, hA3⟩ : ∃ A, A2 ++ ⟨#[45]⟩ = A := ⟨_, rfl⟩
  have zA3 : A3.size = A2.size + 1 := by rw [← hA3, ByteArray.size_append, zL3]
  obtain ⟨r3, s3⟩ := add_str hA3 (by omega)
  obtain ⟨A4, hA4⟩ : ∃ A, A3 ++ O = A := ⟨_, rfl⟩
  have zA4 : A4.size = A3.size + O.size := by rw [← hA4, ByteArray.size_append]
  obtain ⟨r4, s4⟩ := add_str hA4 (by omega)
  have zL5 : (⟨#[45]⟩ : ByteArray).size = 1 := rfl
  obtain ⟨A5, hA5⟩ : ∃ A, A4 ++ ⟨#[45]⟩ = A := ⟨_, rfl⟩
  have zA5 : A5.size = A4.size + 1 := by rw [← hA5, ByteArray.size_append, zL5]
  obtain ⟨r5, s5⟩ := add_str hA5 (by omega)
  obtain ⟨A6, hA6⟩ : ∃ A, A5 ++ Y = A := ⟨_, rfl⟩
  have zA6 : A6.size = A5.size + Y.size := by rw [← hA6, ByteArray.size_append]
  obtain ⟨r6, s6⟩ := add_str hA6 (by omega)
  have zL7 : (⟨#[32]⟩ : ByteArray).size = 1 := rfl
  obtain ⟨A7, hA7⟩ : ∃ A, A6 ++ ⟨#[32]⟩ = A := ⟨_, rfl⟩
  have zA7 : A7.size = A6.size + 1 := by rw [← hA7, ByteArray.size_append, zL7]
  obtain ⟨r7, s7⟩ := add_str hA7 (by omega)
  obtain ⟨A8, hA8⟩ : ∃ A, A7 ++ C = A := ⟨_, rfl⟩
  have zA8 : A8.size = A7.size + C.size := by rw [← hA8, ByteArray.size_append]
  obtain ⟨r8, s8⟩ := add_str hA8 (by omega)
  have zL9 : (⟨#[32, 71, 77, 84]⟩ : ByteArray).size = 4 := rfl
  obtain ⟨A9, hA9⟩ : ∃ A, A8 ++ ⟨#[32, 71, 77, 84]⟩ = A := ⟨_, rfl⟩
  have zA9 : A9.size = A8.size + 4 := by rw [← hA9, ByteArray.size_append, zL9]
  obtain ⟨r9, s9⟩ := add_str hA9 (by omega)
  have HE : Hid (A9 = arrD (longT m)) := Lib.hid (by
    rw [← hA9, ← hA8, ← hA7, ← hA6, ← hA5, ← hA4, ← hA3, ← hA2, ← hA1, ← hD, ← hO, ← hC, ← hT, ← hY]
    have t0 : (⟨#[32]⟩ : ByteArray) = arrD [32] := rfl
    have t1 : (⟨#[32, 71, 77, 84]⟩ : ByteArray) = arrD [32, 71, 77, 84] := rfl
    have t2 : (⟨#[44, 32]⟩ : ByteArray) = arrD [44, 32] := rfl
    have t3 : (⟨#[45]⟩ : ByteArray) = arrD [45] := rfl
    rw [t0, t1, t2, t3]
    simp only [arrD_app]
    rw [← HY2.out, ← two2_mod]
    unfold longT dayT monT
    simp only [List.append_assoc, List.cons_append, List.nil_append])
  clear zL1 zL3 zL5 zL7 zL9 zA1 zA2 zA3 zA4 zA5 zA6 zA7 zA8 zA9 hA1 hA2 hA3 hA4 hA5 hA6 hA7 hA8 hA9 hD hO hC hT hY zD zO zC zT zY hdl hd3 hml
  have i6 : (m.wd : Int) < 7 := by omega
  have i11 : (m.mon : Int) < 12 := by omega
  go_wp2_with fail
  refine wp_region_kin (by kernel_rfl) (by kernel_rfl) ?_
  repeat (go_big_quiet_step (first | (go_at_call 75; with_reducible exact M1.out _) | (go_at_call 75; with_reducible exact M2.out _) | (go_at_call 76; with_reducible exact M3.out _)))
  refine wpQuiet_nil ?_
  intro _ hx
  obtain ⟨x, rfl⟩ := hx
  have HF := Lib.hid (HC.out.below x.below)
  have HSF := Lib.hid (hsv.out.trans (Below.spares (F := fun b => b = p) x.below (fun k hk => .inr hk)))
  clear k0 k1 k2 k3 k4 k5 k6 k7 k8 k9 k10 r1 s1 r2 s2 r3 s3 r4 s4 r5 s5 r6 s6 r7 s7 r8 s8 r9 s9
  go_wp2
  go_ret
  exact ⟨by rw [← HE.out]; rfl, HF.out, HSF.out⟩
end Go.Proofs.YtkbcklaloblmeaaGreatDoor
namespace Go.Proofs.YtkbcklaloblmeaaGreatDoor
open Go.RowKit DateMath

set_option maxRecDepth 100000 in
set_option maxHeartbeats 16000000 in
theorem old_any (m : Mom) (p : Nat) (w : World) (hm : OkM m) (hg : CalNew w p ∨ CalAt w p) (ht : Tabs w p) : Calls Tryz.prog 57 #[.pointer (some ⟨p, 0, none⟩), momV m] w (FormPost (oldT m) p w) := by
  have hpw : p < w.heap.size := by
    rcases hg with h | ⟨z, gd, gm, h, _⟩ <;> exact (Array.getElem?_eq_some_iff.1 h).1
  obtain ⟨w0, hw0⟩ : ∃ w0, w.alloc (.cells (momC m.year m.mon m.day m.hour m.min m.sec m.wd) 99) = w0 := ⟨_, rfl⟩
  have hs0 : Spares nowhere w w0 := by rw [← hw0]; exact (Spares.refl _ _).alloc _
  have hb0 : w0.heap[w.heap.size]? = some (.cells (momC m.year m.mon m.day m.hour m.min m.sec m.wd) 99 (0, 0)) := by rw [← hw0]; exact heap_alloc_new w _
  have hg0 : CalNew w0 p ∨ CalAt w0 p := hg.elim (fun h => .inl (CalIs.spares h hs0 (fun h => h))) (fun h => .inr (h.below hs0.below0))
  have ht0 : Tabs w0 p := ht.below hs0.below0
  have CW := Lib.hid (wordsD_any p w0 hg0 ht0)
  have HW := Lib.hid hw0
  have HB := Lib.hid hb0
  have HT := Lib.hid ht0
  have HS := Lib.hid hs0
  have d1 := hm.date.y1; have d2 := hm.date.y2; have d3 := hm.date.m1; have d4 := day_le hm
  have e1 := hm.hour; have e2 := hm.min; have e3 := hm.sec; have e4 := hm.wd
  have HM := Lib.hid hm
  clear hg hg0 ht ht0 hw0 hb0 hs0 hm
  unfold FormPost momV momC
  go_enter Tryz.func57, Tryz.ntmps57
  go_wp2_with fail
  change Calls _ _ _ (w.alloc (.cells (momC m.year m.mon m.day m.hour m.min m.sec m.wd) 99)) _
  rw [HW.out]
  refine CW.out.mono ?_
  rintro e v ⟨rfl, hc, hs⟩
  have hb1 := hs.heap HB.out (by omega)
  have hsv := Lib.hid (HS.out.mono (F' := fun b => b = p) (fun _ h => by cases h) |>.trans hs)
  have htv := HT.out.spares hs
  obtain ⟨gd, gm, n3, n4, nd, nm⟩ := names_get hc
  have HC := Lib.hid hc
  have ND := nd m.wd e4
  have NM := nm m.mon d3
  have m0 : v.cell? ⟨w.heap.size, 0, none⟩ = some (.int .i64 m.year) := by rw [Lib.cell_of_heap hb1]; rfl
  have m1 : v.cell? ⟨w.heap.size, 1, none⟩ = some (.int .i64 m.mon) := by rw [Lib.cell_of_heap hb1]; rfl
  have m2 : v.cell? ⟨w.heap.size, 2, none⟩ = some (.int .i64 m.day) := by rw [Lib.cell_of_heap hb1]; rfl
  have m3 : v.cell? ⟨w.heap.size, 3, none⟩ = some (.int .i64 m.hour) := by rw [Lib.cell_of_heap hb1]; rfl
  have m4 : v.cell? ⟨w.heap.size, 4, none⟩ = some (.int .i64 m.min) := by rw [Lib.cell_of_heap hb1]; rfl
  have m5 : v.cell? ⟨w.heap.size, 5, none⟩ = some (.int .i64 m.sec) := by rw [Lib.cell_of_heap hb1]; rfl
  have m6 : v.cell? ⟨w.heap.size, 6, none⟩ = some (.int .i64 m.wd) := by rw [Lib.cell_of_heap hb1]; rfl
  have k0 : ∀ x : Kin v, x.wd.cell? ⟨w.heap.size, 0, none⟩ = some (.int .i64 m.year) := fun x => x.cell m0
  have k1 : ∀ x : Kin v, x.wd.cell? ⟨w.heap.size, 1, none⟩ = some (.int .i64 m.mon) := fun x => x.cell m1
  have k2 : ∀ x : Kin v, x.wd.cell? ⟨w.heap.size, 2, none⟩ = some (.int .i64 m.day) := fun x => x.cell m2
  have k3 : ∀ x : Kin v, x.wd.cell? ⟨w.heap.size, 3, none⟩ = some (.int .i64 m.hour) := fun x => x.cell m3
  have k4 : ∀ x : Kin v, x.wd.cell? ⟨w.heap.size, 4, none⟩ = some (.int .i64 m.min) := fun x => x.cell m4
  have k5 : ∀ x : Kin v, x.wd.cell? ⟨w.heap.size, 5, none⟩ = some (.int .i64 m.sec) := fun x => x.cell m5
  have k6 : ∀ x : Kin v, x.wd.cell? ⟨w.heap.size, 6, none⟩ = some (.int .i64 m.wd) := fun x => x.cell m6
  have k7 : ∀ x : Kin v, x.wd.cell? ⟨p, 3, none⟩ = some (.slice (some ⟨gd, 0, none⟩) 7 7) := fun x => x.cell n3
  have k8 : ∀ x : Kin v, x.wd.cell? ⟨p, 4, none⟩ = some (.slice (some ⟨gm, 0, none⟩) 12 12) := fun x => x.cell n4
  have k9 : ∀ x : Kin v, x.wd.cell? ⟨gd, m.wd, none⟩ = some (.string (arrD (dayL.getD m.wd []))) := fun x => x.cell ND
  have k10 : ∀ x : Kin v, x.wd.cell? ⟨gm, m.mon, none⟩ = some (.string (arrD (monL.getD m.mon []))) := fun x => x.cell NM
  have M1 : Hid (∀ x : Kin v, Calls Tryz.prog 75 #[.int .i64 m.day, .string ⟨#[32]⟩] x.wd fun e w'' => e = .returned (.string (arrD (sp2 m.day))) ∧ ∃ y : Kin v, w'' = y.wd) := Lib.hid (fun x => Kin.calls ((two_space m.day x.wd (by omega)).mono fun _ _ ⟨a, b⟩ => ⟨a, b ▸ Below.refl _ _⟩))
  have M2 : Hid (∀ x : Kin v, Calls Tryz.prog 43 #[.int .i64 m.year] x.wd fun e w'' => e = .returned (.string (arrD (two2 (m.year / 100) ++ two2 m.year))) ∧ ∃ y : Kin v, w'' = y.wd) := Lib.hid (fun x => Kin.calls (year_call m.year x.wd (by omega) (by omega) (htv.below x.below).pow))
  have M3 : Hid (∀ x : Kin v, Calls Tryz.prog 76 #[.agg #[.int .i64 m.year, .int .i64 m.mon, .int .i64 m.day, .int .i64 m.hour, .int .i64 m.min, .int .i64 m.sec, .int .i64 m.wd]] x.wd fun e w'' => e = .returned (.string (arrD (clockT m))) ∧ ∃ y : Kin v, w'' = y.wd) := Lib.hid (fun x => Kin.calls (clock_any _ _ _ _ _ _ _ x.wd (by omega) (by omega) (by omega)))
  have hdl := day_long m e4
  have hd3 := day3_len m e4
  have hml := mon_len m d3
  unfold dayT at hdl
  unfold monT at hml
  clear hc hs hb1 htv n3 n4 nd nm ND NM m0 m1 m2 m3 m4 m5 m6
  obtain ⟨D, hD⟩ : ∃ D, arrD (dayL.getD m.wd []) = D := ⟨_, rfl⟩
  obtain ⟨O, hO⟩ : ∃ O, arrD (monL.getD m.mon []) = O := ⟨_, rfl⟩
  obtain ⟨C, hC⟩ : ∃ C, arrD (clockT m) = C := ⟨_, rfl⟩
  obtain ⟨T, hT⟩ : ∃ T, arrD (sp2 m.day) = T := ⟨_, rfl⟩
  obtain ⟨Y, hY⟩ : ∃ Y, arrD (two2 (m.year / 100) ++ two2 m.year) = Y := ⟨_, rfl⟩
  rw [hD] at k9
  rw [hO] at k10
  rw [hC] at M3
  rw [hT] at M1
  rw [hY] at M2
  have zD : 6 ≤ D.size ∧ D.size ≤ 9 := by rw [arr_len hD]; exact ⟨hdl.1, hdl.2.1⟩
  have zO : O.size = 3 := by rw [arr_len hO]; exact hml
  have zC : C.size = 8 := arr_len hC
  have zT : T.size = 2 := by rw [arr_len hT]; exact sp2_len _
  have zY : Y.size = 4 := by rw [arr_len hY]; rfl
  obtain ⟨E3, hE3⟩ : ∃ E3, D.extract 0 3 = E3 := ⟨_, rfl⟩
  have hE : E3 = arrD (day3 m) := by
    rw [← hE3, ← hD]
    apply ByteArray.ext
    apply Array.toList_inj.1
    rw [Lib.extract_data]
    rfl
  have zE : E3.size = 3 := by rw [hE, arrD_size]; exact hd3
  have zL1 : (⟨#[32]⟩ : ByteArray).size = 1 := rfl
  obtain ⟨A1, hA1⟩ : ∃ A, E3 ++ ⟨#[32]⟩ = A := ⟨_, rfl⟩
  have zA1 : A1.size = E3.size + 1 := by rw [← hA1, ByteArray.size_append, zL1]
  obtain ⟨r1, s1⟩ := add_str hA1 (by omega)
  obtain ⟨A2, hA2⟩ : ∃ A, A1 ++ O = A := ⟨_, rfl⟩
  have zA2 : A2.size = A1.size + O.size := by rw [← hA2, ByteArray.size_append]
  obtain ⟨r2, s2⟩ := add_str hA2 (by omega)
  have zL3 : (⟨#[32]⟩ : ByteArray).size = 1 := rfl
  obtain ⟨A3, hA3⟩ : ∃ A, A2 ++ ⟨#[32]⟩ = A := ⟨_, rfl⟩
  have zA3 : A3.size = A2.size + 1 := by rw [← hA3, ByteArray.size_append, zL3]
  obtain ⟨r3, s3⟩ := add_str hA3 (by omega)
  obtain ⟨A4, hA4⟩ : ∃ A, A3 ++ T = A := ⟨_, rfl⟩
  have zA4 : A4.size = A3.size + T.size := by rw [← hA4, ByteArray.size_append]
  obtain ⟨r4, s4⟩ := add_str hA4 (by omega)
  have zL5 : (⟨#[32]⟩ : ByteArray).size = 1 := rfl
  obtain ⟨A5, hA5⟩ : ∃ A, A4 ++ ⟨#[32]⟩ = A := ⟨_, rfl⟩
  have zA5 : A5.size = A4.size + 1 := by rw [← hA5, ByteArray.size_append, zL5]
  obtain ⟨r5, s5⟩ := add_str hA5 (by omega)
  obtain ⟨A6, hA6⟩ : ∃ A, A5 ++ C = A := ⟨_, rfl⟩
  have zA6 : A6.size = A5.size + C.size := by rw [← hA6, ByteArray.size_append]
  obtain ⟨r6, s6⟩ := add_str hA6 (by omega)
  have zL7 : (⟨#[32]⟩ : ByteArray).size = 1 := rfl
  obtain ⟨A7, hA7⟩ : ∃ A, A6 ++ ⟨#[32]⟩ = A := ⟨_, rfl⟩
  have zA7 : A7.size = A6.size + 1 := by rw [← hA7, ByteArray.size_append, zL7]
  obtain ⟨r7, s7⟩ := add_str hA7 (by omega)
  obtain ⟨A8, hA8⟩ : ∃ A, A7 ++ Y = A := ⟨_, rfl⟩
  have zA8 : A8.size = A7.size + Y.size := by rw [← hA8, ByteArray.size_append]
  obtain ⟨r8, s8⟩ := add_str hA8 (by omega)
  have HE : Hid (A8 = arrD (oldT m)) := Lib.hid (by
    rw [← hA8, ← hA7, ← hA6, ← hA5, ← hA4, ← hA3, ← hA2, ← hA1, hE, ← hO, ← hC, ← hT, ← hY]
    have t0 : (⟨#[32]⟩ : ByteArray) = arrD [32] := rfl
    rw [t0]
    simp only [arrD_app]
    unfold oldT monT
    simp only [List.append_assoc, List.cons_append, List.nil_append])
  have q3 : 3 ≤ D.size := by omega
  clear zL1 zL3 zL5 zL7 zA1 zA2 zA3 zA4 zA5 zA6 zA7 zA8 hA1 hA2 hA3 hA4 hA5 hA6 hA7 hA8 hE zE hD hO hC hT hY zD zO zC zT zY hdl hd3 hml
  have i6 : (m.wd : Int) < 7 := by omega
  have i11 : (m.mon : Int) < 12 := by omega
  go_wp2_with fail
  refine wp_region_kin (by kernel_rfl) (by kernel_rfl) ?_
  repeat (go_big_quiet_step (first | (go_at_call 75; with_reducible exact M1.out _) | (go_at_call 43; with_reducible exact M2.out _) | (go_at_call 76; with_reducible exact M3.out _)))
  refine wpQuiet_nil ?_
  intro _ hx
  obtain ⟨x, rfl⟩ := hx
  have HF := Lib.hid (HC.out.below x.below)
  have HSF := Lib.hid (hsv.out.trans (Below.spares (F := fun b => b = p) x.below (fun k hk => .inr hk)))
  clear k0 k1 k2 k3 k4 k5 k6 k7 k8 k9 k10 r1 s1 r2 s2 r3 s3 r4 s4 r5 s5 r6 s6 r7 s7 r8 s8
  go_wp2
  go_ret
  exact ⟨by rw [← HE.out]; rfl, HF.out, HSF.out⟩
end Go.Proofs.YtkbcklaloblmeaaGreatDoor
namespace Go.Proofs.YtkbcklaloblmeaaGreatDoor
open Go.RowKit DateMath

theorem ent_plain (args : Array Value) (w : World) : (callFunc 45 args).run Tryz.prog w = .ok (.enter 45 args) w := enters_of Tryz.func45 (by kernel_rfl) rfl args w
theorem ent_long (args : Array Value) (w : World) : (callFunc 55 args).run Tryz.prog w = .ok (.enter 55 args) w := enters_of Tryz.func55 (by kernel_rfl) rfl args w
theorem ent_old (args : Array Value) (w : World) : (callFunc 57 args).run Tryz.prog w = .ok (.enter 57 args) w := enters_of Tryz.func57 (by kernel_rfl) rfl args w
/-- What Parse leaves. -/
def ParseDPost (l : Bs) (w : World) (e : Ending) (w' : World) : Prop := e = .returned (.tuple #[.int .i64 (readF l).1, .int .i64 (readF l).2]) ∧ Below w.heap.size w w'
theorem num_le4 (l : Bs) : (numF l 4).getD 0 ≤ 9999 := by
  unfold numF
  split
  · rename_i h
    have := valD_lt l h.2.2
    have h2 : (10 : Nat) ^ l.length ≤ 10 ^ 4 := Nat.pow_le_pow_right (by decide) (by omega)
    have h3 : (10 : Nat) ^ 4 = 10000 := by decide
    simp only [Option.getD_some]
    omega
  · exact Nat.zero_le _
theorem raw_le (d mo y c : Bs) : (rawOf d mo y c).year ≤ 9999 ∧ (rawOf d mo y c).mon ≤ 11 ∧ (rawOf d mo y c).day ≤ 9999 ∧ (rawOf d mo y c).hour ≤ 9999 ∧ (rawOf d mo y c).min ≤ 9999 ∧ (rawOf d mo y c).sec ≤ 9999 :=
  ⟨num_le4 _, monK_le mo 12, num_le4 _, num_le4 _, num_le4 _, num_le4 _⟩
def cal0 : Array Value := #[.int .u32 0, .int .i32 0, .int .u32 0, .slice none 0 0, .slice none 0 0]
theorem cal_new (w : World) : CalNew (w.alloc (.cells cal0 96)) w.heap.size := heap_alloc_new w _
theorem tabs_new {w : World} (h1 : TabP w) (h2 : TabS w) : Tabs (w.alloc (.cells cal0 96)) w.heap.size :=
  have hs : Spares nowhere w (w.alloc (.cells cal0 96)) := (Spares.refl _ _).alloc _
  ⟨h1.spares hs (fun h => h), h2.spares hs (fun h => h), h1.lt, h2.lt⟩
theorem mom_zero {w0 x1 : World} {p : Nat} (hs : Spares (fun b => b = p) (w0.alloc (.cells #[.int .i64 0, .int .i64 0, .int .i64 0, .int .i64 0, .int .i64 0, .int .i64 0, .int .i64 0] 99)).drew x1) (hn : w0.heap.size ≠ p) :
    (x1.cell? ⟨w0.heap.size, 0, none⟩ = some (.int .i64 0) ∧ x1.cell? ⟨w0.heap.size, 1, none⟩ = some (.int .i64 0) ∧ x1.cell? ⟨w0.heap.size, 2, none⟩ = some (.int .i64 0) ∧ x1.cell? ⟨w0.heap.size, 3, none⟩ = some (.int .i64 0) ∧ x1.cell? ⟨w0.heap.size, 4, none⟩ = some (.int .i64 0) ∧ x1.cell? ⟨w0.heap.size, 5, none⟩ = some (.int .i64 0) ∧ x1.cell? ⟨w0.heap.size, 6, none⟩ = some (.int .i64 0)) ∧
    x1.frozen? ⟨w0.heap.size, 0, none⟩ = false ∧ x1.frozen? ⟨w0.heap.size, 1, none⟩ = false ∧ x1.frozen? ⟨w0.heap.size, 2, none⟩ = false ∧ x1.frozen? ⟨w0.heap.size, 3, none⟩ = false ∧ x1.frozen? ⟨w0.heap.size, 4, none⟩ = false ∧ x1.frozen? ⟨w0.heap.size, 5, none⟩ = false ∧ x1.frozen? ⟨w0.heap.size, 6, none⟩ = false := by
  have hb := hs.heap (heap_alloc_new w0 _) hn
  refine ⟨⟨?_, ?_, ?_, ?_, ?_, ?_, ?_⟩, Lib.frozen_of_heap hb 0, Lib.frozen_of_heap hb 1, Lib.frozen_of_heap hb 2, Lib.frozen_of_heap hb 3, Lib.frozen_of_heap hb 4, Lib.frozen_of_heap hb 5, Lib.frozen_of_heap hb 6⟩ <;> (rw [Lib.cell_of_heap hb]; rfl)
theorem cal_other {x x' : World} {p g : Nat} {cs : Array Value} (h : CalAt x p) (hg : x.heap[g]? = some (.cells cs 99 (0, 0))) (hp : g ≠ p) (hs : Spares (fun b => b = g) x x') : CalAt x' p := by
  obtain ⟨z, gd, gm, h1, h2, h3, h4, h5⟩ := h
  have e1 : gd ≠ g := cells_ne h2 hg (by decide)
  have e2 : gm ≠ g := cells_ne h3 hg (by decide)
  exact ⟨z, gd, gm, h1.spares hs (fun e => hp e.symm), hs.heap h2 e1, hs.heap h3 e2, h4, h5⟩
theorem tabs_other {x x' : World} {p g : Nat} (h : Tabs x p) (hp : p ≤ g) (hs : Spares (fun b => b = g) x x') : Tabs x' p :=
  ⟨h.pow.spares hs (by have := h.one; omega), h.space.spares hs (by have := h.two; omega), h.one, h.two⟩
theorem mom_written' {yn mk dn hn mn sn : Nat} {wr : World} {g : Nat} (h : wr.heap[g]? = some (.cells (momC 0 0 0 0 0 0 0) 99 (0, 0))) :
    (((((((wr.setCell ⟨g, 0, none⟩ (.int .i64 yn)).setCell ⟨g, 1, none⟩ (.int .i64 mk)).setCell ⟨g, 2, none⟩ (.int .i64 dn)).setCell ⟨g, 3, none⟩ (.int .i64 hn)).setCell ⟨g, 4, none⟩ (.int .i64 mn)).setCell ⟨g, 5, none⟩ (.int .i64 sn)).setCell ⟨g, 6, none⟩ (.int .i64 0)).heap[g]? = some (.cells (momC yn mk dn hn mn sn 0) 99 (0, 0)) ∧
    Spares (fun b => b = g) wr (((((((wr.setCell ⟨g, 0, none⟩ (.int .i64 yn)).setCell ⟨g, 1, none⟩ (.int .i64 mk)).setCell ⟨g, 2, none⟩ (.int .i64 dn)).setCell ⟨g, 3, none⟩ (.int .i64 hn)).setCell ⟨g, 4, none⟩ (.int .i64 mn)).setCell ⟨g, 5, none⟩ (.int .i64 sn)).setCell ⟨g, 6, none⟩ (.int .i64 0)) := by
  have h0 := mom_set0 (v := yn) h
  have s0 := spares_setD (Spares.refl (fun b => b = g) wr) 0 (.int .i64 yn)
  generalize wr.setCell ⟨g, 0, none⟩ (.int .i64 yn) = w0 at *
  have h1 := mom_set1 (v := mk) h0
  have s1 := spares_setD s0 1 (.int .i64 mk)
  generalize w0.setCell ⟨g, 1, none⟩ (.int .i64 mk) = w1 at *
  have h2 := mom_set2 (v := dn) h1
  have s2 := spares_setD s1 2 (.int .i64 dn)
  generalize w1.setCell ⟨g, 2, none⟩ (.int .i64 dn) = w2 at *
  have h3 := mom_set3 (v := hn) h2
  have s3 := spares_setD s2 3 (.int .i64 hn)
  generalize w2.setCell ⟨g, 3, none⟩ (.int .i64 hn) = w3 at *
  have h4 := mom_set4 (v := mn) h3
  have s4 := spares_setD s3 4 (.int .i64 mn)
  generalize w3.setCell ⟨g, 4, none⟩ (.int .i64 mn) = w4 at *
  have h5 := mom_set5 (v := sn) h4
  have s5 := spares_setD s4 5 (.int .i64 sn)
  generalize w4.setCell ⟨g, 5, none⟩ (.int .i64 sn) = w5 at *
  have h6 := mom_set6 (v := 0) h5
  have s6 := spares_setD s5 6 (.int .i64 0)
  exact ⟨h6, s6⟩
theorem wrap_k (k c : Nat) (hk : k ≤ 140737488351232) (hc : c ≤ 100) : IntKind.i64.wrap ((k : Int) + (c : Int)) = (k : Int) + (c : Int) := wrap_in (by omega) (by omega)
set_option maxRecDepth 100000 in
set_option maxHeartbeats 16000000 in
theorem parse_plain (s : ByteArray) (w : World) (h1 : TabP w) (h2 : TabS w) (hl : s.size = 29) (hk : Lib.indexByte s.data.toList 44 = 3) :
    Calls Tryz.prog 28 #[.string s] w (ParseDPost s.data.toList w) := by
  obtain ⟨w0, hw0⟩ : ∃ w0, w.alloc (.cells cal0 96) = w0 := ⟨_, rfl⟩
  have hcn := cal_new w
  have htn := tabs_new h1 h2
  have hs0 : Spares nowhere w (w.alloc (.cells cal0 96)) := (Spares.refl _ _).alloc _
  rw [hw0] at hcn htn hs0
  have hll : s.data.toList.length = 29 := by simpa using hl
  have x1 : (s.extract 5 7).data.toList = sl s.data.toList 5 7 := by rw [Lib.extract_data]; rfl
  have x2 : (s.extract 8 11).data.toList = sl s.data.toList 8 11 := by rw [Lib.extract_data]; rfl
  have x3 : (s.extract 12 16).data.toList = sl s.data.toList 12 16 := by rw [Lib.extract_data]; rfl
  have x4 : (s.extract 17 25).data.toList = sl s.data.toList 17 25 := by rw [Lib.extract_data]; rfl
  obtain ⟨d, hd⟩ : ∃ x, s.extract 5 7 = x := ⟨_, rfl⟩
  obtain ⟨mo, hmo⟩ : ∃ x, s.extract 8 11 = x := ⟨_, rfl⟩
  obtain ⟨y, hy⟩ : ∃ x, s.extract 12 16 = x := ⟨_, rfl⟩
  obtain ⟨c, hc⟩ : ∃ x, s.extract 17 25 = x := ⟨_, rfl⟩
  have zd : d.size ≤ 100 := by rw [← hd, ByteArray.size_extract]; omega
  have zmo : mo.size ≤ 100 := by rw [← hmo, ByteArray.size_extract]; omega
  have zy : y.size ≤ 100 := by rw [← hy, ByteArray.size_extract]; omega
  have zc : c.size = 8 := by rw [← hc, ByteArray.size_extract]; omega
  rw [hd] at x1
  rw [hmo] at x2
  rw [hy] at x3
  rw [hc] at x4
  have CR := fun x (hx : Spares nowhere w0 x) => read_any d mo y c w.heap.size x (CalIs.spares hcn hx (fun h => h)) (htn.below hx.below0) zd zmo zy zc
  have hchk := check_plain s.data.toList hll _ rfl
  rw [x1, x2, x3, x4] at CR
  obtain ⟨r, hr⟩ : ∃ r, rawOf (sl s.data.toList 5 7) (sl s.data.toList 8 11) (sl s.data.toList 12 16) (sl s.data.toList 17 25) = r := ⟨_, rfl⟩
  have hrl := raw_le (sl s.data.toList 5 7) (sl s.data.toList 8 11) (sl s.data.toList 12 16) (sl s.data.toList 17 25)
  rw [hr] at CR hchk hrl
  have CC := fun x (hc : CalAt x w.heap.size) (ht : Tabs x w.heap.size) => checked_any 45 plainT r r.year s w.heap.size x hc ht hrl.1 hrl.2.1 hrl.2.2.1 hrl.2.2.2.1 hrl.2.2.2.2.1 hrl.2.2.2.2.2 ent_plain (fun m x hm hc ht => plain_any m w.heap.size x hm (.inr hc) ht)
  rw [hchk] at CC
  unfold momC at CC
  unfold ReadPost momC at CR
  have HCR := Lib.hid CR
  have HK := Lib.hid hk
  have HW0 := Lib.hid hw0
  have HTN := Lib.hid htn
  have HS0 := Lib.hid hs0
  have HCC := Lib.hid CC
  clear hchk CR CC hk hw0 htn hs0 hcn x1 x2 x3 x4 hll zd zmo zy zc hr hrl h1 h2
  have HNP : Hid (w0.heap.size ≠ w.heap.size ∧ w.heap.size ≤ w0.heap.size) := Lib.hid (by rw [← HW0.out]; simp)
  unfold ParseDPost
  go_enter Tryz.func28, Tryz.ntmps28
  go_wp2_with fail
  change Calls _ _ _ (w.alloc (.cells cal0 96)) _
  rw [HW0.out]
  refine (Tryz.strings_IndexByte _ _ _).mono ?_
  rintro e w' ⟨rfl, hw'⟩
  rw [show ((44 : Int)).toNat.toUInt8 = 44 from rfl, HK.out]
  replace hw' := hw'.symm
  subst hw'
  go_wp2
  go_region_held3 (fun _ => True) (exact trivial) (first
    | (go_simp
       go_at_call 53
       (with_reducible refine Calls.mono (HCR.out _ (Spares.drew (Spares.refl _ _))) ?_)
       rintro e x1 ⟨rfl, hc1, hs1⟩)
    | (go_simp
       go_at_call 53
       (with_reducible refine Calls.mono (HCR.out _ (Spares.drew (Spares.alloc (Spares.refl _ _) _))) ?_)
       rintro e x1 ⟨rfl, hc1, hs1⟩
       obtain ⟨⟨k0, k1, k2, k3, k4, k5, k6⟩, l0, l1, l2, l3, l4, l5, l6⟩ := mom_zero hs1 HNP.out.1
       )
    | fail)
  · obtain ⟨X, hX⟩ : ∃ X, x1.alloc (.cells #[.int .i64 r.year, .int .i64 r.mon, .int .i64 r.day, .int .i64 r.hour, .int .i64 r.min, .int .i64 r.sec, .int .i64 0] 99) = X := ⟨_, rfl⟩
    rw [hX]
    have hs1' : Spares (fun b => b = w.heap.size) w0 x1 := ((Spares.refl (fun b => b = w.heap.size) w0).drew).trans hs1
    have hsX : Spares (fun b => b = w.heap.size) w0 X := by rw [← hX]; exact hs1'.alloc _
    have hcX : CalAt X w.heap.size := hc1.below (by rw [← hX]; exact (Below.refl _ _).alloc (Nat.le_refl _) _)
    have htX := HTN.out.spares hsX
    have hbX : Below w.heap.size w X := HS0.out.below0.trans (hsX.below HNP.out.2 (fun j hj e => by omega))
    have hq : X.heap[x1.heap.size]? = some (.cells (momC r.year r.mon r.day r.hour r.min r.sec 0) 99 (0, 0)) := by rw [← hX]; exact heap_alloc_new x1 _
    have hql : w.heap.size ≤ x1.heap.size := Nat.le_trans HNP.out.2 hs1'.size
    have hqn : x1.heap.size ≠ w.heap.size := fun e => by have := hs1'.size; have := HNP.out; omega
    obtain ⟨q, hqe⟩ : ∃ q, x1.heap.size = q := ⟨_, rfl⟩
    rw [hqe] at hq hql hqn
    rw [hqe]
    clear hqe hX hs1 hs1' hsX hc1
    have HBX := Lib.hid hbX
    have c0 : X.cell? ⟨q, 0, none⟩ = some (.int .i64 r.year) := by rw [Lib.cell_of_heap hq]; rfl
    have c1 : X.cell? ⟨q, 1, none⟩ = some (.int .i64 r.mon) := by rw [Lib.cell_of_heap hq]; rfl
    have c2 : X.cell? ⟨q, 2, none⟩ = some (.int .i64 r.day) := by rw [Lib.cell_of_heap hq]; rfl
    have c3 : X.cell? ⟨q, 3, none⟩ = some (.int .i64 r.hour) := by rw [Lib.cell_of_heap hq]; rfl
    have c4 : X.cell? ⟨q, 4, none⟩ = some (.int .i64 r.min) := by rw [Lib.cell_of_heap hq]; rfl
    have c5 : X.cell? ⟨q, 5, none⟩ = some (.int .i64 r.sec) := by rw [Lib.cell_of_heap hq]; rfl
    have c6 : X.cell? ⟨q, 6, none⟩ = some (.int .i64 0) := by rw [Lib.cell_of_heap hq]; rfl
    have CX := Lib.hid (HCC.out X hcX htX)
    clear hq hcX htX hbX hqn hql
    go_wp2_with fail
    refine CX.out.mono ?_
    rintro e x2 ⟨rfl, hs2⟩
    have HF := Lib.hid (HBX.out.trans (hs2.below HBX.out.size (fun j hj e => by omega)))
    clear hs2
    go_wp2
    go_ret2
    exact ⟨rfl, HF.out⟩
  all_goals
    obtain ⟨hwr, hsp⟩ := mom_written' (yn := r.year) (mk := r.mon) (dn := r.day) (hn := r.hour) (mn := r.min) (sn := r.sec) (hs1.heap (heap_alloc_new w0 _) HNP.out.1)
    obtain ⟨X, hX⟩ : ∃ X, (((((((x1.setCell ⟨w0.heap.size, 0, none⟩ (.int .i64 r.year)).setCell ⟨w0.heap.size, 1, none⟩ (.int .i64 r.mon)).setCell ⟨w0.heap.size, 2, none⟩ (.int .i64 r.day)).setCell ⟨w0.heap.size, 3, none⟩ (.int .i64 r.hour)).setCell ⟨w0.heap.size, 4, none⟩ (.int .i64 r.min)).setCell ⟨w0.heap.size, 5, none⟩ (.int .i64 r.sec)).setCell ⟨w0.heap.size, 6, none⟩ (.int .i64 0)) = X := ⟨_, rfl⟩
    rw [hX] at hwr hsp
    rw [hX]
    have hs1' : Spares (fun b => b = w.heap.size) w0 x1 := (((Spares.refl (fun b => b = w.heap.size) w0).alloc _).drew).trans hs1
    have hcX : CalAt X w.heap.size := cal_other hc1 (hs1.heap (heap_alloc_new w0 _) HNP.out.1) HNP.out.1 hsp
    have htX : Tabs X w.heap.size := tabs_other (HTN.out.spares hs1') HNP.out.2 hsp
    have hbX : Below w.heap.size w X := (HS0.out.below0.trans (hs1'.below HNP.out.2 (fun j hj e => by omega))).trans (hsp.below (Nat.le_trans HNP.out.2 hs1'.size) (fun j hj e => by have := HNP.out.2; omega))
    have hq := hwr
    have hql := HNP.out.2
    have hqn := HNP.out.1
    obtain ⟨q, hqe⟩ : ∃ q, w0.heap.size = q := ⟨_, rfl⟩
    rw [hqe] at hq hql hqn
    rw [hqe]
    clear hqe hX hs1 hs1' hc1 hwr hsp k0 k1 k2 k3 k4 k5 k6 l0 l1 l2 l3 l4 l5 l6
    have HBX := Lib.hid hbX
    have c0 : X.cell? ⟨q, 0, none⟩ = some (.int .i64 r.year) := by rw [Lib.cell_of_heap hq]; rfl
    have c1 : X.cell? ⟨q, 1, none⟩ = some (.int .i64 r.mon) := by rw [Lib.cell_of_heap hq]; rfl
    have c2 : X.cell? ⟨q, 2, none⟩ = some (.int .i64 r.day) := by rw [Lib.cell_of_heap hq]; rfl
    have c3 : X.cell? ⟨q, 3, none⟩ = some (.int .i64 r.hour) := by rw [Lib.cell_of_heap hq]; rfl
    have c4 : X.cell? ⟨q, 4, none⟩ = some (.int .i64 r.min) := by rw [Lib.cell_of_heap hq]; rfl
    have c5 : X.cell? ⟨q, 5, none⟩ = some (.int .i64 r.sec) := by rw [Lib.cell_of_heap hq]; rfl
    have c6 : X.cell? ⟨q, 6, none⟩ = some (.int .i64 0) := by rw [Lib.cell_of_heap hq]; rfl
    have CX := Lib.hid (HCC.out X hcX htX)
    clear hq hcX htX hbX hqn hql
    go_wp2_with fail
    refine CX.out.mono ?_
    rintro e x2 ⟨rfl, hs2⟩
    have HF := Lib.hid (HBX.out.trans (hs2.below HBX.out.size (fun j hj e => by omega)))
    clear hs2
    go_wp2
    go_ret2
    exact ⟨rfl, HF.out⟩
end Go.Proofs.YtkbcklaloblmeaaGreatDoor
namespace Go.Proofs.YtkbcklaloblmeaaGreatDoor
open Go.RowKit DateMath

set_option maxRecDepth 100000 in
set_option maxHeartbeats 16000000 in
theorem parse_long (s : ByteArray) (w : World) (h1 : TabP w) (h2 : TabS w) (k : Nat) (hk6 : 6 ≤ k) (hkb : k ≤ 140737488351232) (hl : s.size = k + 24) (hk : Lib.indexByte s.data.toList 44 = (k : Int)) :
    Calls Tryz.prog 28 #[.string s] w (ParseDPost s.data.toList w) := by
  obtain ⟨w0, hw0⟩ : ∃ w0, w.alloc (.cells cal0 96) = w0 := ⟨_, rfl⟩
  have hcn := cal_new w
  have htn := tabs_new h1 h2
  have hs0 : Spares nowhere w (w.alloc (.cells cal0 96)) := (Spares.refl _ _).alloc _
  rw [hw0] at hcn htn hs0
  have hll : s.data.toList.length = k + 24 := by simpa using hl
  have x1 : (s.extract (k + 2) (k + 4)).data.toList = sl s.data.toList (k + 2) (k + 4) := by rw [Lib.extract_data]; rfl
  have x2 : (s.extract (k + 5) (k + 8)).data.toList = sl s.data.toList (k + 5) (k + 8) := by rw [Lib.extract_data]; rfl
  have x3 : (s.extract (k + 9) (k + 11)).data.toList = sl s.data.toList (k + 9) (k + 11) := by rw [Lib.extract_data]; rfl
  have x4 : (s.extract (k + 12) (k + 20)).data.toList = sl s.data.toList (k + 12) (k + 20) := by rw [Lib.extract_data]; rfl
  obtain ⟨d, hd⟩ : ∃ x, s.extract (k + 2) (k + 4) = x := ⟨_, rfl⟩
  obtain ⟨mo, hmo⟩ : ∃ x, s.extract (k + 5) (k + 8) = x := ⟨_, rfl⟩
  obtain ⟨y, hy⟩ : ∃ x, s.extract (k + 9) (k + 11) = x := ⟨_, rfl⟩
  obtain ⟨c, hc⟩ : ∃ x, s.extract (k + 12) (k + 20) = x := ⟨_, rfl⟩
  have zd : d.size ≤ 100 := by rw [← hd, ByteArray.size_extract]; omega
  have zmo : mo.size ≤ 100 := by rw [← hmo, ByteArray.size_extract]; omega
  have zy : y.size ≤ 100 := by rw [← hy, ByteArray.size_extract]; omega
  have zc : c.size = 8 := by rw [← hc, ByteArray.size_extract]; omega
  rw [hd] at x1
  rw [hmo] at x2
  rw [hy] at x3
  rw [hc] at x4
  have CR := fun x (hx : Spares nowhere w0 x) => read_any d mo y c w.heap.size x (CalIs.spares hcn hx (fun h => h)) (htn.below hx.below0) zd zmo zy zc
  have hchk := check_long s.data.toList k hk6 hk hll _ rfl
  rw [x1, x2, x3, x4] at CR
  obtain ⟨r, hr⟩ : ∃ r, rawOf (sl s.data.toList (k + 2) (k + 4)) (sl s.data.toList (k + 5) (k + 8)) (sl s.data.toList (k + 9) (k + 11)) (sl s.data.toList (k + 12) (k + 20)) = r := ⟨_, rfl⟩
  have hrl := raw_le (sl s.data.toList (k + 2) (k + 4)) (sl s.data.toList (k + 5) (k + 8)) (sl s.data.toList (k + 9) (k + 11)) (sl s.data.toList (k + 12) (k + 20))
  have hy99 : (rawOf (sl s.data.toList (k + 2) (k + 4)) (sl s.data.toList (k + 5) (k + 8)) (sl s.data.toList (k + 9) (k + 11)) (sl s.data.toList (k + 12) (k + 20))).year ≤ 99 := by
    show (numF (sl s.data.toList (k + 9) (k + 11)) 4).getD 0 ≤ 99
    apply val_two
    unfold sl
    rw [List.length_take, List.length_drop]
    omega
  rw [hr] at CR hchk hrl hy99
  have CC := fun x (hc : CalAt x w.heap.size) (ht : Tabs x w.heap.size) => checked_any 55 longT r (yearL r.year) s w.heap.size x hc ht (by unfold yearL; split <;> omega) hrl.2.1 hrl.2.2.1 hrl.2.2.2.1 hrl.2.2.2.2.1 hrl.2.2.2.2.2 ent_long (fun m x hm hc ht => long_any m w.heap.size x hm (.inr hc) ht)
  rw [hchk] at CC
  unfold momC at CC
  unfold ReadPost momC at CR
  have HCR := Lib.hid CR
  have HK := Lib.hid hk
  have HW0 := Lib.hid hw0
  have HTN := Lib.hid htn
  have HS0 := Lib.hid hs0
  have HCC := Lib.hid CC
  clear hchk CR CC hk hw0 htn hs0 hcn x1 x2 x3 x4 hll zd zmo zy zc hr hrl h1 h2
  have HNP : Hid (w0.heap.size ≠ w.heap.size ∧ w.heap.size ≤ w0.heap.size) := Lib.hid (by rw [← HW0.out]; simp)
  unfold ParseDPost
  go_enter Tryz.func28, Tryz.ntmps28
  go_wp2_with fail
  change Calls _ _ _ (w.alloc (.cells cal0 96)) _
  rw [HW0.out]
  refine (Tryz.strings_IndexByte _ _ _).mono ?_
  rintro e w' ⟨rfl, hw'⟩
  rw [show ((44 : Int)).toNat.toUInt8 = 44 from rfl, HK.out]
  replace hw' := hw'.symm
  subst hw'
  have e3 : ((k : Int) == 3) = false := by simpa using (by omega : ¬ (k : Int) = 3)
  have e6 : decide (6 ≤ (k : Int)) = true := decide_eq_true (by omega)
  have e24 : (((s.size : Nat) : Int) == (k : Int) + 24) = true := by rw [hl]; simp
  have e29 : (((s.size : Nat) : Int) == 29) = true ∨ (((s.size : Nat) : Int) == 29) = false := by cases (((s.size : Nat) : Int) == 29) <;> simp
  have hla : k + 24 ≤ s.size := by omega
  have hlb : s.size ≤ k + 24 := by omega
  have HLL := Lib.hid hl
  clear hl
  rcases e29 with e29 | e29
  all_goals
    go_wp2
    have n2 : ((k : Int) + 2).toNat = k + 2 := by omega
    have p2 : 0 ≤ (k : Int) + 2 := by omega
    have n4 : ((k : Int) + 4).toNat = k + 4 := by omega
    have p4 : 0 ≤ (k : Int) + 4 := by omega
    have n5 : ((k : Int) + 5).toNat = k + 5 := by omega
    have p5 : 0 ≤ (k : Int) + 5 := by omega
    have n8 : ((k : Int) + 8).toNat = k + 8 := by omega
    have p8 : 0 ≤ (k : Int) + 8 := by omega
    have n9 : ((k : Int) + 9).toNat = k + 9 := by omega
    have p9 : 0 ≤ (k : Int) + 9 := by omega
    have n11 : ((k : Int) + 11).toNat = k + 11 := by omega
    have p11 : 0 ≤ (k : Int) + 11 := by omega
    have n12 : ((k : Int) + 12).toNat = k + 12 := by omega
    have p12 : 0 ≤ (k : Int) + 12 := by omega
    have n20 : ((k : Int) + 20).toNat = k + 20 := by omega
    have p20 : 0 ≤ (k : Int) + 20 := by omega
    have b4 : (k : Int) + 4 ≤ (s.size : Int) := by omega
    have a4 : (k : Int) + 2 ≤ (k : Int) + 4 := by omega
    have b8 : (k : Int) + 8 ≤ (s.size : Int) := by omega
    have a8 : (k : Int) + 5 ≤ (k : Int) + 8 := by omega
    have b11 : (k : Int) + 11 ≤ (s.size : Int) := by omega
    have a11 : (k : Int) + 9 ≤ (k : Int) + 11 := by omega
    have b20 : (k : Int) + 20 ≤ (s.size : Int) := by omega
    have a20 : (k : Int) + 12 ≤ (k : Int) + 20 := by omega
    have q2 : IntKind.i64.wrap ((k : Int) + 2) = (k : Int) + 2 := wrap_k k 2 hkb (by decide)
    have q4 : IntKind.i64.wrap ((k : Int) + 4) = (k : Int) + 4 := wrap_k k 4 hkb (by decide)
    have q5 : IntKind.i64.wrap ((k : Int) + 5) = (k : Int) + 5 := wrap_k k 5 hkb (by decide)
    have q8 : IntKind.i64.wrap ((k : Int) + 8) = (k : Int) + 8 := wrap_k k 8 hkb (by decide)
    have q9 : IntKind.i64.wrap ((k : Int) + 9) = (k : Int) + 9 := wrap_k k 9 hkb (by decide)
    have q11 : IntKind.i64.wrap ((k : Int) + 11) = (k : Int) + 11 := wrap_k k 11 hkb (by decide)
    have q12 : IntKind.i64.wrap ((k : Int) + 12) = (k : Int) + 12 := wrap_k k 12 hkb (by decide)
    have q20 : IntKind.i64.wrap ((k : Int) + 20) = (k : Int) + 20 := wrap_k k 20 hkb (by decide)
    go_region_held3 (fun _ => True) (exact trivial) (first
      | (go_simp
         go_at_call 53
         (with_reducible refine Calls.mono (HCR.out _ (Spares.drew (Spares.refl _ _))) ?_)
         rintro e x1 ⟨rfl, hc1, hs1⟩)
      | (go_simp
         go_at_call 53
         (with_reducible refine Calls.mono (HCR.out _ (Spares.drew (Spares.alloc (Spares.refl _ _) _))) ?_)
         rintro e x1 ⟨rfl, hc1, hs1⟩
         obtain ⟨⟨k0, k1, k2, k3, k4, k5, k6⟩, l0, l1, l2, l3, l4, l5, l6⟩ := mom_zero hs1 HNP.out.1
         )
      | fail)
    · clear b4 b8 b11 b20 a4 a8 a11 a20 n2 n4 n5 n8 n9 n11 n12 n20 p2 p4 p5 p8 p9 p11 p12 p20 q2 q4 q5 q8 q9 q11 q12 q20
      obtain ⟨X, hX⟩ : ∃ X, x1.alloc (.cells #[.int .i64 r.year, .int .i64 r.mon, .int .i64 r.day, .int .i64 r.hour, .int .i64 r.min, .int .i64 r.sec, .int .i64 0] 99) = X := ⟨_, rfl⟩
      rw [hX]
      have hs1' : Spares (fun b => b = w.heap.size) w0 x1 := ((Spares.refl (fun b => b = w.heap.size) w0).drew).trans hs1
      have hsX : Spares (fun b => b = w.heap.size) w0 X := by rw [← hX]; exact hs1'.alloc _
      have hcX : CalAt X w.heap.size := hc1.below (by rw [← hX]; exact (Below.refl _ _).alloc (Nat.le_refl _) _)
      have htX := HTN.out.spares hsX
      have hbX : Below w.heap.size w X := HS0.out.below0.trans (hsX.below HNP.out.2 (fun j hj e => by omega))
      have hq : X.heap[x1.heap.size]? = some (.cells (momC r.year r.mon r.day r.hour r.min r.sec 0) 99 (0, 0)) := by rw [← hX]; exact heap_alloc_new x1 _
      have hql : w.heap.size ≤ x1.heap.size := Nat.le_trans HNP.out.2 hs1'.size
      have hqn : x1.heap.size ≠ w.heap.size := fun e => by have := hs1'.size; have := HNP.out; omega
      obtain ⟨q, hqe⟩ : ∃ q, x1.heap.size = q := ⟨_, rfl⟩
      rw [hqe] at hq hql hqn
      rw [hqe]
      clear hqe hX hs1 hs1' hsX hc1
      have HBX := Lib.hid hbX
      have c0 : X.cell? ⟨q, 0, none⟩ = some (.int .i64 r.year) := by rw [Lib.cell_of_heap hq]; rfl
      have c1 : X.cell? ⟨q, 1, none⟩ = some (.int .i64 r.mon) := by rw [Lib.cell_of_heap hq]; rfl
      have c2 : X.cell? ⟨q, 2, none⟩ = some (.int .i64 r.day) := by rw [Lib.cell_of_heap hq]; rfl
      have c3 : X.cell? ⟨q, 3, none⟩ = some (.int .i64 r.hour) := by rw [Lib.cell_of_heap hq]; rfl
      have c4 : X.cell? ⟨q, 4, none⟩ = some (.int .i64 r.min) := by rw [Lib.cell_of_heap hq]; rfl
      have c5 : X.cell? ⟨q, 5, none⟩ = some (.int .i64 r.sec) := by rw [Lib.cell_of_heap hq]; rfl
      have c6 : X.cell? ⟨q, 6, none⟩ = some (.int .i64 0) := by rw [Lib.cell_of_heap hq]; rfl
      have z0 := Lib.frozen_of_heap hq 0
      have hqX : q < X.heap.size := (Array.getElem?_eq_some_iff.1 hq).1
      have CX := Lib.hid (fun X' (hx : Spares (fun b => b = q) X X') => HCC.out X' (cal_other hcX hq hqn hx) (tabs_other htX hql hx))
      have HBE := Lib.hid (fun X' (hx : Spares (fun b => b = q) X X') => HBX.out.trans (hx.below HBX.out.size (fun j hj e => by omega)))
      clear hq hcX htX hbX hqn
      by_cases hy : r.year + 1900 < 1970
      · have hyl : ((yearL r.year : Nat) : Int) = (r.year : Int) + 1900 + 100 := by unfold yearL; rw [if_pos hy]; omega
        have cx := CX.out
        rw [hyl] at cx
        replace CX := Lib.hid cx
        have i1 : (r.year : Int) + 1900 < 1970 := by omega
        have hsx : Spares (fun b => b = q) X ((X.setCell ⟨q, 0, none⟩ (.int .i64 ((r.year : Int) + 1900))).setCell ⟨q, 0, none⟩ (.int .i64 ((r.year : Int) + 1900 + 100))) := spares_setD (spares_setD (Spares.refl _ _) 0 _) 0 _
        have hsy : Spares (fun b => b = q) X (X.setCell ⟨q, 0, none⟩ (.int .i64 ((r.year : Int) + 1900 + 100))) := spares_setD (Spares.refl _ _) 0 _
        have HSX := Lib.hid hsx
        have HSY := Lib.hid hsy
        clear hyl cx hsx hsy hy
        go_wp2_with fail
        first
          | (refine (CX.out _ HSX.out).mono ?_
             rintro e x2 ⟨rfl, hs2⟩
             have hbe := HBE.out _ HSX.out
             have HF := Lib.hid (hbe.trans (hs2.below hbe.size (fun j hj e => by omega)))
             clear hs2 hbe)
          | (refine (CX.out _ HSY.out).mono ?_
             rintro e x2 ⟨rfl, hs2⟩
             have hbe := HBE.out _ HSY.out
             have HF := Lib.hid (hbe.trans (hs2.below hbe.size (fun j hj e => by omega)))
             clear hs2 hbe)
        go_wp2
        go_ret2
        exact ⟨rfl, HF.out⟩
      · have hyl : ((yearL r.year : Nat) : Int) = (r.year : Int) + 1900 := by unfold yearL; rw [if_neg hy]; omega
        have cx := CX.out
        rw [hyl] at cx
        replace CX := Lib.hid cx
        have i1 : ¬ (r.year : Int) + 1900 < 1970 := by omega
        have hsx : Spares (fun b => b = q) X (X.setCell ⟨q, 0, none⟩ (.int .i64 ((r.year : Int) + 1900))) := spares_setD (Spares.refl _ _) 0 _
        have HSX := Lib.hid hsx
        clear hyl cx hsx hy
        go_wp2_with fail
        refine (CX.out _ HSX.out).mono ?_
        rintro e x2 ⟨rfl, hs2⟩
        have hbe := HBE.out _ HSX.out
        have HF := Lib.hid (hbe.trans (hs2.below hbe.size (fun j hj e => by omega)))
        clear hs2 hbe
        go_wp2
        go_ret2
        exact ⟨rfl, HF.out⟩
    all_goals
      clear b4 b8 b11 b20 a4 a8 a11 a20 n2 n4 n5 n8 n9 n11 n12 n20 p2 p4 p5 p8 p9 p11 p12 p20 q2 q4 q5 q8 q9 q11 q12 q20
      obtain ⟨hwr, hsp⟩ := mom_written' (yn := r.year) (mk := r.mon) (dn := r.day) (hn := r.hour) (mn := r.min) (sn := r.sec) (hs1.heap (heap_alloc_new w0 _) HNP.out.1)
      obtain ⟨X, hX⟩ : ∃ X, (((((((x1.setCell ⟨w0.heap.size, 0, none⟩ (.int .i64 r.year)).setCell ⟨w0.heap.size, 1, none⟩ (.int .i64 r.mon)).setCell ⟨w0.heap.size, 2, none⟩ (.int .i64 r.day)).setCell ⟨w0.heap.size, 3, none⟩ (.int .i64 r.hour)).setCell ⟨w0.heap.size, 4, none⟩ (.int .i64 r.min)).setCell ⟨w0.heap.size, 5, none⟩ (.int .i64 r.sec)).setCell ⟨w0.heap.size, 6, none⟩ (.int .i64 0)) = X := ⟨_, rfl⟩
      rw [hX] at hwr hsp
      rw [hX]
      have hs1' : Spares (fun b => b = w.heap.size) w0 x1 := (((Spares.refl (fun b => b = w.heap.size) w0).alloc _).drew).trans hs1
      have hcX : CalAt X w.heap.size := cal_other hc1 (hs1.heap (heap_alloc_new w0 _) HNP.out.1) HNP.out.1 hsp
      have htX : Tabs X w.heap.size := tabs_other (HTN.out.spares hs1') HNP.out.2 hsp
      have hbX : Below w.heap.size w X := (HS0.out.below0.trans (hs1'.below HNP.out.2 (fun j hj e => by omega))).trans (hsp.below (Nat.le_trans HNP.out.2 hs1'.size) (fun j hj e => by have := HNP.out.2; omega))
      have hq := hwr
      have hql := HNP.out.2
      have hqn := HNP.out.1
      obtain ⟨q, hqe⟩ : ∃ q, w0.heap.size = q := ⟨_, rfl⟩
      rw [hqe] at hq hql hqn
      rw [hqe]
      clear hqe hX hs1 hs1' hc1 hwr hsp k0 k1 k2 k3 k4 k5 k6 l0 l1 l2 l3 l4 l5 l6
      have HBX := Lib.hid hbX
      have c0 : X.cell? ⟨q, 0, none⟩ = some (.int .i64 r.year) := by rw [Lib.cell_of_heap hq]; rfl
      have c1 : X.cell? ⟨q, 1, none⟩ = some (.int .i64 r.mon) := by rw [Lib.cell_of_heap hq]; rfl
      have c2 : X.cell? ⟨q, 2, none⟩ = some (.int .i64 r.day) := by rw [Lib.cell_of_heap hq]; rfl
      have c3 : X.cell? ⟨q, 3, none⟩ = some (.int .i64 r.hour) := by rw [Lib.cell_of_heap hq]; rfl
      have c4 : X.cell? ⟨q, 4, none⟩ = some (.int .i64 r.min) := by rw [Lib.cell_of_heap hq]; rfl
      have c5 : X.cell? ⟨q, 5, none⟩ = some (.int .i64 r.sec) := by rw [Lib.cell_of_heap hq]; rfl
      have c6 : X.cell? ⟨q, 6, none⟩ = some (.int .i64 0) := by rw [Lib.cell_of_heap hq]; rfl
      have z0 := Lib.frozen_of_heap hq 0
      have hqX : q < X.heap.size := (Array.getElem?_eq_some_iff.1 hq).1
      have CX := Lib.hid (fun X' (hx : Spares (fun b => b = q) X X') => HCC.out X' (cal_other hcX hq hqn hx) (tabs_other htX hql hx))
      have HBE := Lib.hid (fun X' (hx : Spares (fun b => b = q) X X') => HBX.out.trans (hx.below HBX.out.size (fun j hj e => by omega)))
      clear hq hcX htX hbX hqn
      by_cases hy : r.year + 1900 < 1970
      · have hyl : ((yearL r.year : Nat) : Int) = (r.year : Int) + 1900 + 100 := by unfold yearL; rw [if_pos hy]; omega
        have cx := CX.out
        rw [hyl] at cx
        replace CX := Lib.hid cx
        have i1 : (r.year : Int) + 1900 < 1970 := by omega
        have hsx : Spares (fun b => b = q) X ((X.setCell ⟨q, 0, none⟩ (.int .i64 ((r.year : Int) + 1900))).setCell ⟨q, 0, none⟩ (.int .i64 ((r.year : Int) + 1900 + 100))) := spares_setD (spares_setD (Spares.refl _ _) 0 _) 0 _
        have hsy : Spares (fun b => b = q) X (X.setCell ⟨q, 0, none⟩ (.int .i64 ((r.year : Int) + 1900 + 100))) := spares_setD (Spares.refl _ _) 0 _
        have HSX := Lib.hid hsx
        have HSY := Lib.hid hsy
        clear hyl cx hsx hsy hy
        go_wp2_with fail
        first
          | (refine (CX.out _ HSX.out).mono ?_
             rintro e x2 ⟨rfl, hs2⟩
             have hbe := HBE.out _ HSX.out
             have HF := Lib.hid (hbe.trans (hs2.below hbe.size (fun j hj e => by omega)))
             clear hs2 hbe)
          | (refine (CX.out _ HSY.out).mono ?_
             rintro e x2 ⟨rfl, hs2⟩
             have hbe := HBE.out _ HSY.out
             have HF := Lib.hid (hbe.trans (hs2.below hbe.size (fun j hj e => by omega)))
             clear hs2 hbe)
        go_wp2
        go_ret2
        exact ⟨rfl, HF.out⟩
      · have hyl : ((yearL r.year : Nat) : Int) = (r.year : Int) + 1900 := by unfold yearL; rw [if_neg hy]; omega
        have cx := CX.out
        rw [hyl] at cx
        replace CX := Lib.hid cx
        have i1 : ¬ (r.year : Int) + 1900 < 1970 := by omega
        have hsx : Spares (fun b => b = q) X (X.setCell ⟨q, 0, none⟩ (.int .i64 ((r.year : Int) + 1900))) := spares_setD (Spares.refl _ _) 0 _
        have HSX := Lib.hid hsx
        clear hyl cx hsx hy
        go_wp2_with fail
        refine (CX.out _ HSX.out).mono ?_
        rintro e x2 ⟨rfl, hs2⟩
        have hbe := HBE.out _ HSX.out
        have HF := Lib.hid (hbe.trans (hs2.below hbe.size (fun j hj e => by omega)))
        clear hs2 hbe
        go_wp2
        go_ret2
        exact ⟨rfl, HF.out⟩
end Go.Proofs.YtkbcklaloblmeaaGreatDoor
namespace Go.Proofs.YtkbcklaloblmeaaGreatDoor
open Go.RowKit DateMath

theorem trim_sp (l : Bs) : (⟨(Lib.trimPrefix l (⟨#[32]⟩ : ByteArray).data.toList).toArray⟩ : ByteArray).data.toList = noSp l := by
  show Lib.trimPrefix l [32] = noSp l
  unfold Lib.trimPrefix noSp
  cases l with
  | nil => rfl
  | cons a l =>
    by_cases h : a = 32
    · subst h; simp [Lib.hasPrefix]
    · have h' : ¬ (32 : UInt8) = a := fun e => h e.symm
      simp [h, h', Lib.hasPrefix]
theorem trim_sp_len (l : Bs) : (noSp l).length ≤ l.length := by
  unfold noSp
  split <;> simp
set_option maxRecDepth 100000 in
set_option maxHeartbeats 16000000 in
theorem parse_old (s : ByteArray) (w : World) (h1 : TabP w) (h2 : TabS w) (hl : s.size = 24) (hk : Lib.indexByte s.data.toList 44 = -1) :
    Calls Tryz.prog 28 #[.string s] w (ParseDPost s.data.toList w) := by
  obtain ⟨w0, hw0⟩ : ∃ w0, w.alloc (.cells cal0 96) = w0 := ⟨_, rfl⟩
  have hcn := cal_new w
  have htn := tabs_new h1 h2
  have hs0 : Spares nowhere w (w.alloc (.cells cal0 96)) := (Spares.refl _ _).alloc _
  rw [hw0] at hcn htn hs0
  have hll : s.data.toList.length = 24 := by simpa using hl
  have x1 : (s.extract 8 10).data.toList = sl s.data.toList 8 10 := by rw [Lib.extract_data]; rfl
  have x2 : (s.extract 4 7).data.toList = sl s.data.toList 4 7 := by rw [Lib.extract_data]; rfl
  have x3 : (s.extract 20 24).data.toList = sl s.data.toList 20 24 := by rw [Lib.extract_data]; rfl
  have x4 : (s.extract 11 19).data.toList = sl s.data.toList 11 19 := by rw [Lib.extract_data]; rfl
  obtain ⟨d, hd⟩ : ∃ x, s.extract 8 10 = x := ⟨_, rfl⟩
  obtain ⟨mo, hmo⟩ : ∃ x, s.extract 4 7 = x := ⟨_, rfl⟩
  obtain ⟨y, hy⟩ : ∃ x, s.extract 20 24 = x := ⟨_, rfl⟩
  obtain ⟨c, hc⟩ : ∃ x, s.extract 11 19 = x := ⟨_, rfl⟩
  have zd : d.size ≤ 100 := by rw [← hd, ByteArray.size_extract]; omega
  have zmo : mo.size ≤ 100 := by rw [← hmo, ByteArray.size_extract]; omega
  have zy : y.size ≤ 100 := by rw [← hy, ByteArray.size_extract]; omega
  have zc : c.size = 8 := by rw [← hc, ByteArray.size_extract]; omega
  rw [hd] at x1
  rw [hmo] at x2
  rw [hy] at x3
  rw [hc] at x4
  have htp := fun x => Tryz.strings_TrimPrefix d ⟨#[32]⟩ x
  obtain ⟨D, hD⟩ : ∃ D : ByteArray, ⟨(Lib.trimPrefix d.data.toList (⟨#[32]⟩ : ByteArray).data.toList).toArray⟩ = D := ⟨_, rfl⟩
  rw [hD] at htp
  have hDl : D.data.toList = noSp (sl s.data.toList 8 10) := by
    rw [← hD, ← x1]
    exact trim_sp _
  have zD : D.size ≤ 100 := by
    have h := trim_sp_len d.data.toList
    rw [← x1] at hDl
    have e : D.data.toList.length = D.size := by simp
    have e2 : d.data.toList.length = d.size := by simp
    rw [hDl] at e
    omega
  have HTP := Lib.hid htp
  clear htp hD
  have CR := fun x (hx : Spares nowhere w0 x) => read_any D mo y c w.heap.size x (CalIs.spares hcn hx (fun h => h)) (htn.below hx.below0) zD zmo zy zc
  have hchk := check_old s.data.toList hll _ rfl
  rw [hDl, x2, x3, x4] at CR
  obtain ⟨r, hr⟩ : ∃ r, rawOf (noSp (sl s.data.toList 8 10)) (sl s.data.toList 4 7) (sl s.data.toList 20 24) (sl s.data.toList 11 19) = r := ⟨_, rfl⟩
  have hrl := raw_le (noSp (sl s.data.toList 8 10)) (sl s.data.toList 4 7) (sl s.data.toList 20 24) (sl s.data.toList 11 19)
  rw [hr] at CR hchk hrl
  have CC := fun x (hc : CalAt x w.heap.size) (ht : Tabs x w.heap.size) => checked_any 57 oldT r r.year s w.heap.size x hc ht hrl.1 hrl.2.1 hrl.2.2.1 hrl.2.2.2.1 hrl.2.2.2.2.1 hrl.2.2.2.2.2 ent_old (fun m x hm hc ht => old_any m w.heap.size x hm (.inr hc) ht)
  rw [hchk] at CC
  unfold momC at CC
  unfold ReadPost momC at CR
  have HCR := Lib.hid CR
  have HK := Lib.hid hk
  have HW0 := Lib.hid hw0
  have HTN := Lib.hid htn
  have HS0 := Lib.hid hs0
  have HCC := Lib.hid CC
  clear hchk CR CC hk hw0 htn hs0 hcn x1 x2 x3 x4 hll zd zmo zy zc hr hrl h1 h2 hDl zD
  have HNP : Hid (w0.heap.size ≠ w.heap.size ∧ w.heap.size ≤ w0.heap.size) := Lib.hid (by rw [← HW0.out]; simp)
  unfold ParseDPost
  go_enter Tryz.func28, Tryz.ntmps28
  go_wp2_with fail
  change Calls _ _ _ (w.alloc (.cells cal0 96)) _
  rw [HW0.out]
  refine (Tryz.strings_IndexByte _ _ _).mono ?_
  rintro e w' ⟨rfl, hw'⟩
  rw [show ((44 : Int)).toNat.toUInt8 = 44 from rfl, HK.out]
  replace hw' := hw'.symm
  subst hw'
  have e29 : (((s.size : Nat) : Int) == 29) = false := by rw [hl]; rfl
  go_wp2
  go_region_held3 (fun _ => True) (exact trivial) (first
    | (go_simp
       go_at_call 56
       (with_reducible refine Calls.mono (HTP.out _) ?_)
       rintro e xt ⟨rfl, rfl⟩)
    | (go_simp
       go_at_call 53
       (with_reducible refine Calls.mono (HCR.out _ (Spares.drew (Spares.refl _ _))) ?_)
       rintro e x1 ⟨rfl, hc1, hs1⟩)
    | (go_simp
       go_at_call 53
       (with_reducible refine Calls.mono (HCR.out _ (Spares.drew (Spares.alloc (Spares.refl _ _) _))) ?_)
       rintro e x1 ⟨rfl, hc1, hs1⟩
       obtain ⟨⟨k0, k1, k2, k3, k4, k5, k6⟩, l0, l1, l2, l3, l4, l5, l6⟩ := mom_zero hs1 HNP.out.1
       )
    | fail)
  · obtain ⟨X, hX⟩ : ∃ X, x1.alloc (.cells #[.int .i64 r.year, .int .i64 r.mon, .int .i64 r.day, .int .i64 r.hour, .int .i64 r.min, .int .i64 r.sec, .int .i64 0] 99) = X := ⟨_, rfl⟩
    rw [hX]
    have hs1' : Spares (fun b => b = w.heap.size) w0 x1 := ((Spares.refl (fun b => b = w.heap.size) w0).drew).trans hs1
    have hsX : Spares (fun b => b = w.heap.size) w0 X := by rw [← hX]; exact hs1'.alloc _
    have hcX : CalAt X w.heap.size := hc1.below (by rw [← hX]; exact (Below.refl _ _).alloc (Nat.le_refl _) _)
    have htX := HTN.out.spares hsX
    have hbX : Below w.heap.size w X := HS0.out.below0.trans (hsX.below HNP.out.2 (fun j hj e => by omega))
    have hq : X.heap[x1.heap.size]? = some (.cells (momC r.year r.mon r.day r.hour r.min r.sec 0) 99 (0, 0)) := by rw [← hX]; exact heap_alloc_new x1 _
    have hql : w.heap.size ≤ x1.heap.size := Nat.le_trans HNP.out.2 hs1'.size
    have hqn : x1.heap.size ≠ w.heap.size := fun e => by have := hs1'.size; have := HNP.out; omega
    obtain ⟨q, hqe⟩ : ∃ q, x1.heap.size = q := ⟨_, rfl⟩
    rw [hqe] at hq hql hqn
    rw [hqe]
    clear hqe hX hs1 hs1' hsX hc1
    have HBX := Lib.hid hbX
    have c0 : X.cell? ⟨q, 0, none⟩ = some (.int .i64 r.year) := by rw [Lib.cell_of_heap hq]; rfl
    have c1 : X.cell? ⟨q, 1, none⟩ = some (.int .i64 r.mon) := by rw [Lib.cell_of_heap hq]; rfl
    have c2 : X.cell? ⟨q, 2, none⟩ = some (.int .i64 r.day) := by rw [Lib.cell_of_heap hq]; rfl
    have c3 : X.cell? ⟨q, 3, none⟩ = some (.int .i64 r.hour) := by rw [Lib.cell_of_heap hq]; rfl
    have c4 : X.cell? ⟨q, 4, none⟩ = some (.int .i64 r.min) := by rw [Lib.cell_of_heap hq]; rfl
    have c5 : X.cell? ⟨q, 5, none⟩ = some (.int .i64 r.sec) := by rw [Lib.cell_of_heap hq]; rfl
    have c6 : X.cell? ⟨q, 6, none⟩ = some (.int .i64 0) := by rw [Lib.cell_of_heap hq]; rfl
    have CX := Lib.hid (HCC.out X hcX htX)
    clear hq hcX htX hbX hqn hql
    go_wp2_with fail
    refine CX.out.mono ?_
    rintro e x2 ⟨rfl, hs2⟩
    have HF := Lib.hid (HBX.out.trans (hs2.below HBX.out.size (fun j hj e => by omega)))
    clear hs2
    go_wp2
    go_ret2
    exact ⟨rfl, HF.out⟩
  all_goals
    obtain ⟨hwr, hsp⟩ := mom_written' (yn := r.year) (mk := r.mon) (dn := r.day) (hn := r.hour) (mn := r.min) (sn := r.sec) (hs1.heap (heap_alloc_new w0 _) HNP.out.1)
    obtain ⟨X, hX⟩ : ∃ X, (((((((x1.setCell ⟨w0.heap.size, 0, none⟩ (.int .i64 r.year)).setCell ⟨w0.heap.size, 1, none⟩ (.int .i64 r.mon)).setCell ⟨w0.heap.size, 2, none⟩ (.int .i64 r.day)).setCell ⟨w0.heap.size, 3, none⟩ (.int .i64 r.hour)).setCell ⟨w0.heap.size, 4, none⟩ (.int .i64 r.min)).setCell ⟨w0.heap.size, 5, none⟩ (.int .i64 r.sec)).setCell ⟨w0.heap.size, 6, none⟩ (.int .i64 0)) = X := ⟨_, rfl⟩
    rw [hX] at hwr hsp
    rw [hX]
    have hs1' : Spares (fun b => b = w.heap.size) w0 x1 := (((Spares.refl (fun b => b = w.heap.size) w0).alloc _).drew).trans hs1
    have hcX : CalAt X w.heap.size := cal_other hc1 (hs1.heap (heap_alloc_new w0 _) HNP.out.1) HNP.out.1 hsp
    have htX : Tabs X w.heap.size := tabs_other (HTN.out.spares hs1') HNP.out.2 hsp
    have hbX : Below w.heap.size w X := (HS0.out.below0.trans (hs1'.below HNP.out.2 (fun j hj e => by omega))).trans (hsp.below (Nat.le_trans HNP.out.2 hs1'.size) (fun j hj e => by have := HNP.out.2; omega))
    have hq := hwr
    have hql := HNP.out.2
    have hqn := HNP.out.1
    obtain ⟨q, hqe⟩ : ∃ q, w0.heap.size = q := ⟨_, rfl⟩
    rw [hqe] at hq hql hqn
    rw [hqe]
    clear hqe hX hs1 hs1' hc1 hwr hsp k0 k1 k2 k3 k4 k5 k6 l0 l1 l2 l3 l4 l5 l6
    have HBX := Lib.hid hbX
    have c0 : X.cell? ⟨q, 0, none⟩ = some (.int .i64 r.year) := by rw [Lib.cell_of_heap hq]; rfl
    have c1 : X.cell? ⟨q, 1, none⟩ = some (.int .i64 r.mon) := by rw [Lib.cell_of_heap hq]; rfl
    have c2 : X.cell? ⟨q, 2, none⟩ = some (.int .i64 r.day) := by rw [Lib.cell_of_heap hq]; rfl
    have c3 : X.cell? ⟨q, 3, none⟩ = some (.int .i64 r.hour) := by rw [Lib.cell_of_heap hq]; rfl
    have c4 : X.cell? ⟨q, 4, none⟩ = some (.int .i64 r.min) := by rw [Lib.cell_of_heap hq]; rfl
    have c5 : X.cell? ⟨q, 5, none⟩ = some (.int .i64 r.sec) := by rw [Lib.cell_of_heap hq]; rfl
    have c6 : X.cell? ⟨q, 6, none⟩ = some (.int .i64 0) := by rw [Lib.cell_of_heap hq]; rfl
    have CX := Lib.hid (HCC.out X hcX htX)
    clear hq hcX htX hbX hqn hql
    go_wp2_with fail
    refine CX.out.mono ?_
    rintro e x2 ⟨rfl, hs2⟩
    have HF := Lib.hid (HBX.out.trans (hs2.below HBX.out.size (fun j hj e => by omega)))
    clear hs2
    go_wp2
    go_ret2
    exact ⟨rfl, HF.out⟩
end Go.Proofs.YtkbcklaloblmeaaGreatDoor
namespace Go.Proofs.YtkbcklaloblmeaaGreatDoor
open Go.RowKit DateMath

def clampN (t : Int) : Nat := (min (max t 0) 253402300799).toNat
theorem clampN_le (t : Int) : clampN t ≤ maxT := by unfold clampN maxT; omega
theorem clampN_int (t : Int) : ((clampN t : Nat) : Int) = min (max t 0) 253402300799 := by unfold clampN; omega
set_option maxRecDepth 100000 in
set_option maxHeartbeats 4000000 in
theorem text_anyD (t : Int) (w : World) (h1 : TabP w) (h2 : TabS w) : Calls Tryz.prog 24 #[.int .i64 t] w fun e w' => e = .returned (.string (arrD (plainT (momOf (clampN t))))) ∧ Below w.heap.size w w' := by
  obtain ⟨w0, hw0⟩ : ∃ w0, w.alloc (.cells cal0 96) = w0 := ⟨_, rfl⟩
  have hcn := cal_new w
  have htn := tabs_new h1 h2
  have hs0 : Spares nowhere w (w.alloc (.cells cal0 96)) := (Spares.refl _ _).alloc _
  rw [hw0] at hcn htn hs0
  have hle := clampN_le t
  have hci := clampN_int t
  obtain ⟨n, hn⟩ : ∃ n, clampN t = n := ⟨_, rfl⟩
  rw [hn] at hle hci ⊢
  have CM := Lib.hid (fun x => moment_any n x hle)
  have CP := Lib.hid (fun x (hx : Spares nowhere w0 x) => plain_any (momOf n) w.heap.size x (mom_ok n hle) (.inl (CalIs.spares hcn hx (fun h => h))) (htn.below hx.below0))
  have HCI : Hid (min (max t 0) 253402300799 = (n : Int)) := Lib.hid hci.symm
  have HW0 := Lib.hid hw0
  have HS0 := Lib.hid hs0
  clear h1 h2 hw0 hcn htn hs0 hle hci hn
  go_enter Tryz.func24, Tryz.ntmps24
  go_wp2_with fail
  change Calls _ _ _ (w.alloc (.cells cal0 96)) _
  rw [HW0.out]
  have hci := HCI.out
  first | rw [hci] | (rw [show (if 253402300799 < (if 0 < t then t else 0) then (253402300799 : Int) else (if 0 < t then t else 0)) = (n : Int) from by rw [← hci]; omega]) | trace_state
  clear hci
  refine (CM.out w0).mono ?_
  rintro e x ⟨rfl, hs1⟩
  have HS1 := Lib.hid hs1
  clear hs1
  go_wp2_with fail
  refine (CP.out x HS1.out).mono ?_
  rintro e u ⟨rfl, _, hs2⟩
  have HF := Lib.hid (HS0.out.below0.trans (((HS1.out.mono (F' := fun b => b = w.heap.size) (fun _ h => by cases h)).trans hs2).below HS0.out.size (fun j hj e => by omega)))
  clear hs2
  go_wp2
  go_ret
  exact ⟨rfl, HF.out⟩
theorem index_up : ∀ (l : Bs) (c : UInt8), Lib.indexByte l c < l.length + 1
  | [], _ => by simp [Lib.indexByte]
  | b :: l, c => by
    have ih := index_up l c
    unfold Lib.indexByte
    rw [List.length_cons]
    split
    · omega
    · split <;> omega
set_option maxRecDepth 100000 in
set_option maxHeartbeats 8000000 in
theorem parse_other (s : ByteArray) (w : World) (hsz : s.size ≤ 140737488351232) (h1 : ¬ (s.size = 29 ∧ Lib.indexByte s.data.toList 44 = 3)) (h2 : ¬ (6 ≤ Lib.indexByte s.data.toList 44 ∧ (s.size : Int) = Lib.indexByte s.data.toList 44 + 24)) (h3 : ¬ (s.size = 24 ∧ Lib.indexByte s.data.toList 44 < 0)) :
    Calls Tryz.prog 28 #[.string s] w (ParseDPost s.data.toList w) := by
  have hll : s.data.toList.length = s.size := by simp
  have HR : Hid (readF s.data.toList = (0, 80)) := Lib.hid (read_other _ (by rw [hll]; exact h1) (by rw [hll]; exact h2) (by rw [hll]; exact h3))
  have hge := Lib.indexByte_ge s.data.toList 44
  have hup : Lib.indexByte s.data.toList 44 < s.size + 1 := by rw [← hll]; exact index_up _ _
  obtain ⟨K, hK⟩ : ∃ K, Lib.indexByte s.data.toList 44 = K := ⟨_, rfl⟩
  rw [hK] at h1 h2 h3 hge hup
  have HK := Lib.hid hK
  have a1 : (((s.size : Nat) : Int) == 29) = true → (K == 3) = false := fun h => by
    have : (s.size : Int) = 29 := by simpa using h
    simpa using (fun e => h1 ⟨by omega, e⟩)
  have a3 : (((s.size : Nat) : Int) == 24) = true → decide (K < 0) = false := fun h => by
    have : (s.size : Int) = 24 := by simpa using h
    exact decide_eq_false (fun e => h3 ⟨by omega, e⟩)
  have a2 : decide (6 ≤ K) = true → (((s.size : Nat) : Int) == K + 24) = false := fun h => by
    have : 6 ≤ K := of_decide_eq_true h
    simpa using (fun e => h2 ⟨this, e⟩)
  have HA1 := Lib.hid a1
  have HA2 := Lib.hid a2
  have HA3 := Lib.hid a3
  unfold ParseDPost
  clear hK h1 h2 h3 hll a1 a2 a3
  obtain ⟨b1, hb1⟩ : ∃ b, (((s.size : Nat) : Int) == 29) = b := ⟨_, rfl⟩
  obtain ⟨b2, hb2⟩ : ∃ b, decide (6 ≤ K) = b := ⟨_, rfl⟩
  obtain ⟨b3, hb3⟩ : ∃ b, (((s.size : Nat) : Int) == 24) = b := ⟨_, rfl⟩
  rw [hb1] at HA1
  rw [hb2] at HA2
  rw [hb3] at HA3
  cases b1 <;> cases b2 <;> cases b3
  all_goals
    first | have e1 := HA1.out rfl | skip
    first | have e2 := HA2.out rfl | skip
    first | have e3 := HA3.out rfl | skip
    clear HA1 HA2 HA3
    go_enter Tryz.func28, Tryz.ntmps28
    go_wp2_with fail
    refine (Tryz.strings_IndexByte _ _ _).mono ?_
    rintro e w' ⟨rfl, hw'⟩
    rw [show ((44 : Int)).toNat.toUInt8 = 44 from rfl, HK.out]
    replace hw' := hw'.symm
    subst hw'
    go_wp2
    go_ret2
    exact ⟨by rw [HR.out]; rfl, (Below.refl _ _).alloc (Nat.le_refl _) _⟩
theorem parse_anyD (s : ByteArray) (w : World) (h1 : TabP w) (h2 : TabS w) (hs : s.size ≤ 140737488351232) : Calls Tryz.prog 28 #[.string s] w (ParseDPost s.data.toList w) := by
  by_cases a : s.size = 29 ∧ Lib.indexByte s.data.toList 44 = 3
  · exact parse_plain s w h1 h2 a.1 a.2
  by_cases b : 6 ≤ Lib.indexByte s.data.toList 44 ∧ (s.size : Int) = Lib.indexByte s.data.toList 44 + 24
  · obtain ⟨k, hk⟩ : ∃ k : Nat, Lib.indexByte s.data.toList 44 = k := ⟨(Lib.indexByte s.data.toList 44).toNat, by omega⟩
    rw [hk] at b
    exact parse_long s w h1 h2 k (by omega) (by omega) (by omega) hk
  by_cases c : s.size = 24 ∧ Lib.indexByte s.data.toList 44 < 0
  · have := Lib.indexByte_ge s.data.toList 44
    exact parse_old s w h1 h2 c.1 (by omega)
  exact parse_other s w hs a b c
end Go.Proofs.YtkbcklaloblmeaaGreatDoor
namespace Go.Proofs.YtkbcklaloblmeaaGreatDoor
open Go.RowKit DateMath

set_option maxRecDepth 100000 in
set_option maxHeartbeats 4000000 in
theorem leap_any (y : Nat) (w : World) (hy : y ≤ 100000) : Calls Tryz.prog 77 #[.int .i64 y] w fun e w' => e = .returned (.bool (leapB y)) ∧ w' = w := by
  have hb : leapB y = (y % 4 == 0 && (y % 100 != 0 || y % 400 == 0)) := rfl
  by_cases h4 : y % 4 = 0
  · have a4 : ((y : Int) % 4 == 0) = true := by simpa using (by omega : (y : Int) % 4 = 0)
    by_cases h100 : y % 100 = 0
    · have a100 : ((y : Int) % 100 != 0) = false := by simpa using (by omega : (y : Int) % 100 = 0)
      by_cases h400 : y % 400 = 0
      · have a400 : ((y : Int) % 400 == 0) = true := by simpa using (by omega : (y : Int) % 400 = 0)
        have HB : Hid (leapB y = true) := Lib.hid (by rw [hb]; simp [h4, h400])
        clear hb h4 h100 h400
        go_enter Tryz.func77, Tryz.ntmps77
        go_wp2
        go_ret
        exact ⟨by rw [HB.out]; rfl, rfl⟩
      · have a400 : ((y : Int) % 400 == 0) = false := by simpa using (by omega : ¬ (y : Int) % 400 = 0)
        have HB : Hid (leapB y = false) := Lib.hid (by rw [hb]; simp [h100, h400])
        clear hb h4 h100 h400
        go_enter Tryz.func77, Tryz.ntmps77
        go_wp2
        go_ret
        exact ⟨by rw [HB.out]; rfl, rfl⟩
    · have a100 : ((y : Int) % 100 != 0) = true := by simpa using (by omega : ¬ (y : Int) % 100 = 0)
      have HB : Hid (leapB y = true) := Lib.hid (by rw [hb]; simp [h4, h100])
      clear hb h4 h100
      go_enter Tryz.func77, Tryz.ntmps77
      go_wp2
      go_ret
      exact ⟨by rw [HB.out]; rfl, rfl⟩
  · have a4 : ((y : Int) % 4 == 0) = false := by simpa using (by omega : ¬ (y : Int) % 4 = 0)
    have HB : Hid (leapB y = false) := Lib.hid (by rw [hb]; simp [h4])
    clear hb h4
    go_enter Tryz.func77, Tryz.ntmps77
    go_wp2
    go_ret
    exact ⟨by rw [HB.out]; rfl, rfl⟩
set_option maxRecDepth 100000 in
set_option maxHeartbeats 4000000 in
theorem length_any (y m : Nat) (w : World) (hy : y ≤ 100000) (hm : m ≤ 11) : Calls Tryz.prog 48 #[.int .i64 y, .int .i64 ((m + 1 : Nat) : Int)] w fun e w' => e = .returned (.int .i64 (lenN y m)) ∧ Below w.heap.size w w' := by
  have CL := Lib.hid (leap_any y w hy)
  have hl : leapN y = if leapB y then 1 else 0 := rfl
  obtain ⟨b, hb⟩ : ∃ b, leapB y = b := ⟨_, rfl⟩
  rw [hb] at CL hl
  have hlen : lenN y 1 = 28 + leapN y := rfl
  rcases (by omega : m = 0 ∨ m = 1 ∨ m = 2 ∨ m = 3 ∨ m = 4 ∨ m = 5 ∨ m = 6 ∨ m = 7 ∨ m = 8 ∨ m = 9 ∨ m = 10 ∨ m = 11) with rfl | rfl | rfl | rfl | rfl | rfl | rfl | rfl | rfl | rfl | rfl | rfl
  case inr.inl =>
    rw [hlen, hl]
    clear hb hl hlen
    cases b
    all_goals
      go_enter Tryz.func48, Tryz.ntmps48
      go_wp2_with fail
      refine CL.out.mono ?_
      rintro e w' ⟨rfl, hw'⟩
      replace hw' := hw'.symm
      subst hw'
      go_wp2
      go_ret
      exact ⟨rfl, (Spares.below0 (by first | exact Spares.refl _ _ | exact (Spares.refl _ _).alloc _))⟩
  all_goals
    clear hb hl hlen CL
    go_enter Tryz.func48, Tryz.ntmps48
    go_wp2
    go_ret
    exact ⟨rfl, (Spares.below0 (by first | exact Spares.refl _ _ | exact (Spares.refl _ _).alloc _))⟩
set_option maxRecDepth 100000 in
set_option maxHeartbeats 4000000 in
theorem ahead_any (y : Nat) (w : World) (hy : y ≤ 100000) (h1 : 1 ≤ y) : Calls Tryz.prog 47 #[.int .i64 y] w fun e w' => e = .returned (.int .i64 (aheadN y)) ∧ w' = w := by
  have HA : Hid (aheadN y = 365 * ((y : Int) - 1970) + (((y : Int) - 1) / 4 - ((y : Int) - 1) / 100 + ((y : Int) - 1) / 400) - 477) := Lib.hid rfl
  have hy1 : 1 ≤ (y : Int) := by omega
  go_enter Tryz.func47, Tryz.ntmps47
  go_wp2
  go_ret
  exact ⟨ret_int (by rw [HA.out]), rfl⟩
theorem cum_bd (y : Nat) : ∀ m : Nat, m ≤ 12 → 0 ≤ cumN y m ∧ cumN y m ≤ 31 * m
  | 0, _ => ⟨Int.le_refl _, Int.le_refl _⟩
  | m + 1, h => by
    have ih := cum_bd y m (by omega)
    have l1 : lenN y m ≤ 31 := by unfold lenN; split <;> first | omega | (have := leap_cases y; omega)
    show 0 ≤ cumN y m + lenN y m ∧ cumN y m + lenN y m ≤ 31 * ((m + 1 : Nat) : Int)
    omega
theorem ahead_bd (y : Nat) (h : y ≤ 100000) : -800000 ≤ aheadN y ∧ aheadN y ≤ 40000000 := by unfold aheadN; omega
set_option maxRecDepth 100000 in
set_option maxHeartbeats 4000000 in
theorem day_any (y m d : Nat) (w : World) (hy : y ≤ 100000) (h1 : 1 ≤ y) (hm : m ≤ 11) (hd : d ≤ 100000) : Calls Tryz.prog 86 #[.int .i64 y, .int .i64 ((m + 1 : Nat) : Int), .int .i64 d] w fun e w' => e = .returned (.int .i64 (dayN y m d)) ∧ Below w.heap.size w w' := by
  have CA := Lib.hid (ahead_any y w hy h1)
  have hab := ahead_bd y hy
  have HDN : Hid (dayN y m d = aheadN y + cumN y m + d - 1) := Lib.hid rfl
  obtain ⟨A, hA⟩ : ∃ A, aheadN y = A := ⟨_, rfl⟩
  rw [hA] at CA hab HDN
  clear hA
  go_enter Tryz.func86, Tryz.ntmps86
  go_wp2_with fail
  refine CA.out.mono ?_
  rintro e w' ⟨rfl, hw'⟩
  replace hw' := hw'.symm
  subst hw'
  go_wp2_with fail
  go_loopw [7, 8] (fun n i wr => ∃ k : Nat, k ≤ m ∧ i = .int .i64 ((k + 1 : Nat) : Int) ∧ n = .int .i64 (A + cumN y k) ∧ Hid (Below w.heap.size w wr)) (fun _ i _ => 12 - (intOf i).toNat)
  case atStart => exact ⟨0, Nat.zero_le _, rfl, by simp [cumN], Lib.hid (Below.refl _ _)⟩
  case round =>
    obtain ⟨k, hk, rfl, rfl, HB⟩ := hrel
    have hcb := cum_bd y k (by omega)
    by_cases hlt : k < m
    · have hcb2 := cum_bd y (k + 1) (by omega)
      have HC : Hid (cumN y (k + 1) = cumN y k + lenN y k) := Lib.hid rfl
      have hlb : lenN y k ≤ 31 := by unfold lenN; split <;> first | omega | (have := leap_cases y; omega)
      have CL := Lib.hid (length_any y k wr hy (by omega))
      obtain ⟨c, hc⟩ : ∃ c, cumN y k = c := ⟨_, rfl⟩
      obtain ⟨ln, hln⟩ : ∃ ln, lenN y k = ln := ⟨_, rfl⟩
      rw [hc] at hcb HC ⊢
      rw [hln] at HC hlb CL
      have i1 : (k : Int) + 1 < (m : Int) + 1 := by omega
      clear hc hln hcb2
      go_wp2_with fail
      refine CL.out.mono ?_
      rintro e w2 ⟨rfl, hb2⟩
      have HB2 := Lib.hid (HB.out.trans (hb2.mono HB.out.size))
      clear hb2
      go_wp2
      go_roundw
      case rel => exact ⟨k + 1, by omega, by go_num, by rw [HC.out]; go_num, HB2⟩
      case measure => simp [intOf]; omega
    · obtain rfl : k = m := by omega
      have i1 : ¬ (k : Int) + 1 < (k : Int) + 1 := by omega
      obtain ⟨c, hc⟩ : ∃ c, cumN y k = c := ⟨_, rfl⟩
      rw [hc] at hcb HDN ⊢
      clear hc
      go_wp2
      go_ret
      exact ⟨ret_int (by rw [HDN.out]; omega), HB.out⟩
end Go.Proofs.YtkbcklaloblmeaaGreatDoor
namespace Go.Proofs.YtkbcklaloblmeaaGreatDoor
open Go.RowKit DateMath

theorem digit_cut (a : Nat) (h : a ≤ 9) : (⟨#[48, 49, 50, 51, 52, 53, 54, 55, 56, 57]⟩ : ByteArray).extract a (a + 1) = arrD [dig a] := by
  match a, h with
  | 0, _ => rfl
  | 1, _ => rfl
  | 2, _ => rfl
  | 3, _ => rfl
  | 4, _ => rfl
  | 5, _ => rfl
  | 6, _ => rfl
  | 7, _ => rfl
  | 8, _ => rfl
  | 9, _ => rfl
set_option maxRecDepth 100000 in
set_option maxHeartbeats 4000000 in
theorem refTwo_any (n : Nat) (w : World) (hn : n ≤ 9999) : Calls Tryz.prog 50 #[.int .i64 n] w fun e w' => e = .returned (.string (arrD (two2 n))) ∧ ∃ k, w' = w.drewN k := by
  obtain ⟨a, ha⟩ : ∃ a, n / 10 % 10 = a := ⟨_, rfl⟩
  obtain ⟨b, hb⟩ : ∃ b, n % 10 = b := ⟨_, rfl⟩
  have la : a ≤ 9 := by omega
  have lb : b ≤ 9 := by omega
  have HE : Hid (arrD (two2 n) = arrD [dig a] ++ arrD [dig b]) := Lib.hid (by rw [arrD_app]; unfold two2; rw [ha, hb]; rfl)
  have c1 := digit_cut a la
  have c2 := digit_cut b lb
  have z1 : (arrD [dig a]).size = 1 := arrD_size _
  have z2 : (arrD [dig b]).size = 1 := arrD_size _
  obtain ⟨x1, hx1⟩ : ∃ x, arrD [dig a] = x := ⟨_, rfl⟩
  obtain ⟨x2, hx2⟩ : ∃ x, arrD [dig b] = x := ⟨_, rfl⟩
  rw [hx1] at c1 z1 HE
  rw [hx2] at c2 z2 HE
  obtain ⟨X, hX⟩ : ∃ X, x1 ++ x2 = X := ⟨_, rfl⟩
  rw [hX] at HE
  obtain ⟨r1, s1⟩ := add_str hX (by omega)
  have f1 : ((n : Int) / 10).tmod 10 = (a : Int) := by rw [Int.tmod_eq_emod_of_nonneg (by omega)]; omega
  have f2 : ((n : Int)).tmod 10 = (b : Int) := by rw [Int.tmod_eq_emod_of_nonneg (by omega)]; omega
  have f3 : ((n : Int)).tdiv 10 = (n : Int) / 10 := Int.tdiv_eq_ediv_of_nonneg (by omega)
  have p1 : 0 ≤ (a : Int) := by omega
  have p2 : 0 ≤ (b : Int) := by omega
  have p3 : (a : Int) + 1 ≤ 10 := by omega
  have p4 : (b : Int) + 1 ≤ 10 := by omega
  have n1 : ((a : Int) + 1).toNat = a + 1 := by omega
  have n2 : ((b : Int) + 1).toNat = b + 1 := by omega
  have g3 : IntKind.i64.wrap ((n : Int) / 10) = (n : Int) / 10 := wrap_in (by omega) (by omega)
  have g1 : IntKind.i64.wrap ((a : Int) + 1) = (a : Int) + 1 := wrap_k a 1 (by omega) (by decide)
  have g2 : IntKind.i64.wrap ((b : Int) + 1) = (b : Int) + 1 := wrap_k b 1 (by omega) (by decide)
  clear ha hb hx1 hx2 hX z1 z2 la lb
  go_enter Tryz.func50, Tryz.ntmps50
  go_wp2
  go_quiet (fail)
  go_wp2
  go_ret
  exact ⟨by rw [HE.out]; rfl, _, rfl⟩
set_option maxRecDepth 100000 in
set_option maxHeartbeats 4000000 in
theorem refDigits_any (s : ByteArray) (w : World) (hs : s.size ≤ 4) : Calls Tryz.prog 61 #[.string s] w fun e w' => e = .returned (numV (numF s.data.toList 4)) ∧ w' = w := by
  have hl : s.data.toList.length = s.size := by simp
  have HA : Hid (numF s.data.toList 4 = if s.size ≠ 0 ∧ s.data.toList.all digitD = true then some (valD s.data.toList) else none) := Lib.hid (by
    unfold numF
    rw [hl]
    by_cases h : s.size ≠ 0 ∧ s.data.toList.all digitD = true
    · rw [if_pos h, if_pos ⟨h.1, hs, h.2⟩]
    · rw [if_neg h, if_neg (fun h' => h ⟨h'.1, h'.2.2⟩)])
  go_enter Tryz.func61, Tryz.ntmps61
  go_wp2
  go_loop [4, 5] (fun n i => ∃ k : Nat, k ≤ s.size ∧ i = .int .i64 k ∧ n = .int .i64 (valD (s.data.toList.take k)) ∧ Hid ((s.data.toList.take k).all digitD = true)) (fun _ i => s.size - (intOf i).toNat)
  case atStart => exact ⟨0, Nat.zero_le _, rfl, rfl, Lib.hid rfl⟩
  case round =>
    obtain ⟨k, hk, rfl, rfl, HK⟩ := hrel
    by_cases hlt : k < s.size
    · have hts := take_snocD s k hlt
      have hb := valD_lt _ HK.out
      have hkl : (s.data.toList.take k).length = k := by rw [List.length_take]; omega
      rw [hkl] at hb
      have hp : (10 : Nat) ^ k ≤ 10 ^ 4 := Nat.pow_le_pow_right (by decide) (by omega)
      have hv : valD (s.data.toList.take k) ≤ 9999 := by
        rw [show (10 : Nat) ^ 4 = 10000 from by decide] at hp
        omega
      have hsn := valD_snoc (s.data.toList.take k) s[k]
      have hc := s[k].toNat_lt
      have HT : Hid (valD (s.data.toList.take (k + 1)) = valD (s.data.toList.take k) * 10 + (s[k].toNat - 48)) := Lib.hid (by rw [hts, hsn])
      have HTA : Hid ((s.data.toList.take (k + 1)).all digitD = ((s.data.toList.take k).all digitD && digitD s[k])) := Lib.hid (by rw [hts]; simp)
      have hdd : digitD s[k] = decide (48 ≤ s[k].toNat ∧ s[k].toNat ≤ 57) := rfl
      have hmem : s[k] ∈ s.data.toList := List.mem_iff_getElem.2 ⟨k, by omega, by simp; rfl⟩
      obtain ⟨V, hV⟩ : ∃ V, valD (s.data.toList.take k) = V := ⟨_, rfl⟩
      rw [hV] at hv HT ⊢
      clear hts hb hkl hp hsn hV
      by_cases hd : digitD s[k] = true
      · have hd2 := hd
        rw [hdd, decide_eq_true_iff] at hd2
        have HTA2 : Hid ((s.data.toList.take (k + 1)).all digitD = true) := Lib.hid (by rw [HTA.out, HK.out, hd]; rfl)
        have g1 : (48 : Int) ≤ (s[k].toNat : Int) := by omega
        have g2 : (s[k].toNat : Int) ≤ 57 := by omega
        have e1 : decide ((s[k].toNat : Int) < 48) = false := decide_eq_false (by omega)
        have e2 : decide (57 < (s[k].toNat : Int)) = false := decide_eq_false (by omega)
        clear hd hdd hd2 hmem
        go_wp2
        go_round
        case rel => exact ⟨k + 1, by omega, by go_num, by rw [HT.out]; congr 1; omega, HTA2⟩
        case measure => simp [intOf]; omega
      · have hd' : digitD s[k] = false := by simpa using hd
        have HE : Hid (numF s.data.toList 4 = none) := Lib.hid (by
          rw [HA.out, if_neg]
          intro h
          have := List.all_eq_true.1 h.2 _ hmem
          rw [hd'] at this
          cases this)
        have hor : s[k].toNat < 48 ∨ (¬ s[k].toNat < 48 ∧ 57 < s[k].toNat) := by
          have : ¬ (48 ≤ s[k].toNat ∧ s[k].toNat ≤ 57) := fun h => hd (by rw [hdd]; exact decide_eq_true h)
          omega
        clear hd hdd hd' hmem
        rcases hor with h | ⟨h, h'⟩
        · have e1 : decide ((s[k].toNat : Int) < 48) = true := decide_eq_true (by omega)
          clear h
          go_wp2
          go_ret2
          exact ⟨by rw [HE.out]; rfl, rfl⟩
        · have e1 : decide ((s[k].toNat : Int) < 48) = false := decide_eq_false (by omega)
          have e2 : decide (57 < (s[k].toNat : Int)) = true := decide_eq_true (by omega)
          clear h h'
          go_wp2
          go_ret2
          exact ⟨by rw [HE.out]; rfl, rfl⟩
    · obtain rfl : k = s.size := by omega
      have ht : s.data.toList.take s.size = s.data.toList := List.take_of_length_le (by omega)
      rw [ht] at HK ⊢
      by_cases h0 : s.size = 0
      · have HE : Hid (numF s.data.toList 4 = none) := Lib.hid (by rw [HA.out, if_neg (fun h => h.1 h0)])
        have hv0 : valD s.data.toList = 0 := by
          have : s.data.toList = [] := List.eq_nil_of_length_eq_zero (by omega)
          rw [this]; rfl
        have e1 : decide (0 < (s.size : Int)) = false := decide_eq_false (by omega)
        have e2 : decide (0 < s.size) = false := decide_eq_false (by omega)
        have HV0 := Lib.hid hv0
        clear ht h0 hv0
        go_wp2
        go_ret2
        exact ⟨by rw [HE.out, HV0.out]; rfl, rfl⟩
      · have HE : Hid (numF s.data.toList 4 = some (valD s.data.toList)) := Lib.hid (by rw [HA.out, if_pos ⟨h0, HK.out⟩])
        have e1 : decide (0 < (s.size : Int)) = true := decide_eq_true (by omega)
        have e2 : decide (0 < s.size) = true := decide_eq_true (by omega)
        clear ht h0
        go_wp2
        go_ret2
        exact ⟨by rw [HE.out]; rfl, rfl⟩
end Go.Proofs.YtkbcklaloblmeaaGreatDoor
namespace Go.Proofs.YtkbcklaloblmeaaGreatDoor
open Go.RowKit DateMath

set_option maxRecDepth 100000 in
set_option maxHeartbeats 4000000 in
theorem refIndex_any (L : List Bs) (s : ByteArray) (g n c : Nat) (w : World) (hn : n = L.length) (hl : L.length ≤ 100) (hc : ∀ k (h : k < L.length), w.cell? ⟨g, k, none⟩ = some (.string (arrD L[k]))) :
    Calls Tryz.prog 63 #[.slice (some ⟨g, 0, none⟩) n c, .string s] w fun e w' => e = .returned (.int .i64 (idxF L s.data.toList)) ∧ w' = w := by
  have HC := Lib.hid hc
  have HN := Lib.hid hn
  have hn2 : n ≤ 100 := by omega
  have hst : s.toList = s.data.toList := Lib.toList_data s
  have HST := Lib.hid hst
  clear hc hn hl hst
  go_enter Tryz.func63, Tryz.ntmps63
  go_wp2
  go_loop [5] (fun i => ∃ k : Nat, k ≤ n ∧ i = .int .i64 k ∧ Hid (idxF L s.data.toList = if idxF (L.drop k) s.data.toList = -1 then -1 else idxF (L.drop k) s.data.toList + k)) (fun i => n - (intOf i).toNat)
  case atStart => exact ⟨0, Nat.zero_le _, rfl, Lib.hid (by rw [List.drop_zero]; split <;> simp_all)⟩
  case round =>
    obtain ⟨k, hk, rfl, HK⟩ := hrel
    by_cases hlt : k < n
    · have hlL : k < L.length := by have := HN.out; omega
      have x0 := HC.out k hlL
      have hol : (arrD L[k]).toList = L[k] := by rw [Lib.toList_data]; unfold arrD; simp
      have hdr : L.drop k = L[k] :: L.drop (k + 1) := List.drop_eq_getElem_cons hlL
      have hidx : idxF (L.drop k) s.data.toList = if L[k] = s.data.toList then 0 else if idxF (L.drop (k + 1)) s.data.toList = -1 then -1 else idxF (L.drop (k + 1)) s.data.toList + 1 := by rw [hdr]; rfl
      obtain ⟨O, hO⟩ : ∃ O, arrD L[k] = O := ⟨_, rfl⟩
      rw [hO] at x0 hol
      have i1 : (k : Int) < (n : Int) := by omega
      by_cases heq : L[k] = s.data.toList
      · have teq : (O.toList == s.toList) = true := by rw [HST.out, hol, heq]; exact beq_self_eq_true _
        have HE : Hid (idxF L s.data.toList = k) := Lib.hid (by rw [HK.out, hidx, if_pos heq]; simp)
        clear hol hO heq hdr hidx
        go_wp2
        go_ret
        exact ⟨by rw [HE.out]; rfl, rfl⟩
      · have teq : (O.toList == s.toList) = false := by rw [HST.out, hol]; simpa using heq
        have HE : Hid (idxF L s.data.toList = if idxF (L.drop (k + 1)) s.data.toList = -1 then -1 else idxF (L.drop (k + 1)) s.data.toList + ((k + 1 : Nat) : Int)) := Lib.hid (by
          rw [HK.out, hidx, if_neg heq]
          have := idx_ge (L.drop (k + 1)) s.data.toList
          by_cases h : idxF (L.drop (k + 1)) s.data.toList = -1
          · rw [if_pos h, if_pos h, if_pos rfl]
          · rw [if_neg h, if_neg h, if_neg (by omega)]; omega)
        clear hol hO heq hdr hidx
        go_wp2
        go_round
        case rel => exact ⟨k + 1, by omega, by go_num, HE⟩
        case measure => simp [intOf]; omega
    · obtain rfl : k = n := by omega
      have HE : Hid (idxF L s.data.toList = -1) := Lib.hid (by
        rw [HK.out, List.drop_eq_nil_of_le (by have := HN.out; omega)]
        rfl)
      go_wp2
      go_ret
      exact ⟨by rw [HE.out]; rfl, rfl⟩
theorem clock_ret (a b d : Nat) (x : Bool) : Ending.returned (.tuple #[.int .i64 ((a : Int) * 3600 + (b : Int) * 60 + (d : Int)), .bool x]) = .returned (.tuple #[.int .i64 ((a * 3600 + b * 60 + d : Nat) : Int), .bool x]) := by
  have e : ((a * 3600 + b * 60 + d : Nat) : Int) = (a : Int) * 3600 + (b : Int) * 60 + (d : Int) := by omega
  rw [e]
/-- What clock leaves: the seconds, where it is one. -/
def ClockPost (o : Option (Nat × Nat × Nat)) (w : World) (e : Ending) (w' : World) : Prop := w' = w ∧ ∃ v : Nat, v ≤ 40000000 ∧ e = .returned (.tuple #[.int .i64 v, .bool o.isSome]) ∧ ∀ h m s, o = some (h, m, s) → v = h * 3600 + m * 60 + s
set_option maxRecDepth 100000 in
set_option maxHeartbeats 8000000 in
theorem refClock_any (c : ByteArray) (w : World) (hc : c.size = 8) : Calls Tryz.prog 85 #[.string c] w (ClockPost (clockR c.data.toList) w) := by
  have hca : 8 ≤ c.size := Nat.le_of_eq hc.symm
  have hcl : c.data.toList.length = 8 := by simpa using hc
  have hc2 : c[2]'(Nat.lt_of_lt_of_le (by decide) hca) = c.data.toList.getD 2 0 := by
    rw [List.getD_eq_getElem?_getD, List.getElem?_eq_getElem (by simp; omega)]; rfl
  have hc5 : c[5]'(Nat.lt_of_lt_of_le (by decide) hca) = c.data.toList.getD 5 0 := by
    rw [List.getD_eq_getElem?_getD, List.getElem?_eq_getElem (by simp; omega)]; rfl
  have x1 : (c.extract 0 2).data.toList = sl c.data.toList 0 2 := by rw [Lib.extract_data]; rfl
  have x2 : (c.extract 3 5).data.toList = sl c.data.toList 3 5 := by rw [Lib.extract_data]; rfl
  have x3 : (c.extract 6 c.size).data.toList = sl c.data.toList 6 8 := by rw [Lib.extract_data, hc]; rfl
  obtain ⟨c1, h1⟩ : ∃ x, c.extract 0 2 = x := ⟨_, rfl⟩
  obtain ⟨c2, h2⟩ : ∃ x, c.extract 3 5 = x := ⟨_, rfl⟩
  obtain ⟨c3, h3⟩ : ∃ x, c.extract 6 c.size = x := ⟨_, rfl⟩
  have z1 : c1.size ≤ 4 := by rw [← h1, ByteArray.size_extract]; omega
  have z2 : c2.size ≤ 4 := by rw [← h2, ByteArray.size_extract]; omega
  have z3 : c3.size ≤ 4 := by rw [← h3, ByteArray.size_extract]; omega
  rw [h1] at x1
  rw [h2] at x2
  rw [h3] at x3
  obtain ⟨b2, hb2⟩ : ∃ b, c[2]'(Nat.lt_of_lt_of_le (by decide) hca) = b := ⟨_, rfl⟩
  obtain ⟨b5, hb5⟩ : ∃ b, c[5]'(Nat.lt_of_lt_of_le (by decide) hca) = b := ⟨_, rfl⟩
  have D1 := fun x => refDigits_any c1 x z1
  have D2 := fun x => refDigits_any c2 x z2
  have D3 := fun x => refDigits_any c3 x z3
  have l1 := num_le4 c1.data.toList
  have l2 := num_le4 c2.data.toList
  have l3 := num_le4 c3.data.toList
  have HR : Hid (clockR c.data.toList = if b2 = 58 ∧ b5 = 58 then (match numF c1.data.toList 4, numF c2.data.toList 4, numF c3.data.toList 4 with
    | some h, some m, some s => if h ≤ 23 ∧ m ≤ 59 ∧ s ≤ 59 then some (h, m, s) else none
    | _, _, _ => none) else none) := Lib.hid (by
      unfold clockR
      rw [x1, x2, x3, ← hb2, ← hb5, hc2, hc5]
      by_cases h : c.data.toList.getD 2 0 = 58 ∧ c.data.toList.getD 5 0 = 58
      · rw [if_pos h, if_pos ⟨hcl, h.1, h.2⟩]
        rfl
      · rw [if_neg h, if_neg (fun h' => h h'.2)])
  unfold numV at D1 D2 D3
  have HRR : Hid (clockR c.data.toList = if b2 = 58 ∧ b5 = 58 ∧ (numF c1.data.toList 4).isSome = true ∧ (numF c2.data.toList 4).isSome = true ∧ (numF c3.data.toList 4).isSome = true ∧ (numF c1.data.toList 4).getD 0 ≤ 23 ∧ (numF c2.data.toList 4).getD 0 ≤ 59 ∧ (numF c3.data.toList 4).getD 0 ≤ 59 then some ((numF c1.data.toList 4).getD 0, (numF c2.data.toList 4).getD 0, (numF c3.data.toList 4).getD 0) else none) := Lib.hid (by
    rw [HR.out]
    by_cases h : b2 = 58 ∧ b5 = 58
    · rw [if_pos h]
      cases numF c1.data.toList 4 with
      | none => rw [if_neg (by rintro ⟨_, _, h, _⟩; cases h)]
      | some a =>
        cases numF c2.data.toList 4 with
        | none => rw [if_neg (by rintro ⟨_, _, _, h, _⟩; cases h)]
        | some b =>
          cases numF c3.data.toList 4 with
          | none => rw [if_neg (by rintro ⟨_, _, _, _, h, _⟩; cases h)]
          | some d =>
            simp only [Option.isSome_some, Option.getD_some]
            by_cases h2 : a ≤ 23 ∧ b ≤ 59 ∧ d ≤ 59
            · rw [if_pos h2, if_pos ⟨h.1, h.2, trivial, trivial, trivial, h2.1, h2.2.1, h2.2.2⟩]
            · rw [if_neg h2, if_neg (fun h' => h2 h'.2.2.2.2.2)]
    · rw [if_neg h, if_neg (fun h' => h ⟨h'.1, h'.2.1⟩)])
  clear HR
  obtain ⟨a, ea⟩ : ∃ o, (numF c1.data.toList 4).getD 0 = o := ⟨_, rfl⟩
  obtain ⟨p1, ep1⟩ : ∃ o, (numF c1.data.toList 4).isSome = o := ⟨_, rfl⟩
  rw [ea, ep1] at D1
  rw [ea] at l1
  obtain ⟨b, eb⟩ : ∃ o, (numF c2.data.toList 4).getD 0 = o := ⟨_, rfl⟩
  obtain ⟨p2, ep2⟩ : ∃ o, (numF c2.data.toList 4).isSome = o := ⟨_, rfl⟩
  rw [eb, ep2] at D2
  rw [eb] at l2
  obtain ⟨d, ed⟩ : ∃ o, (numF c3.data.toList 4).getD 0 = o := ⟨_, rfl⟩
  obtain ⟨p3, ep3⟩ : ∃ o, (numF c3.data.toList 4).isSome = o := ⟨_, rfl⟩
  rw [ed, ep3] at D3
  rw [ed] at l3
  have HR := HRR.out
  rw [ea, ep1, eb, ep2, ed, ep3] at HR
  replace HR := Lib.hid HR
  have C1 := Lib.hid D1
  have C2 := Lib.hid D2
  have C3 := Lib.hid D3
  have e8 : (((c.size : Nat) : Int) != 8) = false := by rw [hc]; rfl
  have u58 : ∀ b : UInt8, ((b.toNat : Int) != 58) = !(decide (b = 58)) := by
    intro b
    by_cases h : b = 58
    · subst h; rfl
    · have : ¬ (b.toNat : Int) = 58 := fun e => h (UInt8.toNat_inj.1 (by have h58 : (58 : UInt8).toNat = 58 := rfl; omega))
      simp [h, this]
  have E2 := u58 b2
  have E5 := u58 b5
  obtain ⟨R, hR⟩ : ∃ R, clockR c.data.toList = R := ⟨_, rfl⟩
  rw [hR] at HR ⊢
  clear D1 D2 D3 x1 x2 x3 z1 z2 z3 ea eb ed ep1 ep2 ep3 hc2 hc5 hcl hc u58 hR HRR
  have b2l := b2.toNat_lt
  have b5l := b5.toNat_lt
  unfold ClockPost
  by_cases q2 : b2 = 58
  rotate_left
  · have HN : Hid (R = none) := Lib.hid (by rw [HR.out, if_neg (fun h => q2 h.1)])
    rw [decide_eq_false q2] at E2
    simp only [Bool.not_false] at E2
    clear HR q2 E5
    go_enter Tryz.func85, Tryz.ntmps85
    go_wp2
    go_ret2
    exact ⟨rfl, 0, by decide, by rw [HN.out]; rfl, fun _ _ _ h => by rw [HN.out] at h; cases h⟩
  by_cases q5 : b5 = 58
  rotate_left
  · have HN : Hid (R = none) := Lib.hid (by rw [HR.out, if_neg (fun h => q5 h.2.1)])
    rw [decide_eq_true q2] at E2
    rw [decide_eq_false q5] at E5
    simp only [Bool.not_false, Bool.not_true] at E2 E5
    clear HR q2 q5
    go_enter Tryz.func85, Tryz.ntmps85
    go_wp2
    go_ret2
    exact ⟨rfl, 0, by decide, by rw [HN.out]; rfl, fun _ _ _ h => by rw [HN.out] at h; cases h⟩
  rw [decide_eq_true q2] at E2
  rw [decide_eq_true q5] at E5
  simp only [Bool.not_true] at E2 E5
  have hcs : p1 = false ∨ (p1 = true ∧ p2 = false) ∨ (p1 = true ∧ p2 = true ∧ p3 = false) ∨ (p1 = true ∧ p2 = true ∧ p3 = true ∧ ¬ a ≤ 23) ∨ (p1 = true ∧ p2 = true ∧ p3 = true ∧ a ≤ 23 ∧ ¬ b ≤ 59) ∨ (p1 = true ∧ p2 = true ∧ p3 = true ∧ a ≤ 23 ∧ b ≤ 59 ∧ ¬ d ≤ 59) ∨ (p1 = true ∧ p2 = true ∧ p3 = true ∧ a ≤ 23 ∧ b ≤ 59 ∧ d ≤ 59) := by
    cases p1
    · exact .inl rfl
    cases p2
    · exact .inr (.inl ⟨rfl, rfl⟩)
    cases p3
    · exact .inr (.inr (.inl ⟨rfl, rfl, rfl⟩))
    by_cases h1 : a ≤ 23
    · by_cases h2 : b ≤ 59
      · by_cases h3 : d ≤ 59
        · exact .inr (.inr (.inr (.inr (.inr (.inr ⟨rfl, rfl, rfl, h1, h2, h3⟩)))))
        · exact .inr (.inr (.inr (.inr (.inr (.inl ⟨rfl, rfl, rfl, h1, h2, h3⟩)))))
      · exact .inr (.inr (.inr (.inr (.inl ⟨rfl, rfl, rfl, h1, h2⟩))))
    · exact .inr (.inr (.inr (.inl ⟨rfl, rfl, rfl, h1⟩)))
  rcases hcs with rfl | ⟨rfl, rfl⟩ | ⟨rfl, rfl, rfl⟩ | ⟨rfl, rfl, rfl, g1⟩ | ⟨rfl, rfl, rfl, g1, g2⟩ | ⟨rfl, rfl, rfl, g1, g2, g3⟩ | ⟨rfl, rfl, rfl, g1, g2, g3⟩
  · have HN : Hid (R = none) := Lib.hid (by rw [HR.out, if_neg (fun h => by cases h.2.2.1)])
    clear HR q2 q5
    go_enter Tryz.func85, Tryz.ntmps85
    go_wp2_with fail
    refine (C1.out w).mono ?_
    rintro e w1 ⟨rfl, hw1⟩
    replace hw1 := hw1.symm
    subst hw1
    go_wp2_with fail
    refine (C2.out w).mono ?_
    rintro e w1 ⟨rfl, hw1⟩
    replace hw1 := hw1.symm
    subst hw1
    go_wp2_with fail
    refine (C3.out w).mono ?_
    rintro e w1 ⟨rfl, hw1⟩
    replace hw1 := hw1.symm
    subst hw1
    go_wp2
    go_ret2
    exact ⟨rfl, a * 3600 + b * 60 + d, by omega, by rw [HN.out]; exact clock_ret _ _ _ _, fun _ _ _ h => by rw [HN.out] at h; cases h⟩
  · have HN : Hid (R = none) := Lib.hid (by rw [HR.out, if_neg (fun h => by cases h.2.2.2.1)])
    clear HR q2 q5
    go_enter Tryz.func85, Tryz.ntmps85
    go_wp2_with fail
    refine (C1.out w).mono ?_
    rintro e w1 ⟨rfl, hw1⟩
    replace hw1 := hw1.symm
    subst hw1
    go_wp2_with fail
    refine (C2.out w).mono ?_
    rintro e w1 ⟨rfl, hw1⟩
    replace hw1 := hw1.symm
    subst hw1
    go_wp2_with fail
    refine (C3.out w).mono ?_
    rintro e w1 ⟨rfl, hw1⟩
    replace hw1 := hw1.symm
    subst hw1
    go_wp2
    go_ret2
    exact ⟨rfl, a * 3600 + b * 60 + d, by omega, by rw [HN.out]; exact clock_ret _ _ _ _, fun _ _ _ h => by rw [HN.out] at h; cases h⟩
  · have HN : Hid (R = none) := Lib.hid (by rw [HR.out, if_neg (fun h => by cases h.2.2.2.2.1)])
    clear HR q2 q5
    go_enter Tryz.func85, Tryz.ntmps85
    go_wp2_with fail
    refine (C1.out w).mono ?_
    rintro e w1 ⟨rfl, hw1⟩
    replace hw1 := hw1.symm
    subst hw1
    go_wp2_with fail
    refine (C2.out w).mono ?_
    rintro e w1 ⟨rfl, hw1⟩
    replace hw1 := hw1.symm
    subst hw1
    go_wp2_with fail
    refine (C3.out w).mono ?_
    rintro e w1 ⟨rfl, hw1⟩
    replace hw1 := hw1.symm
    subst hw1
    go_wp2
    go_ret2
    exact ⟨rfl, a * 3600 + b * 60 + d, by omega, by rw [HN.out]; exact clock_ret _ _ _ _, fun _ _ _ h => by rw [HN.out] at h; cases h⟩
  · have HN : Hid (R = none) := Lib.hid (by rw [HR.out, if_neg (fun h => by exact g1 h.2.2.2.2.2.1)])
    have d1 : decide ((a : Int) ≤ 23) = false := decide_eq_false (by omega)
    have dn1 : decide (a ≤ 23) = false := decide_eq_false (by omega)
    clear HR q2 q5
    go_enter Tryz.func85, Tryz.ntmps85
    go_wp2_with fail
    refine (C1.out w).mono ?_
    rintro e w1 ⟨rfl, hw1⟩
    replace hw1 := hw1.symm
    subst hw1
    go_wp2_with fail
    refine (C2.out w).mono ?_
    rintro e w1 ⟨rfl, hw1⟩
    replace hw1 := hw1.symm
    subst hw1
    go_wp2_with fail
    refine (C3.out w).mono ?_
    rintro e w1 ⟨rfl, hw1⟩
    replace hw1 := hw1.symm
    subst hw1
    go_wp2
    go_ret2
    exact ⟨rfl, a * 3600 + b * 60 + d, by omega, by rw [HN.out]; exact clock_ret _ _ _ _, fun _ _ _ h => by rw [HN.out] at h; cases h⟩
  · have HN : Hid (R = none) := Lib.hid (by rw [HR.out, if_neg (fun h => by exact g2 h.2.2.2.2.2.2.1)])
    have d1 : decide ((a : Int) ≤ 23) = true := decide_eq_true (by omega)
    have dn1 : decide (a ≤ 23) = true := decide_eq_true (by omega)
    have d2 : decide ((b : Int) ≤ 59) = false := decide_eq_false (by omega)
    have dn2 : decide (b ≤ 59) = false := decide_eq_false (by omega)
    clear HR q2 q5
    go_enter Tryz.func85, Tryz.ntmps85
    go_wp2_with fail
    refine (C1.out w).mono ?_
    rintro e w1 ⟨rfl, hw1⟩
    replace hw1 := hw1.symm
    subst hw1
    go_wp2_with fail
    refine (C2.out w).mono ?_
    rintro e w1 ⟨rfl, hw1⟩
    replace hw1 := hw1.symm
    subst hw1
    go_wp2_with fail
    refine (C3.out w).mono ?_
    rintro e w1 ⟨rfl, hw1⟩
    replace hw1 := hw1.symm
    subst hw1
    go_wp2
    go_ret2
    exact ⟨rfl, a * 3600 + b * 60 + d, by omega, by rw [HN.out]; exact clock_ret _ _ _ _, fun _ _ _ h => by rw [HN.out] at h; cases h⟩
  · have HN : Hid (R = none) := Lib.hid (by rw [HR.out, if_neg (fun h => by exact g3 h.2.2.2.2.2.2.2)])
    have d1 : decide ((a : Int) ≤ 23) = true := decide_eq_true (by omega)
    have dn1 : decide (a ≤ 23) = true := decide_eq_true (by omega)
    have d2 : decide ((b : Int) ≤ 59) = true := decide_eq_true (by omega)
    have dn2 : decide (b ≤ 59) = true := decide_eq_true (by omega)
    have d3 : decide ((d : Int) ≤ 59) = false := decide_eq_false (by omega)
    have dn3 : decide (d ≤ 59) = false := decide_eq_false (by omega)
    clear HR q2 q5
    go_enter Tryz.func85, Tryz.ntmps85
    go_wp2_with fail
    refine (C1.out w).mono ?_
    rintro e w1 ⟨rfl, hw1⟩
    replace hw1 := hw1.symm
    subst hw1
    go_wp2_with fail
    refine (C2.out w).mono ?_
    rintro e w1 ⟨rfl, hw1⟩
    replace hw1 := hw1.symm
    subst hw1
    go_wp2_with fail
    refine (C3.out w).mono ?_
    rintro e w1 ⟨rfl, hw1⟩
    replace hw1 := hw1.symm
    subst hw1
    go_wp2
    go_ret2
    exact ⟨rfl, a * 3600 + b * 60 + d, by omega, by rw [HN.out]; exact clock_ret _ _ _ _, fun _ _ _ h => by rw [HN.out] at h; cases h⟩
  · have HN : Hid (R = some (a, b, d)) := Lib.hid (by rw [HR.out, if_pos ⟨q2, q5, rfl, rfl, rfl, g1, g2, g3⟩])
    have d1 : decide ((a : Int) ≤ 23) = true := decide_eq_true (by omega)
    have dn1 : decide (a ≤ 23) = true := decide_eq_true (by omega)
    have d2 : decide ((b : Int) ≤ 59) = true := decide_eq_true (by omega)
    have dn2 : decide (b ≤ 59) = true := decide_eq_true (by omega)
    have d3 : decide ((d : Int) ≤ 59) = true := decide_eq_true (by omega)
    have dn3 : decide (d ≤ 59) = true := decide_eq_true (by omega)
    clear HR q2 q5
    go_enter Tryz.func85, Tryz.ntmps85
    go_wp2_with fail
    refine (C1.out w).mono ?_
    rintro e w1 ⟨rfl, hw1⟩
    replace hw1 := hw1.symm
    subst hw1
    go_wp2_with fail
    refine (C2.out w).mono ?_
    rintro e w1 ⟨rfl, hw1⟩
    replace hw1 := hw1.symm
    subst hw1
    go_wp2_with fail
    refine (C3.out w).mono ?_
    rintro e w1 ⟨rfl, hw1⟩
    replace hw1 := hw1.symm
    subst hw1
    go_wp2
    go_ret2
    exact ⟨rfl, a * 3600 + b * 60 + d, by omega, by rw [HN.out]; exact clock_ret _ _ _ _, fun _ _ _ h => by rw [HN.out] at h; cases h; rfl⟩
end Go.Proofs.YtkbcklaloblmeaaGreatDoor
namespace Go.Proofs.YtkbcklaloblmeaaGreatDoor
open Go.RowKit DateMath

def PairPost (v : Int × Int) (w : World) (e : Ending) (w' : World) : Prop := e = .returned (.tuple #[.int .i64 v.1, .int .i64 v.2]) ∧ Below w.heap.size w w'
set_option maxRecDepth 100000 in
set_option maxHeartbeats 16000000 in
theorem refMade_any (wd : Int) (y : Nat) (m : Int) (d : Nat) (c : ByteArray) (w : World) (hw0 : -1 ≤ wd) (hw1 : wd ≤ 6) (hy : y ≤ 9999) (hm0 : -1 ≤ m) (hm1 : m ≤ 11) (hd : d ≤ 9999) (hc : c.size = 8) :
    Calls Tryz.prog 62 #[.int .i64 wd, .int .i64 y, .int .i64 m, .int .i64 d, .string c] w (PairPost (madeF wd y m d c.data.toList) w) := by
  have CK := Lib.hid (refClock_any c w hc)
  have HM : Hid (madeF wd y m d c.data.toList = match clockR c.data.toList with
    | none => (0, 80)
    | some (h, mi, s) => if 0 ≤ wd ∧ 0 ≤ m ∧ 1970 ≤ y ∧ y ≤ 9999 ∧ 1 ≤ d ∧ d ≤ lenN y m.toNat ∧ (dayN y m.toNat d + 4) % 7 = wd then (dayN y m.toNat d * 86400 + ((h * 3600 + mi * 60 + s : Nat) : Int), 0) else (0, 80)) := Lib.hid rfl
  obtain ⟨R, hR⟩ : ∃ R, madeF wd y m d c.data.toList = R := ⟨_, rfl⟩
  rw [hR] at HM ⊢
  obtain ⟨o, ho⟩ : ∃ o, clockR c.data.toList = o := ⟨_, rfl⟩
  rw [ho] at HM CK
  unfold ClockPost at CK
  clear hR ho hc
  unfold PairPost
  cases o with
  | none =>
    have HN : Hid (R = (0, 80)) := Lib.hid (by rw [HM.out])
    clear HM
    go_enter Tryz.func62, Tryz.ntmps62
    go_wp2_with fail
    refine CK.out.mono ?_
    rintro e w1 ⟨hw, v, hv, rfl, _⟩
    replace hw := hw.symm
    subst hw
    go_wp2
    go_ret2
    exact ⟨by rw [HN.out]; rfl, Below.refl _ _⟩
  | some q =>
    obtain ⟨h, mi, s⟩ := q
    have HS : Hid (R = if 0 ≤ wd ∧ 0 ≤ m ∧ 1970 ≤ y ∧ y ≤ 9999 ∧ 1 ≤ d ∧ d ≤ lenN y m.toNat ∧ (dayN y m.toNat d + 4) % 7 = wd then (dayN y m.toNat d * 86400 + ((h * 3600 + mi * 60 + s : Nat) : Int), 0) else (0, 80)) := Lib.hid (by rw [HM.out])
    have d4 : decide (9999 < (y : Int)) = false := decide_eq_false (by omega)
    have d4n : decide (9999 < y) = false := decide_eq_false (by omega)
    clear HM
    by_cases q1 : 0 ≤ wd
    rotate_left
    · have HN : Hid (R = (0, 80)) := Lib.hid (by rw [HS.out, if_neg (fun h => by exact q1 h.1)])
      have d1 : decide (wd < 0) = true := decide_eq_true (by omega)
      clear HS
      go_enter Tryz.func62, Tryz.ntmps62
      go_wp2_with fail
      refine CK.out.mono ?_
      rintro e w1 ⟨hw, v, hv, rfl, hvs⟩
      replace hw := hw.symm
      subst hw
      have HVS := Lib.hid (hvs h mi s rfl)
      clear hvs
      go_wp2
      go_ret2
      exact ⟨by rw [HN.out]; rfl, Below.refl _ _⟩
    by_cases q2 : 0 ≤ m
    rotate_left
    · have HN : Hid (R = (0, 80)) := Lib.hid (by rw [HS.out, if_neg (fun h => by exact q2 h.2.1)])
      have d1 : decide (wd < 0) = false := decide_eq_false (by omega)
      have d2 : decide (m < 0) = true := decide_eq_true (by omega)
      clear HS
      go_enter Tryz.func62, Tryz.ntmps62
      go_wp2_with fail
      refine CK.out.mono ?_
      rintro e w1 ⟨hw, v, hv, rfl, hvs⟩
      replace hw := hw.symm
      subst hw
      have HVS := Lib.hid (hvs h mi s rfl)
      clear hvs
      go_wp2
      go_ret2
      exact ⟨by rw [HN.out]; rfl, Below.refl _ _⟩
    by_cases q3 : 1970 ≤ y
    rotate_left
    · have HN : Hid (R = (0, 80)) := Lib.hid (by rw [HS.out, if_neg (fun h => by exact q3 h.2.2.1)])
      have d1 : decide (wd < 0) = false := decide_eq_false (by omega)
      have d2 : decide (m < 0) = false := decide_eq_false (by omega)
      have d3 : decide ((y : Int) < 1970) = true := decide_eq_true (by omega)
      have d3n : decide (y < 1970) = true := decide_eq_true (by omega)
      clear HS
      go_enter Tryz.func62, Tryz.ntmps62
      go_wp2_with fail
      refine CK.out.mono ?_
      rintro e w1 ⟨hw, v, hv, rfl, hvs⟩
      replace hw := hw.symm
      subst hw
      have HVS := Lib.hid (hvs h mi s rfl)
      clear hvs
      go_wp2
      go_ret2
      exact ⟨by rw [HN.out]; rfl, Below.refl _ _⟩
    by_cases q5 : 1 ≤ d
    rotate_left
    · have HN : Hid (R = (0, 80)) := Lib.hid (by rw [HS.out, if_neg (fun h => by exact q5 h.2.2.2.2.1)])
      have d1 : decide (wd < 0) = false := decide_eq_false (by omega)
      have d2 : decide (m < 0) = false := decide_eq_false (by omega)
      have d3 : decide ((y : Int) < 1970) = false := decide_eq_false (by omega)
      have d3n : decide (y < 1970) = false := decide_eq_false (by omega)
      have d5 : decide ((d : Int) < 1) = true := decide_eq_true (by omega)
      have d5n : decide (d < 1) = true := decide_eq_true (by omega)
      clear HS
      go_enter Tryz.func62, Tryz.ntmps62
      go_wp2_with fail
      refine CK.out.mono ?_
      rintro e w1 ⟨hw, v, hv, rfl, hvs⟩
      replace hw := hw.symm
      subst hw
      have HVS := Lib.hid (hvs h mi s rfl)
      clear hvs
      go_wp2
      go_ret2
      exact ⟨by rw [HN.out]; rfl, Below.refl _ _⟩
    obtain ⟨k, rfl⟩ : ∃ k : Nat, m = k := ⟨m.toNat, by omega⟩
    have hkn : ((k : Int)).toNat = k := by omega
    rw [hkn] at HS
    have d1 : decide (wd < 0) = false := decide_eq_false (by omega)
    have d2 : decide ((k : Int) < 0) = false := decide_eq_false (by omega)
    have d3 : decide ((y : Int) < 1970) = false := decide_eq_false (by omega)
    have d3n : decide (y < 1970) = false := decide_eq_false (by omega)
    have d5 : decide ((d : Int) < 1) = false := decide_eq_false (by omega)
    have d5n : decide (d < 1) = false := decide_eq_false (by omega)
    have CL := Lib.hid (length_any y k w (by omega) (by omega))
    have hlb : lenN y k ≤ 31 := by unfold lenN; split <;> first | omega | (have := leap_cases y; omega)
    have CDY := Lib.hid (fun x => day_any y k d x (by omega) (by omega) (by omega) (by omega))
    have hdb : -1000000 ≤ dayN y k d ∧ dayN y k d ≤ 50000000 := by
      have h1 := ahead_bd y (by omega)
      have h2 := cum_bd y k (by omega)
      unfold dayN
      omega
    have hdp : 0 ≤ dayN y k d := by
      have h1 := ahead_min y q3
      have h2 := cum_bd y k (by omega)
      unfold dayN
      omega
    have hcs : ((k + 1 : Nat) : Int) = (k : Int) + 1 := by omega
    rw [hcs] at CL
    have cdy := CDY.out
    rw [hcs] at cdy
    replace CDY := Lib.hid cdy
    obtain ⟨ln, hln⟩ : ∃ ln, lenN y k = ln := ⟨_, rfl⟩
    obtain ⟨N, hN⟩ : ∃ N, dayN y k d = N := ⟨_, rfl⟩
    rw [hln] at CL hlb HS
    rw [hN] at CDY hdb HS hdp
    clear hln hN hcs cdy hkn
    by_cases q6 : d ≤ ln
    rotate_left
    · have HN : Hid (R = (0, 80)) := Lib.hid (by rw [HS.out, if_neg (fun h => q6 h.2.2.2.2.2.1)])
      have d6 : decide ((ln : Int) < (d : Int)) = true := decide_eq_true (by omega)
      have d6n : decide (ln < d) = true := decide_eq_true (by omega)
      clear HS
      go_enter Tryz.func62, Tryz.ntmps62
      go_wp2_with fail
      refine CK.out.mono ?_
      rintro e w1 ⟨hw, v, hv, rfl, hvs⟩
      replace hw := hw.symm
      subst hw
      have HVS := Lib.hid (hvs h mi s rfl)
      clear hvs
      go_wp2_with fail
      refine CL.out.mono ?_
      rintro e w2 ⟨rfl, hb2⟩
      have HB2 := Lib.hid hb2
      clear hb2
      go_wp2
      go_ret2
      exact ⟨by rw [HN.out]; rfl, HB2.out⟩
    have d6 : decide ((ln : Int) < (d : Int)) = false := decide_eq_false (by omega)
    have d6n : decide (ln < d) = false := decide_eq_false (by omega)
    by_cases q7 : (N + 4) % 7 = wd
    rotate_left
    · have HN : Hid (R = (0, 80)) := Lib.hid (by rw [HS.out, if_neg (fun h => q7 h.2.2.2.2.2.2)])
      have e7 : ((N + 4) % 7 != wd) = true := by simpa using q7
      clear HS q7
      go_enter Tryz.func62, Tryz.ntmps62
      go_wp2_with fail
      refine CK.out.mono ?_
      rintro e w1 ⟨hw, v, hv, rfl, hvs⟩
      replace hw := hw.symm
      subst hw
      have HVS := Lib.hid (hvs h mi s rfl)
      clear hvs
      go_wp2_with fail
      refine CL.out.mono ?_
      rintro e w2 ⟨rfl, hb2⟩
      have HB2 := Lib.hid hb2
      clear hb2
      go_wp2_with fail
      refine (CDY.out w2).mono ?_
      rintro e w3 ⟨rfl, hb3⟩
      have HB3 := Lib.hid (HB2.out.trans (hb3.mono HB2.out.size))
      clear hb3
      go_wp2
      go_ret2
      exact ⟨by rw [HN.out]; rfl, HB3.out⟩
    · have HN : Hid (R = (N * 86400 + ((h * 3600 + mi * 60 + s : Nat) : Int), 0)) := Lib.hid (by rw [HS.out, if_pos ⟨q1, q2, q3, hy, q5, q6, q7⟩])
      have e7 : ((N + 4) % 7 != wd) = false := by simpa using q7
      clear HS q7
      go_enter Tryz.func62, Tryz.ntmps62
      go_wp2_with fail
      refine CK.out.mono ?_
      rintro e w1 ⟨hw, v, hv, rfl, hvs⟩
      replace hw := hw.symm
      subst hw
      have HVS := Lib.hid (hvs h mi s rfl)
      clear hvs
      go_wp2_with fail
      refine CL.out.mono ?_
      rintro e w2 ⟨rfl, hb2⟩
      have HB2 := Lib.hid hb2
      clear hb2
      go_wp2_with fail
      refine (CDY.out w2).mono ?_
      rintro e w3 ⟨rfl, hb3⟩
      have HB3 := Lib.hid (HB2.out.trans (hb3.mono HB2.out.size))
      clear hb3
      go_wp2
      go_ret2
      exact ⟨by rw [HN.out, ← HVS.out]; rfl, HB3.out⟩
set_option maxRecDepth 100000 in
set_option maxHeartbeats 4000000 in
theorem refDays_any (w : World) : Calls Tryz.prog 49 #[] w fun e w' => e = .returned (.slice (some ⟨w.heap.size, 0, none⟩) 7 7) ∧ w' = w.alloc (.cells (day3L.map fun l => Value.string (arrD l)).toArray 9) := by
  go_enter Tryz.func49, Tryz.ntmps49
  go_wp2
  go_ret
  exact ⟨rfl, rfl⟩
set_option maxRecDepth 100000 in
set_option maxHeartbeats 4000000 in
theorem refLongs_any (w : World) : Calls Tryz.prog 64 #[] w fun e w' => e = .returned (.slice (some ⟨w.heap.size, 0, none⟩) 7 7) ∧ w' = w.alloc (.cells (dayL.map fun l => Value.string (arrD l)).toArray 9) := by
  go_enter Tryz.func64, Tryz.ntmps64
  go_wp2
  go_ret
  exact ⟨rfl, rfl⟩
set_option maxRecDepth 100000 in
set_option maxHeartbeats 4000000 in
theorem refMonths_any (w : World) : Calls Tryz.prog 51 #[] w fun e w' => e = .returned (.slice (some ⟨w.heap.size, 0, none⟩) 12 12) ∧ w' = w.alloc (.cells (monL.map fun l => Value.string (arrD l)).toArray 9) := by
  go_enter Tryz.func51, Tryz.ntmps51
  go_wp2
  go_ret
  exact ⟨rfl, rfl⟩
theorem row_cells {w : World} {g : Nat} {L : List Bs} (h : w.heap[g]? = some (.cells (L.map fun l => Value.string (arrD l)).toArray 9 (0, 0))) : ∀ k (hk : k < L.length), w.cell? ⟨g, k, none⟩ = some (.string (arrD L[k])) := by
  intro k hk
  rw [Lib.cell_of_heap h]
  simp [hk]
end Go.Proofs.YtkbcklaloblmeaaGreatDoor
namespace Go.Proofs.YtkbcklaloblmeaaGreatDoor
open Go.RowKit DateMath

def RowAt (w : World) (g : Nat) (L : List Bs) : Prop := w.heap[g]? = some (.cells (L.map fun l => Value.string (arrD l)).toArray 9 (0, 0))
theorem days_row (w : World) : Calls Tryz.prog 49 #[] w fun e w' => e = .returned (.slice (some ⟨w.heap.size, 0, none⟩) 7 7) ∧ Hid (RowAt w' w.heap.size day3L ∧ Below w.heap.size w w') :=
  (refDays_any w).mono fun e w' ⟨he, hw⟩ => ⟨he, Lib.hid ⟨by rw [hw]; exact heap_alloc_new w _, by rw [hw]; exact (Below.refl _ _).alloc (Nat.le_refl _) _⟩⟩
theorem months_row (w : World) : Calls Tryz.prog 51 #[] w fun e w' => e = .returned (.slice (some ⟨w.heap.size, 0, none⟩) 12 12) ∧ Hid (RowAt w' w.heap.size monL ∧ Below w.heap.size w w') :=
  (refMonths_any w).mono fun e w' ⟨he, hw⟩ => ⟨he, Lib.hid ⟨by rw [hw]; exact heap_alloc_new w _, by rw [hw]; exact (Below.refl _ _).alloc (Nat.le_refl _) _⟩⟩
theorem longs_row (w : World) : Calls Tryz.prog 64 #[] w fun e w' => e = .returned (.slice (some ⟨w.heap.size, 0, none⟩) 7 7) ∧ Hid (RowAt w' w.heap.size dayL ∧ Below w.heap.size w w') :=
  (refLongs_any w).mono fun e w' ⟨he, hw⟩ => ⟨he, Lib.hid ⟨by rw [hw]; exact heap_alloc_new w _, by rw [hw]; exact (Below.refl _ _).alloc (Nat.le_refl _) _⟩⟩
theorem index_row {L : List Bs} {g : Nat} {x : World} (h : RowAt x g L) (hl : L.length ≤ 100) (n : Nat) (hn : n = L.length) (s : ByteArray) : Calls Tryz.prog 63 #[.slice (some ⟨g, 0, none⟩) n n, .string s] x fun e w' => e = .returned (.int .i64 (idxF L s.data.toList)) ∧ w' = x :=
  refIndex_any L s g n n x hn hl (row_cells h)
theorem ext_list (s : ByteArray) (a b : Nat) : (s.extract a b).toList = sl s.data.toList a b := by rw [Lib.toList_data, Lib.extract_data]; rfl
theorem get_u8 {s : ByteArray} {i : Nat} (h : i < s.size) : s[i] = s.data.toList.getD i 0 := by
  rw [List.getD_eq_getElem?_getD, List.getElem?_eq_getElem (by simpa using h)]; rfl
theorem eq32 (b : UInt8) (n : UInt8) : ((b.toNat : Int) == (n.toNat : Int)) = decide (b = n) := by
  by_cases h : b = n
  · subst h; simp
  · have : ¬ (b.toNat : Int) = (n.toNat : Int) := fun e => h (UInt8.toNat_inj.1 (by omega))
    simp [h, this]
set_option maxRecDepth 100000 in
set_option maxHeartbeats 16000000 in
theorem refParse_plain (s : ByteArray) (w : World) (hs : sepP s.data.toList) : Calls Tryz.prog 32 #[.string s] w (PairPost (readF s.data.toList) w) := by
  have hl : s.size = 29 := by have := hs.1; simpa using this
  have hls : 29 ≤ s.size := by omega
  have HR := Lib.hid (ref_plain _ hs)
  obtain ⟨_, a1, a2, a3, a4, a5⟩ := hs
  have t35 : ((s.extract 3 5).toList == [44, 32]) = true := by rw [ext_list, a1]; exact beq_self_eq_true _
  have hext : s.extract 25 s.size = s.extract 25 29 := by rw [hl]
  have t25 : ((s.extract 25 29).toList == [32, 71, 77, 84]) = true := by rw [ext_list, a5]; exact beq_self_eq_true _
  have t7 : ((s[7]'(Nat.lt_of_lt_of_le (by decide) hls)).toNat : Int) = 32 := by rw [get_u8, a2]; rfl
  have t11 : ((s[11]'(Nat.lt_of_lt_of_le (by decide) hls)).toNat : Int) = 32 := by rw [get_u8, a3]; rfl
  have t16 : ((s[16]'(Nat.lt_of_lt_of_le (by decide) hls)).toNat : Int) = 32 := by rw [get_u8, a4]; rfl
  have x1 : (s.extract 5 7).data.toList = sl s.data.toList 5 7 := by rw [Lib.extract_data]; rfl
  have x2 : (s.extract 12 16).data.toList = sl s.data.toList 12 16 := by rw [Lib.extract_data]; rfl
  have x3 : (s.extract 0 3).data.toList = sl s.data.toList 0 3 := by rw [Lib.extract_data]; rfl
  have x4 : (s.extract 8 11).data.toList = sl s.data.toList 8 11 := by rw [Lib.extract_data]; rfl
  have x5 : (s.extract 17 25).data.toList = sl s.data.toList 17 25 := by rw [Lib.extract_data]; rfl
  obtain ⟨S1, h1⟩ : ∃ x, s.extract 5 7 = x := ⟨_, rfl⟩
  obtain ⟨S2, h2⟩ : ∃ x, s.extract 12 16 = x := ⟨_, rfl⟩
  obtain ⟨S3, h3⟩ : ∃ x, s.extract 0 3 = x := ⟨_, rfl⟩
  obtain ⟨S4, h4⟩ : ∃ x, s.extract 8 11 = x := ⟨_, rfl⟩
  obtain ⟨S5, h5⟩ : ∃ x, s.extract 17 25 = x := ⟨_, rfl⟩
  have z1 : S1.size ≤ 4 := by rw [← h1, ByteArray.size_extract]; omega
  have z2 : S2.size ≤ 4 := by rw [← h2, ByteArray.size_extract]; omega
  have z5 : S5.size = 8 := by rw [← h5, ByteArray.size_extract]; omega
  rw [h1] at x1
  rw [h2] at x2
  rw [h3] at x3
  rw [h4] at x4
  rw [h5] at x5
  have D1 := fun x => refDigits_any S1 x z1
  have D2 := fun x => refDigits_any S2 x z2
  unfold numV at D1 D2
  rw [x1] at D1
  rw [x2] at D2
  have l1 := num_le4 (sl s.data.toList 5 7)
  have l2 := num_le4 (sl s.data.toList 12 16)
  have C1 := Lib.hid D1
  have C2 := Lib.hid D2
  have i1 := idx_lt day3L (sl s.data.toList 0 3)
  have i2 := idx_ge day3L (sl s.data.toList 0 3)
  have i3 := idx_lt monL (sl s.data.toList 8 11)
  have i4 := idx_ge monL (sl s.data.toList 8 11)
  have e7 : day3L.length = 7 := rfl
  have e12 : monL.length = 12 := rfl
  obtain ⟨R, hR⟩ : ∃ R, readF s.data.toList = R := ⟨_, rfl⟩
  obtain ⟨o1, ho1⟩ : ∃ o, numF (sl s.data.toList 5 7) 4 = o := ⟨_, rfl⟩
  obtain ⟨o2, ho2⟩ : ∃ o, numF (sl s.data.toList 12 16) 4 = o := ⟨_, rfl⟩
  rw [ho1] at C1 l1 HR
  rw [ho2] at C2 l2 HR
  rw [hR] at HR ⊢
  have X3 := Lib.hid x3
  have X4 := Lib.hid x4
  have X5 := Lib.hid x5
  have Z5 := Lib.hid z5
  have I := Lib.hid (show (-1 ≤ idxF day3L (sl s.data.toList 0 3) ∧ idxF day3L (sl s.data.toList 0 3) ≤ 6) ∧ (-1 ≤ idxF monL (sl s.data.toList 8 11) ∧ idxF monL (sl s.data.toList 8 11) ≤ 11) from ⟨⟨i2, by omega⟩, ⟨i4, by omega⟩⟩)
  have e29 : (((s.size : Nat) : Int) == 29) = true := by rw [hl]; rfl
  have q7 : (((s[7]'(Nat.lt_of_lt_of_le (by decide) hls)).toNat : Int) == 32) = true := by rw [t7]; rfl
  have q11 : (((s[11]'(Nat.lt_of_lt_of_le (by decide) hls)).toNat : Int) == 32) = true := by rw [t11]; rfl
  have q16 : (((s[16]'(Nat.lt_of_lt_of_le (by decide) hls)).toNat : Int) == 32) = true := by rw [t16]; rfl
  have b3 : (3 : Int) ≤ (s.size : Int) := by omega
  have b11 : (11 : Int) ≤ (s.size : Int) := by omega
  have b25 : (25 : Int) ≤ (s.size : Int) := by omega
  have HL := Lib.hid hl
  clear D1 D2 a1 a2 a3 a4 a5 x1 x2 x3 x4 x5 z1 z2 z5 i1 i2 i3 i4 e7 e12 hR ho1 ho2 t7 t11 t16 hl
  unfold PairPost
  cases o1 with
  | none =>
    have HN : Hid (R = (0, 80)) := Lib.hid (by rw [← HR.out])
    clear HR
    go_enter Tryz.func32, Tryz.ntmps32
    go_wp2_with fail
    refine (C1.out w).mono ?_
    rintro e w1 ⟨rfl, hw1⟩
    replace hw1 := hw1.symm
    subst hw1
    go_wp2_with fail
    refine (C2.out w).mono ?_
    rintro e w1 ⟨rfl, hw1⟩
    replace hw1 := hw1.symm
    subst hw1
    go_wp2
    go_ret2
    exact ⟨by rw [HN.out]; rfl, Below.refl _ _⟩
  | some d =>
    cases o2 with
    | none =>
      have HN : Hid (R = (0, 80)) := Lib.hid (by rw [← HR.out])
      clear HR
      go_enter Tryz.func32, Tryz.ntmps32
      go_wp2_with fail
      refine (C1.out w).mono ?_
      rintro e w1 ⟨rfl, hw1⟩
      replace hw1 := hw1.symm
      subst hw1
      go_wp2_with fail
      refine (C2.out w).mono ?_
      rintro e w1 ⟨rfl, hw1⟩
      replace hw1 := hw1.symm
      subst hw1
      go_wp2
      go_ret2
      exact ⟨by rw [HN.out]; rfl, Below.refl _ _⟩
    | some y =>
      have HN : Hid (R = madeF (idxF day3L (sl s.data.toList 0 3)) y (idxF monL (sl s.data.toList 8 11)) d (sl s.data.toList 17 25)) := Lib.hid (by rw [← HR.out])
      have CI1 : Hid (∀ (x : World) (g : Nat), RowAt x g day3L → Calls Tryz.prog 63 #[.slice (some ⟨g, 0, none⟩) 7 7, .string S3] x fun e w' => e = .returned (.int .i64 (idxF day3L (sl s.data.toList 0 3))) ∧ w' = x) := Lib.hid (fun x g h => by rw [← X3.out]; exact index_row h (by decide) 7 rfl S3)
      have CI2 : Hid (∀ (x : World) (g : Nat), RowAt x g monL → Calls Tryz.prog 63 #[.slice (some ⟨g, 0, none⟩) 12 12, .string S4] x fun e w' => e = .returned (.int .i64 (idxF monL (sl s.data.toList 8 11))) ∧ w' = x) := Lib.hid (fun x g h => by rw [← X4.out]; exact index_row h (by decide) 12 rfl S4)
      have CM : Hid (∀ (x : World), Calls Tryz.prog 62 #[.int .i64 (idxF day3L (sl s.data.toList 0 3)), .int .i64 y, .int .i64 (idxF monL (sl s.data.toList 8 11)), .int .i64 d, .string S5] x (PairPost (madeF (idxF day3L (sl s.data.toList 0 3)) y (idxF monL (sl s.data.toList 8 11)) d (sl s.data.toList 17 25)) x)) := Lib.hid (fun x => by rw [← X5.out]; exact refMade_any (idxF day3L (sl s.data.toList 0 3)) y (idxF monL (sl s.data.toList 8 11)) d S5 x I.out.1.1 I.out.1.2 l2 I.out.2.1 I.out.2.2 l1 Z5.out)
      obtain ⟨n1, hn1⟩ : ∃ n, idxF day3L (sl s.data.toList 0 3) = n := ⟨_, rfl⟩
      obtain ⟨n2, hn2⟩ : ∃ n, idxF monL (sl s.data.toList 8 11) = n := ⟨_, rfl⟩
      rw [hn1] at HN CI1 CM I
      rw [hn2] at HN CI2 CM I
      rw [← HN.out] at CM
      clear HR hn1 hn2
      simp only [Option.getD_some, Option.isSome_some] at C1 C2 l1 l2
      unfold PairPost at CM
      go_enter Tryz.func32, Tryz.ntmps32
      go_wp2_with fail
      refine (C1.out w).mono ?_
      rintro e w1 ⟨rfl, hw1⟩
      replace hw1 := hw1.symm
      subst hw1
      go_wp2_with fail
      refine (C2.out w).mono ?_
      rintro e w1 ⟨rfl, hw1⟩
      replace hw1 := hw1.symm
      subst hw1
      go_wp2
      go_region_held3 (fun _ => True) (exact trivial) (first
        | (go_simp
           go_at_call 49
           (with_reducible refine Calls.mono (days_row _) ?_)
           rintro e x1 ⟨rfl, hx1⟩
           have hr1 : RowAt x1 w.heap.size day3L := hx1.out.1)
        | (go_simp
           go_at_call 63
           (with_reducible refine Calls.mono (CI1.out _ _ hr1) ?_)
           rintro e x2 ⟨rfl, hx2⟩
           replace hx2 := hx2.symm
           subst hx2)
        | (go_simp
           go_at_call 51
           (with_reducible refine Calls.mono (months_row _) ?_)
           rintro e x3 ⟨rfl, hx3⟩
           have hr3 := hx3.out.1)
        | (go_simp
           go_at_call 63
           (with_reducible refine Calls.mono (CI2.out _ _ hr3) ?_)
           rintro e x4 ⟨rfl, hx4⟩
           replace hx4 := hx4.symm
           subst hx4)
        | (go_simp
           go_at_call 62
           (with_reducible refine Calls.mono (CM.out _) ?_)
           rintro e x5 ⟨rfl, hx5⟩)
        | fail)
      have hf1 : Below w.heap.size w x1 := (Below.drew (Below.refl _ _)).trans hx1.out.2
      have hf3 := hf1.trans (hx3.out.2.mono hf1.size)
      have HF := Lib.hid (hf3.trans (hx5.mono hf3.size))
      clear hf1 hf3 hx5 hr1 hr3
      go_wp2
      go_ret2
      exact ⟨rfl, HF.out⟩
end Go.Proofs.YtkbcklaloblmeaaGreatDoor
