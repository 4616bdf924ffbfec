/-
  A date of the third form that is read.
-/
import Derived.Test.YtfnpncmdeimcbaaDoorDateParse
namespace Go.Proofs.YtfnpncmdeimcbaaDoor
open Go.RowKit DateMath

theorem trim_sp (l : Bs) : (⟨(Lib.trimPrefix l (⟨#[32]⟩ : ByteArray).data.toList).toArray⟩ : ByteArray).data.toList = noSp l := by
  show Lib.trimPrefix l [32] = noSp l
  unfold Lib.trimPrefix noSp
  cases l with
  | nil => rfl
  | cons a l =>
    by_cases h : a = 32
    · subst h; simp [Lib.hasPrefix]
    · have h' : ¬ (32 : UInt8) = a := fun e => h e.symm
      simp [h, h', Lib.hasPrefix]
theorem trim_sp_len (l : Bs) : (noSp l).length ≤ l.length := by
  unfold noSp
  split <;> simp
set_option maxRecDepth 100000 in
set_option maxHeartbeats 16000000 in
theorem parse_old (s : ByteArray) (w : World) (h1 : TabP w) (h2 : TabS w) (hl : s.size = 24) (hk : Lib.indexByte s.data.toList 44 = -1) :
    Calls Tryd.prog 10 #[.string s] w (ParseDPost s.data.toList w) := by
  obtain ⟨w0, hw0⟩ : ∃ w0, w.alloc (.cells cal0 50) = w0 := ⟨_, rfl⟩
  have hcn := cal_new w
  have htn := tabs_new h1 h2
  have hs0 : Spares nowhere w (w.alloc (.cells cal0 50)) := (Spares.refl _ _).alloc _
  rw [hw0] at hcn htn hs0
  have hll : s.data.toList.length = 24 := by simpa using hl
  have x1 : (s.extract 8 10).data.toList = sl s.data.toList 8 10 := by rw [Lib.extract_data]; rfl
  have x2 : (s.extract 4 7).data.toList = sl s.data.toList 4 7 := by rw [Lib.extract_data]; rfl
  have x3 : (s.extract 20 24).data.toList = sl s.data.toList 20 24 := by rw [Lib.extract_data]; rfl
  have x4 : (s.extract 11 19).data.toList = sl s.data.toList 11 19 := by rw [Lib.extract_data]; rfl
  obtain ⟨d, hd⟩ : ∃ x, s.extract 8 10 = x := ⟨_, rfl⟩
  obtain ⟨mo, hmo⟩ : ∃ x, s.extract 4 7 = x := ⟨_, rfl⟩
  obtain ⟨y, hy⟩ : ∃ x, s.extract 20 24 = x := ⟨_, rfl⟩
  obtain ⟨c, hc⟩ : ∃ x, s.extract 11 19 = x := ⟨_, rfl⟩
  have zd : d.size ≤ 100 := by rw [← hd, ByteArray.size_extract]; omega
  have zmo : mo.size ≤ 100 := by rw [← hmo, ByteArray.size_extract]; omega
  have zy : y.size ≤ 100 := by rw [← hy, ByteArray.size_extract]; omega
  have zc : c.size = 8 := by rw [← hc, ByteArray.size_extract]; omega
  rw [hd] at x1
  rw [hmo] at x2
  rw [hy] at x3
  rw [hc] at x4
  have htp := fun x => Tryd.strings_TrimPrefix d ⟨#[32]⟩ x
  obtain ⟨D, hD⟩ : ∃ D : ByteArray, ⟨(Lib.trimPrefix d.data.toList (⟨#[32]⟩ : ByteArray).data.toList).toArray⟩ = D := ⟨_, rfl⟩
  rw [hD] at htp
  have hDl : D.data.toList = noSp (sl s.data.toList 8 10) := by
    rw [← hD, ← x1]
    exact trim_sp _
  have zD : D.size ≤ 100 := by
    have h := trim_sp_len d.data.toList
    rw [← x1] at hDl
    have e : D.data.toList.length = D.size := by simp
    have e2 : d.data.toList.length = d.size := by simp
    rw [hDl] at e
    omega
  have HTP := Lib.hid htp
  clear htp hD
  have CR := fun x (hx : Spares nowhere w0 x) => read_any D mo y c w.heap.size x (CalIs.spares hcn hx (fun h => h)) (htn.below hx.below0) zD zmo zy zc
  have hchk := check_old s.data.toList hll _ rfl
  rw [hDl, x2, x3, x4] at CR
  obtain ⟨r, hr⟩ : ∃ r, rawOf (noSp (sl s.data.toList 8 10)) (sl s.data.toList 4 7) (sl s.data.toList 20 24) (sl s.data.toList 11 19) = r := ⟨_, rfl⟩
  have hrl := raw_le (noSp (sl s.data.toList 8 10)) (sl s.data.toList 4 7) (sl s.data.toList 20 24) (sl s.data.toList 11 19)
  rw [hr] at CR hchk hrl
  have CC := fun x (hc : CalAt x w.heap.size) (ht : Tabs x w.heap.size) => checked_any 20 oldT r r.year s w.heap.size x hc ht hrl.1 hrl.2.1 hrl.2.2.1 hrl.2.2.2.1 hrl.2.2.2.2.1 hrl.2.2.2.2.2 ent_old (fun m x hm hc ht => old_any m w.heap.size x hm (.inr hc) ht)
  rw [hchk] at CC
  unfold momC at CC
  unfold ReadPost momC at CR
  have HCR := Lib.hid CR
  have HK := Lib.hid hk
  have HW0 := Lib.hid hw0
  have HTN := Lib.hid htn
  have HS0 := Lib.hid hs0
  have HCC := Lib.hid CC
  clear hchk CR CC hk hw0 htn hs0 hcn x1 x2 x3 x4 hll zd zmo zy zc hr hrl h1 h2 hDl zD
  have HNP : Hid (w0.heap.size ≠ w.heap.size ∧ w.heap.size ≤ w0.heap.size) := Lib.hid (by rw [← HW0.out]; simp)
  unfold ParseDPost
  go_enter Tryd.func10, Tryd.ntmps10
  go_wp2_with fail
  change Calls _ _ _ (w.alloc (.cells cal0 50)) _
  rw [HW0.out]
  refine (Tryd.strings_IndexByte _ _ _).mono ?_
  rintro e w' ⟨rfl, hw'⟩
  rw [show ((44 : Int)).toNat.toUInt8 = 44 from rfl, HK.out]
  replace hw' := hw'.symm
  subst hw'
  have e29 : (((s.size : Nat) : Int) == 29) = false := by rw [hl]; rfl
  go_wp2
  go_region_held3 (fun _ => True) (exact trivial) (first
    | (go_simp
       go_at_call 19
       (with_reducible refine Calls.mono (HTP.out _) ?_)
       rintro e xt ⟨rfl, rfl⟩)
    | (go_simp
       go_at_call 16
       (with_reducible refine Calls.mono (HCR.out _ (Spares.drew (Spares.refl _ _))) ?_)
       rintro e x1 ⟨rfl, hc1, hs1⟩)
    | (go_simp
       go_at_call 16
       (with_reducible refine Calls.mono (HCR.out _ (Spares.drew (Spares.alloc (Spares.refl _ _) _))) ?_)
       rintro e x1 ⟨rfl, hc1, hs1⟩
       obtain ⟨⟨k0, k1, k2, k3, k4, k5, k6⟩, l0, l1, l2, l3, l4, l5, l6⟩ := mom_zero hs1 HNP.out.1
       )
    | fail)
  · obtain ⟨X, hX⟩ : ∃ X, x1.alloc (.cells #[.int .i64 r.year, .int .i64 r.mon, .int .i64 r.day, .int .i64 r.hour, .int .i64 r.min, .int .i64 r.sec, .int .i64 0] 53) = X := ⟨_, rfl⟩
    rw [hX]
    have hs1' : Spares (fun b => b = w.heap.size) w0 x1 := ((Spares.refl (fun b => b = w.heap.size) w0).drew).trans hs1
    have hsX : Spares (fun b => b = w.heap.size) w0 X := by rw [← hX]; exact hs1'.alloc _
    have hcX : CalAt X w.heap.size := hc1.below (by rw [← hX]; exact (Below.refl _ _).alloc (Nat.le_refl _) _)
    have htX := HTN.out.spares hsX
    have hbX : Below w.heap.size w X := HS0.out.below0.trans (hsX.below HNP.out.2 (fun j hj e => by omega))
    have hq : X.heap[x1.heap.size]? = some (.cells (momC r.year r.mon r.day r.hour r.min r.sec 0) 53 (0, 0)) := by rw [← hX]; exact heap_alloc_new x1 _
    have hql : w.heap.size ≤ x1.heap.size := Nat.le_trans HNP.out.2 hs1'.size
    have hqn : x1.heap.size ≠ w.heap.size := fun e => by have := hs1'.size; have := HNP.out; omega
    obtain ⟨q, hqe⟩ : ∃ q, x1.heap.size = q := ⟨_, rfl⟩
    rw [hqe] at hq hql hqn
    rw [hqe]
    clear hqe hX hs1 hs1' hsX hc1
    have HBX := Lib.hid hbX
    have c0 : X.cell? ⟨q, 0, none⟩ = some (.int .i64 r.year) := by rw [Lib.cell_of_heap hq]; rfl
    have c1 : X.cell? ⟨q, 1, none⟩ = some (.int .i64 r.mon) := by rw [Lib.cell_of_heap hq]; rfl
    have c2 : X.cell? ⟨q, 2, none⟩ = some (.int .i64 r.day) := by rw [Lib.cell_of_heap hq]; rfl
    have c3 : X.cell? ⟨q, 3, none⟩ = some (.int .i64 r.hour) := by rw [Lib.cell_of_heap hq]; rfl
    have c4 : X.cell? ⟨q, 4, none⟩ = some (.int .i64 r.min) := by rw [Lib.cell_of_heap hq]; rfl
    have c5 : X.cell? ⟨q, 5, none⟩ = some (.int .i64 r.sec) := by rw [Lib.cell_of_heap hq]; rfl
    have c6 : X.cell? ⟨q, 6, none⟩ = some (.int .i64 0) := by rw [Lib.cell_of_heap hq]; rfl
    have CX := Lib.hid (HCC.out X hcX htX)
    clear hq hcX htX hbX hqn hql
    go_wp2_with fail
    refine CX.out.mono ?_
    rintro e x2 ⟨rfl, hs2⟩
    have HF := Lib.hid (HBX.out.trans (hs2.below HBX.out.size (fun j hj e => by omega)))
    clear hs2
    go_wp2
    go_ret2
    exact ⟨rfl, HF.out⟩
  all_goals
    obtain ⟨hwr, hsp⟩ := mom_written' (yn := r.year) (mk := r.mon) (dn := r.day) (hn := r.hour) (mn := r.min) (sn := r.sec) (hs1.heap (heap_alloc_new w0 _) HNP.out.1)
    obtain ⟨X, hX⟩ : ∃ X, (((((((x1.setCell ⟨w0.heap.size, 0, none⟩ (.int .i64 r.year)).setCell ⟨w0.heap.size, 1, none⟩ (.int .i64 r.mon)).setCell ⟨w0.heap.size, 2, none⟩ (.int .i64 r.day)).setCell ⟨w0.heap.size, 3, none⟩ (.int .i64 r.hour)).setCell ⟨w0.heap.size, 4, none⟩ (.int .i64 r.min)).setCell ⟨w0.heap.size, 5, none⟩ (.int .i64 r.sec)).setCell ⟨w0.heap.size, 6, none⟩ (.int .i64 0)) = X := ⟨_, rfl⟩
    rw [hX] at hwr hsp
    rw [hX]
    have hs1' : Spares (fun b => b = w.heap.size) w0 x1 := (((Spares.refl (fun b => b = w.heap.size) w0).alloc _).drew).trans hs1
    have hcX : CalAt X w.heap.size := cal_other hc1 (hs1.heap (heap_alloc_new w0 _) HNP.out.1) HNP.out.1 hsp
    have htX : Tabs X w.heap.size := tabs_other (HTN.out.spares hs1') HNP.out.2 hsp
    have hbX : Below w.heap.size w X := (HS0.out.below0.trans (hs1'.below HNP.out.2 (fun j hj e => by omega))).trans (hsp.below (Nat.le_trans HNP.out.2 hs1'.size) (fun j hj e => by have := HNP.out.2; omega))
    have hq := hwr
    have hql := HNP.out.2
    have hqn := HNP.out.1
    obtain ⟨q, hqe⟩ : ∃ q, w0.heap.size = q := ⟨_, rfl⟩
    rw [hqe] at hq hql hqn
    rw [hqe]
    clear hqe hX hs1 hs1' hc1 hwr hsp k0 k1 k2 k3 k4 k5 k6 l0 l1 l2 l3 l4 l5 l6
    have HBX := Lib.hid hbX
    have c0 : X.cell? ⟨q, 0, none⟩ = some (.int .i64 r.year) := by rw [Lib.cell_of_heap hq]; rfl
    have c1 : X.cell? ⟨q, 1, none⟩ = some (.int .i64 r.mon) := by rw [Lib.cell_of_heap hq]; rfl
    have c2 : X.cell? ⟨q, 2, none⟩ = some (.int .i64 r.day) := by rw [Lib.cell_of_heap hq]; rfl
    have c3 : X.cell? ⟨q, 3, none⟩ = some (.int .i64 r.hour) := by rw [Lib.cell_of_heap hq]; rfl
    have c4 : X.cell? ⟨q, 4, none⟩ = some (.int .i64 r.min) := by rw [Lib.cell_of_heap hq]; rfl
    have c5 : X.cell? ⟨q, 5, none⟩ = some (.int .i64 r.sec) := by rw [Lib.cell_of_heap hq]; rfl
    have c6 : X.cell? ⟨q, 6, none⟩ = some (.int .i64 0) := by rw [Lib.cell_of_heap hq]; rfl
    have CX := Lib.hid (HCC.out X hcX htX)
    clear hq hcX htX hbX hqn hql
    go_wp2_with fail
    refine CX.out.mono ?_
    rintro e x2 ⟨rfl, hs2⟩
    have HF := Lib.hid (HBX.out.trans (hs2.below HBX.out.size (fun j hj e => by omega)))
    clear hs2
    go_wp2
    go_ret2
    exact ⟨rfl, HF.out⟩
end Go.Proofs.YtfnpncmdeimcbaaDoor
