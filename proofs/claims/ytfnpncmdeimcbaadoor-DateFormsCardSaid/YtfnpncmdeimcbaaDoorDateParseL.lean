/-
  A date of the second form that is read.
-/
import Derived.Test.YtfnpncmdeimcbaaDoorDateParse
namespace Go.Proofs.YtfnpncmdeimcbaaDoor
open Go.RowKit DateMath

set_option maxRecDepth 100000 in
set_option maxHeartbeats 16000000 in
theorem parse_long (s : ByteArray) (w : World) (h1 : TabP w) (h2 : TabS w) (k : Nat) (hk6 : 6 ≤ k) (hkb : k ≤ 140737488351232) (hl : s.size = k + 24) (hk : Lib.indexByte s.data.toList 44 = (k : Int)) :
    Calls Tryd.prog 10 #[.string s] w (ParseDPost s.data.toList w) := by
  obtain ⟨w0, hw0⟩ : ∃ w0, w.alloc (.cells cal0 50) = w0 := ⟨_, rfl⟩
  have hcn := cal_new w
  have htn := tabs_new h1 h2
  have hs0 : Spares nowhere w (w.alloc (.cells cal0 50)) := (Spares.refl _ _).alloc _
  rw [hw0] at hcn htn hs0
  have hll : s.data.toList.length = k + 24 := by simpa using hl
  have x1 : (s.extract (k + 2) (k + 4)).data.toList = sl s.data.toList (k + 2) (k + 4) := by rw [Lib.extract_data]; rfl
  have x2 : (s.extract (k + 5) (k + 8)).data.toList = sl s.data.toList (k + 5) (k + 8) := by rw [Lib.extract_data]; rfl
  have x3 : (s.extract (k + 9) (k + 11)).data.toList = sl s.data.toList (k + 9) (k + 11) := by rw [Lib.extract_data]; rfl
  have x4 : (s.extract (k + 12) (k + 20)).data.toList = sl s.data.toList (k + 12) (k + 20) := by rw [Lib.extract_data]; rfl
  obtain ⟨d, hd⟩ : ∃ x, s.extract (k + 2) (k + 4) = x := ⟨_, rfl⟩
  obtain ⟨mo, hmo⟩ : ∃ x, s.extract (k + 5) (k + 8) = x := ⟨_, rfl⟩
  obtain ⟨y, hy⟩ : ∃ x, s.extract (k + 9) (k + 11) = x := ⟨_, rfl⟩
  obtain ⟨c, hc⟩ : ∃ x, s.extract (k + 12) (k + 20) = x := ⟨_, rfl⟩
  have zd : d.size ≤ 100 := by rw [← hd, ByteArray.size_extract]; omega
  have zmo : mo.size ≤ 100 := by rw [← hmo, ByteArray.size_extract]; omega
  have zy : y.size ≤ 100 := by rw [← hy, ByteArray.size_extract]; omega
  have zc : c.size = 8 := by rw [← hc, ByteArray.size_extract]; omega
  rw [hd] at x1
  rw [hmo] at x2
  rw [hy] at x3
  rw [hc] at x4
  have CR := fun x (hx : Spares nowhere w0 x) => read_any d mo y c w.heap.size x (CalIs.spares hcn hx (fun h => h)) (htn.below hx.below0) zd zmo zy zc
  have hchk := check_long s.data.toList k hk6 hk hll _ rfl
  rw [x1, x2, x3, x4] at CR
  obtain ⟨r, hr⟩ : ∃ r, rawOf (sl s.data.toList (k + 2) (k + 4)) (sl s.data.toList (k + 5) (k + 8)) (sl s.data.toList (k + 9) (k + 11)) (sl s.data.toList (k + 12) (k + 20)) = r := ⟨_, rfl⟩
  have hrl := raw_le (sl s.data.toList (k + 2) (k + 4)) (sl s.data.toList (k + 5) (k + 8)) (sl s.data.toList (k + 9) (k + 11)) (sl s.data.toList (k + 12) (k + 20))
  have hy99 : (rawOf (sl s.data.toList (k + 2) (k + 4)) (sl s.data.toList (k + 5) (k + 8)) (sl s.data.toList (k + 9) (k + 11)) (sl s.data.toList (k + 12) (k + 20))).year ≤ 99 := by
    show (numF (sl s.data.toList (k + 9) (k + 11)) 4).getD 0 ≤ 99
    apply val_two
    unfold sl
    rw [List.length_take, List.length_drop]
    omega
  rw [hr] at CR hchk hrl hy99
  have CC := fun x (hc : CalAt x w.heap.size) (ht : Tabs x w.heap.size) => checked_any 18 longT r (yearL r.year) s w.heap.size x hc ht (by unfold yearL; split <;> omega) hrl.2.1 hrl.2.2.1 hrl.2.2.2.1 hrl.2.2.2.2.1 hrl.2.2.2.2.2 ent_long (fun m x hm hc ht => long_any m w.heap.size x hm (.inr hc) ht)
  rw [hchk] at CC
  unfold momC at CC
  unfold ReadPost momC at CR
  have HCR := Lib.hid CR
  have HK := Lib.hid hk
  have HW0 := Lib.hid hw0
  have HTN := Lib.hid htn
  have HS0 := Lib.hid hs0
  have HCC := Lib.hid CC
  clear hchk CR CC hk hw0 htn hs0 hcn x1 x2 x3 x4 hll zd zmo zy zc hr hrl h1 h2
  have HNP : Hid (w0.heap.size ≠ w.heap.size ∧ w.heap.size ≤ w0.heap.size) := Lib.hid (by rw [← HW0.out]; simp)
  unfold ParseDPost
  go_enter Tryd.func10, Tryd.ntmps10
  go_wp2_with fail
  change Calls _ _ _ (w.alloc (.cells cal0 50)) _
  rw [HW0.out]
  refine (Tryd.strings_IndexByte _ _ _).mono ?_
  rintro e w' ⟨rfl, hw'⟩
  rw [show ((44 : Int)).toNat.toUInt8 = 44 from rfl, HK.out]
  replace hw' := hw'.symm
  subst hw'
  have e3 : ((k : Int) == 3) = false := by simpa using (by omega : ¬ (k : Int) = 3)
  have e6 : decide (6 ≤ (k : Int)) = true := decide_eq_true (by omega)
  have e24 : (((s.size : Nat) : Int) == (k : Int) + 24) = true := by rw [hl]; simp
  have e29 : (((s.size : Nat) : Int) == 29) = true ∨ (((s.size : Nat) : Int) == 29) = false := by cases (((s.size : Nat) : Int) == 29) <;> simp
  have hla : k + 24 ≤ s.size := by omega
  have hlb : s.size ≤ k + 24 := by omega
  have HLL := Lib.hid hl
  clear hl
  rcases e29 with e29 | e29
  all_goals
    go_wp2
    have n2 : ((k : Int) + 2).toNat = k + 2 := by omega
    have p2 : 0 ≤ (k : Int) + 2 := by omega
    have n4 : ((k : Int) + 4).toNat = k + 4 := by omega
    have p4 : 0 ≤ (k : Int) + 4 := by omega
    have n5 : ((k : Int) + 5).toNat = k + 5 := by omega
    have p5 : 0 ≤ (k : Int) + 5 := by omega
    have n8 : ((k : Int) + 8).toNat = k + 8 := by omega
    have p8 : 0 ≤ (k : Int) + 8 := by omega
    have n9 : ((k : Int) + 9).toNat = k + 9 := by omega
    have p9 : 0 ≤ (k : Int) + 9 := by omega
    have n11 : ((k : Int) + 11).toNat = k + 11 := by omega
    have p11 : 0 ≤ (k : Int) + 11 := by omega
    have n12 : ((k : Int) + 12).toNat = k + 12 := by omega
    have p12 : 0 ≤ (k : Int) + 12 := by omega
    have n20 : ((k : Int) + 20).toNat = k + 20 := by omega
    have p20 : 0 ≤ (k : Int) + 20 := by omega
    have b4 : (k : Int) + 4 ≤ (s.size : Int) := by omega
    have a4 : (k : Int) + 2 ≤ (k : Int) + 4 := by omega
    have b8 : (k : Int) + 8 ≤ (s.size : Int) := by omega
    have a8 : (k : Int) + 5 ≤ (k : Int) + 8 := by omega
    have b11 : (k : Int) + 11 ≤ (s.size : Int) := by omega
    have a11 : (k : Int) + 9 ≤ (k : Int) + 11 := by omega
    have b20 : (k : Int) + 20 ≤ (s.size : Int) := by omega
    have a20 : (k : Int) + 12 ≤ (k : Int) + 20 := by omega
    have q2 : IntKind.i64.wrap ((k : Int) + 2) = (k : Int) + 2 := wrap_k k 2 hkb (by decide)
    have q4 : IntKind.i64.wrap ((k : Int) + 4) = (k : Int) + 4 := wrap_k k 4 hkb (by decide)
    have q5 : IntKind.i64.wrap ((k : Int) + 5) = (k : Int) + 5 := wrap_k k 5 hkb (by decide)
    have q8 : IntKind.i64.wrap ((k : Int) + 8) = (k : Int) + 8 := wrap_k k 8 hkb (by decide)
    have q9 : IntKind.i64.wrap ((k : Int) + 9) = (k : Int) + 9 := wrap_k k 9 hkb (by decide)
    have q11 : IntKind.i64.wrap ((k : Int) + 11) = (k : Int) + 11 := wrap_k k 11 hkb (by decide)
    have q12 : IntKind.i64.wrap ((k : Int) + 12) = (k : Int) + 12 := wrap_k k 12 hkb (by decide)
    have q20 : IntKind.i64.wrap ((k : Int) + 20) = (k : Int) + 20 := wrap_k k 20 hkb (by decide)
    go_region_held3 (fun _ => True) (exact trivial) (first
      | (go_simp
         go_at_call 16
         (with_reducible refine Calls.mono (HCR.out _ (Spares.drew (Spares.refl _ _))) ?_)
         rintro e x1 ⟨rfl, hc1, hs1⟩)
      | (go_simp
         go_at_call 16
         (with_reducible refine Calls.mono (HCR.out _ (Spares.drew (Spares.alloc (Spares.refl _ _) _))) ?_)
         rintro e x1 ⟨rfl, hc1, hs1⟩
         obtain ⟨⟨k0, k1, k2, k3, k4, k5, k6⟩, l0, l1, l2, l3, l4, l5, l6⟩ := mom_zero hs1 HNP.out.1
         )
      | fail)
    · clear b4 b8 b11 b20 a4 a8 a11 a20 n2 n4 n5 n8 n9 n11 n12 n20 p2 p4 p5 p8 p9 p11 p12 p20 q2 q4 q5 q8 q9 q11 q12 q20
      obtain ⟨X, hX⟩ : ∃ X, x1.alloc (.cells #[.int .i64 r.year, .int .i64 r.mon, .int .i64 r.day, .int .i64 r.hour, .int .i64 r.min, .int .i64 r.sec, .int .i64 0] 53) = X := ⟨_, rfl⟩
      rw [hX]
      have hs1' : Spares (fun b => b = w.heap.size) w0 x1 := ((Spares.refl (fun b => b = w.heap.size) w0).drew).trans hs1
      have hsX : Spares (fun b => b = w.heap.size) w0 X := by rw [← hX]; exact hs1'.alloc _
      have hcX : CalAt X w.heap.size := hc1.below (by rw [← hX]; exact (Below.refl _ _).alloc (Nat.le_refl _) _)
      have htX := HTN.out.spares hsX
      have hbX : Below w.heap.size w X := HS0.out.below0.trans (hsX.below HNP.out.2 (fun j hj e => by omega))
      have hq : X.heap[x1.heap.size]? = some (.cells (momC r.year r.mon r.day r.hour r.min r.sec 0) 53 (0, 0)) := by rw [← hX]; exact heap_alloc_new x1 _
      have hql : w.heap.size ≤ x1.heap.size := Nat.le_trans HNP.out.2 hs1'.size
      have hqn : x1.heap.size ≠ w.heap.size := fun e => by have := hs1'.size; have := HNP.out; omega
      obtain ⟨q, hqe⟩ : ∃ q, x1.heap.size = q := ⟨_, rfl⟩
      rw [hqe] at hq hql hqn
      rw [hqe]
      clear hqe hX hs1 hs1' hsX hc1
      have HBX := Lib.hid hbX
      have c0 : X.cell? ⟨q, 0, none⟩ = some (.int .i64 r.year) := by rw [Lib.cell_of_heap hq]; rfl
      have c1 : X.cell? ⟨q, 1, none⟩ = some (.int .i64 r.mon) := by rw [Lib.cell_of_heap hq]; rfl
      have c2 : X.cell? ⟨q, 2, none⟩ = some (.int .i64 r.day) := by rw [Lib.cell_of_heap hq]; rfl
      have c3 : X.cell? ⟨q, 3, none⟩ = some (.int .i64 r.hour) := by rw [Lib.cell_of_heap hq]; rfl
      have c4 : X.cell? ⟨q, 4, none⟩ = some (.int .i64 r.min) := by rw [Lib.cell_of_heap hq]; rfl
      have c5 : X.cell? ⟨q, 5, none⟩ = some (.int .i64 r.sec) := by rw [Lib.cell_of_heap hq]; rfl
      have c6 : X.cell? ⟨q, 6, none⟩ = some (.int .i64 0) := by rw [Lib.cell_of_heap hq]; rfl
      have z0 := Lib.frozen_of_heap hq 0
      have hqX : q < X.heap.size := (Array.getElem?_eq_some_iff.1 hq).1
      have CX := Lib.hid (fun X' (hx : Spares (fun b => b = q) X X') => HCC.out X' (cal_other hcX hq hqn hx) (tabs_other htX hql hx))
      have HBE := Lib.hid (fun X' (hx : Spares (fun b => b = q) X X') => HBX.out.trans (hx.below HBX.out.size (fun j hj e => by omega)))
      clear hq hcX htX hbX hqn
      by_cases hy : r.year + 1900 < 1970
      · have hyl : ((yearL r.year : Nat) : Int) = (r.year : Int) + 1900 + 100 := by unfold yearL; rw [if_pos hy]; omega
        have cx := CX.out
        rw [hyl] at cx
        replace CX := Lib.hid cx
        have i1 : (r.year : Int) + 1900 < 1970 := by omega
        have hsx : Spares (fun b => b = q) X ((X.setCell ⟨q, 0, none⟩ (.int .i64 ((r.year : Int) + 1900))).setCell ⟨q, 0, none⟩ (.int .i64 ((r.year : Int) + 1900 + 100))) := spares_setD (spares_setD (Spares.refl _ _) 0 _) 0 _
        have hsy : Spares (fun b => b = q) X (X.setCell ⟨q, 0, none⟩ (.int .i64 ((r.year : Int) + 1900 + 100))) := spares_setD (Spares.refl _ _) 0 _
        have HSX := Lib.hid hsx
        have HSY := Lib.hid hsy
        clear hyl cx hsx hsy hy
        go_wp2_with fail
        first
          | (refine (CX.out _ HSX.out).mono ?_
             rintro e x2 ⟨rfl, hs2⟩
             have hbe := HBE.out _ HSX.out
             have HF := Lib.hid (hbe.trans (hs2.below hbe.size (fun j hj e => by omega)))
             clear hs2 hbe)
          | (refine (CX.out _ HSY.out).mono ?_
             rintro e x2 ⟨rfl, hs2⟩
             have hbe := HBE.out _ HSY.out
             have HF := Lib.hid (hbe.trans (hs2.below hbe.size (fun j hj e => by omega)))
             clear hs2 hbe)
        go_wp2
        go_ret2
        exact ⟨rfl, HF.out⟩
      · have hyl : ((yearL r.year : Nat) : Int) = (r.year : Int) + 1900 := by unfold yearL; rw [if_neg hy]; omega
        have cx := CX.out
        rw [hyl] at cx
        replace CX := Lib.hid cx
        have i1 : ¬ (r.year : Int) + 1900 < 1970 := by omega
        have hsx : Spares (fun b => b = q) X (X.setCell ⟨q, 0, none⟩ (.int .i64 ((r.year : Int) + 1900))) := spares_setD (Spares.refl _ _) 0 _
        have HSX := Lib.hid hsx
        clear hyl cx hsx hy
        go_wp2_with fail
        refine (CX.out _ HSX.out).mono ?_
        rintro e x2 ⟨rfl, hs2⟩
        have hbe := HBE.out _ HSX.out
        have HF := Lib.hid (hbe.trans (hs2.below hbe.size (fun j hj e => by omega)))
        clear hs2 hbe
        go_wp2
        go_ret2
        exact ⟨rfl, HF.out⟩
    all_goals
      clear b4 b8 b11 b20 a4 a8 a11 a20 n2 n4 n5 n8 n9 n11 n12 n20 p2 p4 p5 p8 p9 p11 p12 p20 q2 q4 q5 q8 q9 q11 q12 q20
      obtain ⟨hwr, hsp⟩ := mom_written' (yn := r.year) (mk := r.mon) (dn := r.day) (hn := r.hour) (mn := r.min) (sn := r.sec) (hs1.heap (heap_alloc_new w0 _) HNP.out.1)
      obtain ⟨X, hX⟩ : ∃ X, (((((((x1.setCell ⟨w0.heap.size, 0, none⟩ (.int .i64 r.year)).setCell ⟨w0.heap.size, 1, none⟩ (.int .i64 r.mon)).setCell ⟨w0.heap.size, 2, none⟩ (.int .i64 r.day)).setCell ⟨w0.heap.size, 3, none⟩ (.int .i64 r.hour)).setCell ⟨w0.heap.size, 4, none⟩ (.int .i64 r.min)).setCell ⟨w0.heap.size, 5, none⟩ (.int .i64 r.sec)).setCell ⟨w0.heap.size, 6, none⟩ (.int .i64 0)) = X := ⟨_, rfl⟩
      rw [hX] at hwr hsp
      rw [hX]
      have hs1' : Spares (fun b => b = w.heap.size) w0 x1 := (((Spares.refl (fun b => b = w.heap.size) w0).alloc _).drew).trans hs1
      have hcX : CalAt X w.heap.size := cal_other hc1 (hs1.heap (heap_alloc_new w0 _) HNP.out.1) HNP.out.1 hsp
      have htX : Tabs X w.heap.size := tabs_other (HTN.out.spares hs1') HNP.out.2 hsp
      have hbX : Below w.heap.size w X := (HS0.out.below0.trans (hs1'.below HNP.out.2 (fun j hj e => by omega))).trans (hsp.below (Nat.le_trans HNP.out.2 hs1'.size) (fun j hj e => by have := HNP.out.2; omega))
      have hq := hwr
      have hql := HNP.out.2
      have hqn := HNP.out.1
      obtain ⟨q, hqe⟩ : ∃ q, w0.heap.size = q := ⟨_, rfl⟩
      rw [hqe] at hq hql hqn
      rw [hqe]
      clear hqe hX hs1 hs1' hc1 hwr hsp k0 k1 k2 k3 k4 k5 k6 l0 l1 l2 l3 l4 l5 l6
      have HBX := Lib.hid hbX
      have c0 : X.cell? ⟨q, 0, none⟩ = some (.int .i64 r.year) := by rw [Lib.cell_of_heap hq]; rfl
      have c1 : X.cell? ⟨q, 1, none⟩ = some (.int .i64 r.mon) := by rw [Lib.cell_of_heap hq]; rfl
      have c2 : X.cell? ⟨q, 2, none⟩ = some (.int .i64 r.day) := by rw [Lib.cell_of_heap hq]; rfl
      have c3 : X.cell? ⟨q, 3, none⟩ = some (.int .i64 r.hour) := by rw [Lib.cell_of_heap hq]; rfl
      have c4 : X.cell? ⟨q, 4, none⟩ = some (.int .i64 r.min) := by rw [Lib.cell_of_heap hq]; rfl
      have c5 : X.cell? ⟨q, 5, none⟩ = some (.int .i64 r.sec) := by rw [Lib.cell_of_heap hq]; rfl
      have c6 : X.cell? ⟨q, 6, none⟩ = some (.int .i64 0) := by rw [Lib.cell_of_heap hq]; rfl
      have z0 := Lib.frozen_of_heap hq 0
      have hqX : q < X.heap.size := (Array.getElem?_eq_some_iff.1 hq).1
      have CX := Lib.hid (fun X' (hx : Spares (fun b => b = q) X X') => HCC.out X' (cal_other hcX hq hqn hx) (tabs_other htX hql hx))
      have HBE := Lib.hid (fun X' (hx : Spares (fun b => b = q) X X') => HBX.out.trans (hx.below HBX.out.size (fun j hj e => by omega)))
      clear hq hcX htX hbX hqn
      by_cases hy : r.year + 1900 < 1970
      · have hyl : ((yearL r.year : Nat) : Int) = (r.year : Int) + 1900 + 100 := by unfold yearL; rw [if_pos hy]; omega
        have cx := CX.out
        rw [hyl] at cx
        replace CX := Lib.hid cx
        have i1 : (r.year : Int) + 1900 < 1970 := by omega
        have hsx : Spares (fun b => b = q) X ((X.setCell ⟨q, 0, none⟩ (.int .i64 ((r.year : Int) + 1900))).setCell ⟨q, 0, none⟩ (.int .i64 ((r.year : Int) + 1900 + 100))) := spares_setD (spares_setD (Spares.refl _ _) 0 _) 0 _
        have hsy : Spares (fun b => b = q) X (X.setCell ⟨q, 0, none⟩ (.int .i64 ((r.year : Int) + 1900 + 100))) := spares_setD (Spares.refl _ _) 0 _
        have HSX := Lib.hid hsx
        have HSY := Lib.hid hsy
        clear hyl cx hsx hsy hy
        go_wp2_with fail
        first
          | (refine (CX.out _ HSX.out).mono ?_
             rintro e x2 ⟨rfl, hs2⟩
             have hbe := HBE.out _ HSX.out
             have HF := Lib.hid (hbe.trans (hs2.below hbe.size (fun j hj e => by omega)))
             clear hs2 hbe)
          | (refine (CX.out _ HSY.out).mono ?_
             rintro e x2 ⟨rfl, hs2⟩
             have hbe := HBE.out _ HSY.out
             have HF := Lib.hid (hbe.trans (hs2.below hbe.size (fun j hj e => by omega)))
             clear hs2 hbe)
        go_wp2
        go_ret2
        exact ⟨rfl, HF.out⟩
      · have hyl : ((yearL r.year : Nat) : Int) = (r.year : Int) + 1900 := by unfold yearL; rw [if_neg hy]; omega
        have cx := CX.out
        rw [hyl] at cx
        replace CX := Lib.hid cx
        have i1 : ¬ (r.year : Int) + 1900 < 1970 := by omega
        have hsx : Spares (fun b => b = q) X (X.setCell ⟨q, 0, none⟩ (.int .i64 ((r.year : Int) + 1900))) := spares_setD (Spares.refl _ _) 0 _
        have HSX := Lib.hid hsx
        clear hyl cx hsx hy
        go_wp2_with fail
        refine (CX.out _ HSX.out).mono ?_
        rintro e x2 ⟨rfl, hs2⟩
        have hbe := HBE.out _ HSX.out
        have HF := Lib.hid (hbe.trans (hs2.below hbe.size (fun j hj e => by omega)))
        clear hs2 hbe
        go_wp2
        go_ret2
        exact ⟨rfl, HF.out⟩
end Go.Proofs.YtfnpncmdeimcbaaDoor
