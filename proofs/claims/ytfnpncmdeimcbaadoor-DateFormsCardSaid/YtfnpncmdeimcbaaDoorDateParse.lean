/-
  A date that is read.
-/
import Derived.Test.YtfnpncmdeimcbaaDoorDateCheck
import Derived.Test.YtfnpncmdeimcbaaDoorDateLong
import Derived.Test.YtfnpncmdeimcbaaDoorDateOld
import Derived.Deep.RegionHeld3
namespace Go.Proofs.YtfnpncmdeimcbaaDoor
open Go.RowKit DateMath

theorem ent_plain (args : Array Value) (w : World) : (callFunc 13 args).run Tryd.prog w = .ok (.enter 13 args) w := enters_of Tryd.func13 (by kernel_rfl) rfl args w
theorem ent_long (args : Array Value) (w : World) : (callFunc 18 args).run Tryd.prog w = .ok (.enter 18 args) w := enters_of Tryd.func18 (by kernel_rfl) rfl args w
theorem ent_old (args : Array Value) (w : World) : (callFunc 20 args).run Tryd.prog w = .ok (.enter 20 args) w := enters_of Tryd.func20 (by kernel_rfl) rfl args w
/-- What Parse leaves. -/
def ParseDPost (l : Bs) (w : World) (e : Ending) (w' : World) : Prop := e = .returned (.tuple #[.int .i64 (readF l).1, .int .i64 (readF l).2]) ∧ Below w.heap.size w w'
theorem num_le {l : Bs} {k m : Nat} (hk : l.length ≤ k) (hm : k ≤ 4) (_ : m = 4) : (numF l 4).getD 0 ≤ 9999 := by
  unfold numF
  split
  · rename_i h
    have := valD_lt l h.2.2
    have h2 : (10 : Nat) ^ l.length ≤ 10 ^ 4 := Nat.pow_le_pow_right (by decide) (by omega)
    have h3 : (10 : Nat) ^ 4 = 10000 := by decide
    simp only [Option.getD_some]
    omega
  · exact Nat.zero_le _
theorem num_le4 (l : Bs) : (numF l 4).getD 0 ≤ 9999 := by
  unfold numF
  split
  · rename_i h
    have := valD_lt l h.2.2
    have h2 : (10 : Nat) ^ l.length ≤ 10 ^ 4 := Nat.pow_le_pow_right (by decide) (by omega)
    have h3 : (10 : Nat) ^ 4 = 10000 := by decide
    simp only [Option.getD_some]
    omega
  · exact Nat.zero_le _
theorem raw_le (d mo y c : Bs) : (rawOf d mo y c).year ≤ 9999 ∧ (rawOf d mo y c).mon ≤ 11 ∧ (rawOf d mo y c).day ≤ 9999 ∧ (rawOf d mo y c).hour ≤ 9999 ∧ (rawOf d mo y c).min ≤ 9999 ∧ (rawOf d mo y c).sec ≤ 9999 :=
  ⟨num_le4 _, monK_le mo 12, num_le4 _, num_le4 _, num_le4 _, num_le4 _⟩
def cal0 : Array Value := #[.int .u32 0, .int .i32 0, .int .u32 0, .slice none 0 0, .slice none 0 0]
theorem cal_new (w : World) : CalNew (w.alloc (.cells cal0 50)) w.heap.size := heap_alloc_new w _
theorem tabs_new {w : World} (h1 : TabP w) (h2 : TabS w) : Tabs (w.alloc (.cells cal0 50)) w.heap.size :=
  have hs : Spares nowhere w (w.alloc (.cells cal0 50)) := (Spares.refl _ _).alloc _
  ⟨h1.spares hs (fun h => h), h2.spares hs (fun h => h), h1.lt, h2.lt⟩
theorem mom_zero {w0 x1 : World} {p : Nat} (hs : Spares (fun b => b = p) (w0.alloc (.cells #[.int .i64 0, .int .i64 0, .int .i64 0, .int .i64 0, .int .i64 0, .int .i64 0, .int .i64 0] 53)).drew x1) (hn : w0.heap.size ≠ p) :
    (x1.cell? ⟨w0.heap.size, 0, none⟩ = some (.int .i64 0) ∧ x1.cell? ⟨w0.heap.size, 1, none⟩ = some (.int .i64 0) ∧ x1.cell? ⟨w0.heap.size, 2, none⟩ = some (.int .i64 0) ∧ x1.cell? ⟨w0.heap.size, 3, none⟩ = some (.int .i64 0) ∧ x1.cell? ⟨w0.heap.size, 4, none⟩ = some (.int .i64 0) ∧ x1.cell? ⟨w0.heap.size, 5, none⟩ = some (.int .i64 0) ∧ x1.cell? ⟨w0.heap.size, 6, none⟩ = some (.int .i64 0)) ∧
    x1.frozen? ⟨w0.heap.size, 0, none⟩ = false ∧ x1.frozen? ⟨w0.heap.size, 1, none⟩ = false ∧ x1.frozen? ⟨w0.heap.size, 2, none⟩ = false ∧ x1.frozen? ⟨w0.heap.size, 3, none⟩ = false ∧ x1.frozen? ⟨w0.heap.size, 4, none⟩ = false ∧ x1.frozen? ⟨w0.heap.size, 5, none⟩ = false ∧ x1.frozen? ⟨w0.heap.size, 6, none⟩ = false := by
  have hb := hs.heap (heap_alloc_new w0 _) hn
  refine ⟨⟨?_, ?_, ?_, ?_, ?_, ?_, ?_⟩, Lib.frozen_of_heap hb 0, Lib.frozen_of_heap hb 1, Lib.frozen_of_heap hb 2, Lib.frozen_of_heap hb 3, Lib.frozen_of_heap hb 4, Lib.frozen_of_heap hb 5, Lib.frozen_of_heap hb 6⟩ <;> (rw [Lib.cell_of_heap hb]; rfl)
theorem cal_other {x x' : World} {p g : Nat} {cs : Array Value} (h : CalAt x p) (hg : x.heap[g]? = some (.cells cs 53 (0, 0))) (hp : g ≠ p) (hs : Spares (fun b => b = g) x x') : CalAt x' p := by
  obtain ⟨z, gd, gm, h1, h2, h3, h4, h5⟩ := h
  have e1 : gd ≠ g := cells_ne h2 hg (by decide)
  have e2 : gm ≠ g := cells_ne h3 hg (by decide)
  exact ⟨z, gd, gm, h1.spares hs (fun e => hp e.symm), hs.heap h2 e1, hs.heap h3 e2, h4, h5⟩
theorem tabs_other {x x' : World} {p g : Nat} (h : Tabs x p) (hp : p ≤ g) (hs : Spares (fun b => b = g) x x') : Tabs x' p :=
  ⟨h.pow.spares hs (by have := h.one; omega), h.space.spares hs (by have := h.two; omega), h.one, h.two⟩
theorem mom_written' {yn mk dn hn mn sn : Nat} {wr : World} {g : Nat} (h : wr.heap[g]? = some (.cells (momC 0 0 0 0 0 0 0) 53 (0, 0))) :
    (((((((wr.setCell ⟨g, 0, none⟩ (.int .i64 yn)).setCell ⟨g, 1, none⟩ (.int .i64 mk)).setCell ⟨g, 2, none⟩ (.int .i64 dn)).setCell ⟨g, 3, none⟩ (.int .i64 hn)).setCell ⟨g, 4, none⟩ (.int .i64 mn)).setCell ⟨g, 5, none⟩ (.int .i64 sn)).setCell ⟨g, 6, none⟩ (.int .i64 0)).heap[g]? = some (.cells (momC yn mk dn hn mn sn 0) 53 (0, 0)) ∧
    Spares (fun b => b = g) wr (((((((wr.setCell ⟨g, 0, none⟩ (.int .i64 yn)).setCell ⟨g, 1, none⟩ (.int .i64 mk)).setCell ⟨g, 2, none⟩ (.int .i64 dn)).setCell ⟨g, 3, none⟩ (.int .i64 hn)).setCell ⟨g, 4, none⟩ (.int .i64 mn)).setCell ⟨g, 5, none⟩ (.int .i64 sn)).setCell ⟨g, 6, none⟩ (.int .i64 0)) := by
  have h0 := mom_set0 (v := yn) h
  have s0 := spares_setD (Spares.refl (fun b => b = g) wr) 0 (.int .i64 yn)
  generalize wr.setCell ⟨g, 0, none⟩ (.int .i64 yn) = w0 at *
  have h1 := mom_set1 (v := mk) h0
  have s1 := spares_setD s0 1 (.int .i64 mk)
  generalize w0.setCell ⟨g, 1, none⟩ (.int .i64 mk) = w1 at *
  have h2 := mom_set2 (v := dn) h1
  have s2 := spares_setD s1 2 (.int .i64 dn)
  generalize w1.setCell ⟨g, 2, none⟩ (.int .i64 dn) = w2 at *
  have h3 := mom_set3 (v := hn) h2
  have s3 := spares_setD s2 3 (.int .i64 hn)
  generalize w2.setCell ⟨g, 3, none⟩ (.int .i64 hn) = w3 at *
  have h4 := mom_set4 (v := mn) h3
  have s4 := spares_setD s3 4 (.int .i64 mn)
  generalize w3.setCell ⟨g, 4, none⟩ (.int .i64 mn) = w4 at *
  have h5 := mom_set5 (v := sn) h4
  have s5 := spares_setD s4 5 (.int .i64 sn)
  generalize w4.setCell ⟨g, 5, none⟩ (.int .i64 sn) = w5 at *
  have h6 := mom_set6 (v := 0) h5
  have s6 := spares_setD s5 6 (.int .i64 0)
  exact ⟨h6, s6⟩
theorem wrap_k (k c : Nat) (hk : k ≤ 140737488351232) (hc : c ≤ 100) : IntKind.i64.wrap ((k : Int) + (c : Int)) = (k : Int) + (c : Int) := wrap_in (by omega) (by omega)
set_option maxRecDepth 100000 in
set_option maxHeartbeats 16000000 in
theorem parse_plain (s : ByteArray) (w : World) (h1 : TabP w) (h2 : TabS w) (hl : s.size = 29) (hk : Lib.indexByte s.data.toList 44 = 3) :
    Calls Tryd.prog 10 #[.string s] w (ParseDPost s.data.toList w) := by
  obtain ⟨w0, hw0⟩ : ∃ w0, w.alloc (.cells cal0 50) = w0 := ⟨_, rfl⟩
  have hcn := cal_new w
  have htn := tabs_new h1 h2
  have hs0 : Spares nowhere w (w.alloc (.cells cal0 50)) := (Spares.refl _ _).alloc _
  rw [hw0] at hcn htn hs0
  have hll : s.data.toList.length = 29 := by simpa using hl
  have x1 : (s.extract 5 7).data.toList = sl s.data.toList 5 7 := by rw [Lib.extract_data]; rfl
  have x2 : (s.extract 8 11).data.toList = sl s.data.toList 8 11 := by rw [Lib.extract_data]; rfl
  have x3 : (s.extract 12 16).data.toList = sl s.data.toList 12 16 := by rw [Lib.extract_data]; rfl
  have x4 : (s.extract 17 25).data.toList = sl s.data.toList 17 25 := by rw [Lib.extract_data]; rfl
  obtain ⟨d, hd⟩ : ∃ x, s.extract 5 7 = x := ⟨_, rfl⟩
  obtain ⟨mo, hmo⟩ : ∃ x, s.extract 8 11 = x := ⟨_, rfl⟩
  obtain ⟨y, hy⟩ : ∃ x, s.extract 12 16 = x := ⟨_, rfl⟩
  obtain ⟨c, hc⟩ : ∃ x, s.extract 17 25 = x := ⟨_, rfl⟩
  have zd : d.size ≤ 100 := by rw [← hd, ByteArray.size_extract]; omega
  have zmo : mo.size ≤ 100 := by rw [← hmo, ByteArray.size_extract]; omega
  have zy : y.size ≤ 100 := by rw [← hy, ByteArray.size_extract]; omega
  have zc : c.size = 8 := by rw [← hc, ByteArray.size_extract]; omega
  rw [hd] at x1
  rw [hmo] at x2
  rw [hy] at x3
  rw [hc] at x4
  have CR := fun x (hx : Spares nowhere w0 x) => read_any d mo y c w.heap.size x (CalIs.spares hcn hx (fun h => h)) (htn.below hx.below0) zd zmo zy zc
  have hchk := check_plain s.data.toList hll _ rfl
  rw [x1, x2, x3, x4] at CR
  obtain ⟨r, hr⟩ : ∃ r, rawOf (sl s.data.toList 5 7) (sl s.data.toList 8 11) (sl s.data.toList 12 16) (sl s.data.toList 17 25) = r := ⟨_, rfl⟩
  have hrl := raw_le (sl s.data.toList 5 7) (sl s.data.toList 8 11) (sl s.data.toList 12 16) (sl s.data.toList 17 25)
  rw [hr] at CR hchk hrl
  have CC := fun x (hc : CalAt x w.heap.size) (ht : Tabs x w.heap.size) => checked_any 13 plainT r r.year s w.heap.size x hc ht hrl.1 hrl.2.1 hrl.2.2.1 hrl.2.2.2.1 hrl.2.2.2.2.1 hrl.2.2.2.2.2 ent_plain (fun m x hm hc ht => plain_any m w.heap.size x hm (.inr hc) ht)
  rw [hchk] at CC
  unfold momC at CC
  unfold ReadPost momC at CR
  have HCR := Lib.hid CR
  have HK := Lib.hid hk
  have HW0 := Lib.hid hw0
  have HTN := Lib.hid htn
  have HS0 := Lib.hid hs0
  have HCC := Lib.hid CC
  clear hchk CR CC hk hw0 htn hs0 hcn x1 x2 x3 x4 hll zd zmo zy zc hr hrl h1 h2
  have HNP : Hid (w0.heap.size ≠ w.heap.size ∧ w.heap.size ≤ w0.heap.size) := Lib.hid (by rw [← HW0.out]; simp)
  unfold ParseDPost
  go_enter Tryd.func10, Tryd.ntmps10
  go_wp2_with fail
  change Calls _ _ _ (w.alloc (.cells cal0 50)) _
  rw [HW0.out]
  refine (Tryd.strings_IndexByte _ _ _).mono ?_
  rintro e w' ⟨rfl, hw'⟩
  rw [show ((44 : Int)).toNat.toUInt8 = 44 from rfl, HK.out]
  replace hw' := hw'.symm
  subst hw'
  go_wp2
  go_region_held3 (fun _ => True) (exact trivial) (first
    | (go_simp
       go_at_call 16
       (with_reducible refine Calls.mono (HCR.out _ (Spares.drew (Spares.refl _ _))) ?_)
       rintro e x1 ⟨rfl, hc1, hs1⟩)
    | (go_simp
       go_at_call 16
       (with_reducible refine Calls.mono (HCR.out _ (Spares.drew (Spares.alloc (Spares.refl _ _) _))) ?_)
       rintro e x1 ⟨rfl, hc1, hs1⟩
       obtain ⟨⟨k0, k1, k2, k3, k4, k5, k6⟩, l0, l1, l2, l3, l4, l5, l6⟩ := mom_zero hs1 HNP.out.1
       )
    | fail)
  · obtain ⟨X, hX⟩ : ∃ X, x1.alloc (.cells #[.int .i64 r.year, .int .i64 r.mon, .int .i64 r.day, .int .i64 r.hour, .int .i64 r.min, .int .i64 r.sec, .int .i64 0] 53) = X := ⟨_, rfl⟩
    rw [hX]
    have hs1' : Spares (fun b => b = w.heap.size) w0 x1 := ((Spares.refl (fun b => b = w.heap.size) w0).drew).trans hs1
    have hsX : Spares (fun b => b = w.heap.size) w0 X := by rw [← hX]; exact hs1'.alloc _
    have hcX : CalAt X w.heap.size := hc1.below (by rw [← hX]; exact (Below.refl _ _).alloc (Nat.le_refl _) _)
    have htX := HTN.out.spares hsX
    have hbX : Below w.heap.size w X := HS0.out.below0.trans (hsX.below HNP.out.2 (fun j hj e => by omega))
    have hq : X.heap[x1.heap.size]? = some (.cells (momC r.year r.mon r.day r.hour r.min r.sec 0) 53 (0, 0)) := by rw [← hX]; exact heap_alloc_new x1 _
    have hql : w.heap.size ≤ x1.heap.size := Nat.le_trans HNP.out.2 hs1'.size
    have hqn : x1.heap.size ≠ w.heap.size := fun e => by have := hs1'.size; have := HNP.out; omega
    obtain ⟨q, hqe⟩ : ∃ q, x1.heap.size = q := ⟨_, rfl⟩
    rw [hqe] at hq hql hqn
    rw [hqe]
    clear hqe hX hs1 hs1' hsX hc1
    have HBX := Lib.hid hbX
    have c0 : X.cell? ⟨q, 0, none⟩ = some (.int .i64 r.year) := by rw [Lib.cell_of_heap hq]; rfl
    have c1 : X.cell? ⟨q, 1, none⟩ = some (.int .i64 r.mon) := by rw [Lib.cell_of_heap hq]; rfl
    have c2 : X.cell? ⟨q, 2, none⟩ = some (.int .i64 r.day) := by rw [Lib.cell_of_heap hq]; rfl
    have c3 : X.cell? ⟨q, 3, none⟩ = some (.int .i64 r.hour) := by rw [Lib.cell_of_heap hq]; rfl
    have c4 : X.cell? ⟨q, 4, none⟩ = some (.int .i64 r.min) := by rw [Lib.cell_of_heap hq]; rfl
    have c5 : X.cell? ⟨q, 5, none⟩ = some (.int .i64 r.sec) := by rw [Lib.cell_of_heap hq]; rfl
    have c6 : X.cell? ⟨q, 6, none⟩ = some (.int .i64 0) := by rw [Lib.cell_of_heap hq]; rfl
    have CX := Lib.hid (HCC.out X hcX htX)
    clear hq hcX htX hbX hqn hql
    go_wp2_with fail
    refine CX.out.mono ?_
    rintro e x2 ⟨rfl, hs2⟩
    have HF := Lib.hid (HBX.out.trans (hs2.below HBX.out.size (fun j hj e => by omega)))
    clear hs2
    go_wp2
    go_ret2
    exact ⟨rfl, HF.out⟩
  all_goals
    obtain ⟨hwr, hsp⟩ := mom_written' (yn := r.year) (mk := r.mon) (dn := r.day) (hn := r.hour) (mn := r.min) (sn := r.sec) (hs1.heap (heap_alloc_new w0 _) HNP.out.1)
    obtain ⟨X, hX⟩ : ∃ X, (((((((x1.setCell ⟨w0.heap.size, 0, none⟩ (.int .i64 r.year)).setCell ⟨w0.heap.size, 1, none⟩ (.int .i64 r.mon)).setCell ⟨w0.heap.size, 2, none⟩ (.int .i64 r.day)).setCell ⟨w0.heap.size, 3, none⟩ (.int .i64 r.hour)).setCell ⟨w0.heap.size, 4, none⟩ (.int .i64 r.min)).setCell ⟨w0.heap.size, 5, none⟩ (.int .i64 r.sec)).setCell ⟨w0.heap.size, 6, none⟩ (.int .i64 0)) = X := ⟨_, rfl⟩
    rw [hX] at hwr hsp
    rw [hX]
    have hs1' : Spares (fun b => b = w.heap.size) w0 x1 := (((Spares.refl (fun b => b = w.heap.size) w0).alloc _).drew).trans hs1
    have hcX : CalAt X w.heap.size := cal_other hc1 (hs1.heap (heap_alloc_new w0 _) HNP.out.1) HNP.out.1 hsp
    have htX : Tabs X w.heap.size := tabs_other (HTN.out.spares hs1') HNP.out.2 hsp
    have hbX : Below w.heap.size w X := (HS0.out.below0.trans (hs1'.below HNP.out.2 (fun j hj e => by omega))).trans (hsp.below (Nat.le_trans HNP.out.2 hs1'.size) (fun j hj e => by have := HNP.out.2; omega))
    have hq := hwr
    have hql := HNP.out.2
    have hqn := HNP.out.1
    obtain ⟨q, hqe⟩ : ∃ q, w0.heap.size = q := ⟨_, rfl⟩
    rw [hqe] at hq hql hqn
    rw [hqe]
    clear hqe hX hs1 hs1' hc1 hwr hsp k0 k1 k2 k3 k4 k5 k6 l0 l1 l2 l3 l4 l5 l6
    have HBX := Lib.hid hbX
    have c0 : X.cell? ⟨q, 0, none⟩ = some (.int .i64 r.year) := by rw [Lib.cell_of_heap hq]; rfl
    have c1 : X.cell? ⟨q, 1, none⟩ = some (.int .i64 r.mon) := by rw [Lib.cell_of_heap hq]; rfl
    have c2 : X.cell? ⟨q, 2, none⟩ = some (.int .i64 r.day) := by rw [Lib.cell_of_heap hq]; rfl
    have c3 : X.cell? ⟨q, 3, none⟩ = some (.int .i64 r.hour) := by rw [Lib.cell_of_heap hq]; rfl
    have c4 : X.cell? ⟨q, 4, none⟩ = some (.int .i64 r.min) := by rw [Lib.cell_of_heap hq]; rfl
    have c5 : X.cell? ⟨q, 5, none⟩ = some (.int .i64 r.sec) := by rw [Lib.cell_of_heap hq]; rfl
    have c6 : X.cell? ⟨q, 6, none⟩ = some (.int .i64 0) := by rw [Lib.cell_of_heap hq]; rfl
    have CX := Lib.hid (HCC.out X hcX htX)
    clear hq hcX htX hbX hqn hql
    go_wp2_with fail
    refine CX.out.mono ?_
    rintro e x2 ⟨rfl, hs2⟩
    have HF := Lib.hid (HBX.out.trans (hs2.below HBX.out.size (fun j hj e => by omega)))
    clear hs2
    go_wp2
    go_ret2
    exact ⟨rfl, HF.out⟩
end Go.Proofs.YtfnpncmdeimcbaaDoor
