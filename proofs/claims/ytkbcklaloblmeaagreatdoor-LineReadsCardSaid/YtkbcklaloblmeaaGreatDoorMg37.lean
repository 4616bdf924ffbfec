/-
  The reference's LineText.
-/
import Derived.Deep.RegionWith
import Derived.Test.YtkbcklaloblmeaaGreatDoorMg25
import Derived.Test.YtkbcklaloblmeaaGreatDoorMg30
import Derived.Test.YtkbcklaloblmeaaGreatDoorMg36
namespace Go.Proofs.YtkbcklaloblmeaaGreatDoor
open Go.RowKit LineMath DateMath ChunkS NormS

def howsA : Array Value := #[.string (arrS (howB 0)), .string (arrS (howB 1)), .string (arrS (howB 2)), .string (arrS (howB 3)), .string (arrS (howB 4)), .string (arrS (howB 5))]
theorem hows_any (w : World) : Calls Tryz.prog 26 #[] w fun e w' => e = .returned (.slice (some ⟨w.heap.size, 0, none⟩) 6 6) ∧ w' = w.alloc (.cells howsA 9) := by
  go_enter Tryz.func26, Tryz.ntmps26
  go_wp2
  go_ret
  exact ⟨rfl, rfl⟩
theorem howsA_get (k : Nat) (h : k < 6) : howsA[k]? = some (.string (arrS (howB k))) := by
  match k, h with
  | 0, _ => rfl
  | 1, _ => rfl
  | 2, _ => rfl
  | 3, _ => rfl
  | 4, _ => rfl
  | 5, _ => rfl
theorem decI (n : Int) (h : n ≤ 9223372036854775807) (w : World) : Calls Tryz.prog 25 #[.int .i64 (max n 0)] w fun e w' => e = .returned (.string (arrS (natT n))) ∧ Below w.heap.size w w' := by
  have c := dec_any ((max n 0).toNat + 1) (max n 0).toNat w (by omega) (by omega)
  unfold DecPost at c
  have e : (((max n 0).toNat : Nat) : Int) = max n 0 := by omega
  rw [e] at c
  exact c.mono fun e w' ⟨he, hw⟩ => ⟨he, hw ▸ Below.refl _ _⟩
theorem add_L {a b c : List UInt8} (h : a ++ b = c) (hs : c.length ≤ 100000000) : (∀ w, (Op.stringOp .add (arrS a) (arrS b)).run Tryz.prog w = .ok (.string (arrS c)) w) ∧ ¬ (9223372036854775807 < (arrS a).size + (arrS b).size) := by
  have hl : a.length + b.length = c.length := by rw [← h, List.length_append]
  have e : arrS a ++ arrS b = arrS c := by
    apply bytes_injL
    rw [ByteArray.data_append, ← h]
    simp [arrS]
  refine ⟨fun w => ?_, by rw [arrS_size, arrS_size]; omega⟩
  rw [← e]
  have h4 : ((arrS a).size : Int) + ((arrS b).size : Int) ≤ 9223372036854775807 := by rw [arrS_size, arrS_size]; omega
  simp [Op.stringOp, go_sem, h4]
theorem add_sp {a c : List UInt8} (h : a ++ [32] = c) (hs : c.length ≤ 100000000) : (∀ w, (Op.stringOp .add (arrS a) ⟨#[32]⟩).run Tryz.prog w = .ok (.string (arrS c)) w) ∧ ¬ (9223372036854775807 < (arrS a).size + 1) := add_L h hs
theorem line_sum (l : LineV) : ((((((((((((timeT l.time ++ [32]) ++ howT l.how) ++ [32]) ++ quoteT l.method) ++ [32]) ++ quoteT l.host) ++ [32]) ++ quoteT l.target) ++ [32]) ++ natT l.status) ++ [32]) ++ natT l.size) = lineT l := by
  unfold lineT; simp
set_option maxRecDepth 100000 in
set_option maxHeartbeats 2000000 in
theorem lRefText_any (l : LineV) (w : World) (hl : LightL l) : Calls Tryz.prog 10 #[.agg (cellsV l).toArray] w (LTextPost l w) := by
  obtain ⟨w1, hw1⟩ : ∃ w1, w.alloc (.cells #[.int .i64 l.time, .int .i64 l.how, .string ⟨l.method.toArray⟩, .string ⟨l.host.toArray⟩, .string ⟨l.target.toArray⟩, .int .i64 l.status, .int .i64 l.size] 23) = w1 := ⟨_, rfl⟩
  have hs1 : Below w.heap.size w w1 := by rw [← hw1]; exact (Below.refl _ _).alloc (Nat.le_refl _) _
  have hb : w1.heap[w.heap.size]? = some (.cells #[.int .i64 l.time, .int .i64 l.how, .string ⟨l.method.toArray⟩, .string ⟨l.host.toArray⟩, .string ⟨l.target.toArray⟩, .int .i64 l.status, .int .i64 l.size] 23 (0, 0)) := by rw [← hw1]; exact heap_alloc_new w _
  have hz1 : w1.heap.size = w.heap.size + 1 := by rw [← hw1]; simp
  have HB := Lib.hid hb
  have HS1 := Lib.hid hs1
  have HW1 := Lib.hid hw1
  have HL := Lib.hid hl
  have HLEN := Lib.hid (lineT_le hl)
  have a1 : (w.alloc (.cells #[.int .i64 l.time, .int .i64 l.how, .string ⟨l.method.toArray⟩, .string ⟨l.host.toArray⟩, .string ⟨l.target.toArray⟩, .int .i64 l.status, .int .i64 l.size] 23)).cell? ⟨w.heap.size, 1, none⟩ = some (.int .i64 l.how) := by rw [hw1, Lib.cell_of_heap hb]; rfl
  have HZ1 := Lib.hid hz1
  have cD := decI l.how hl.how (w.alloc (.cells #[.int .i64 l.time, .int .i64 l.how, .string ⟨l.method.toArray⟩, .string ⟨l.host.toArray⟩, .string ⟨l.target.toArray⟩, .int .i64 l.status, .int .i64 l.size] 23))
  obtain ⟨HT, hHT⟩ : ∃ HT, howT l.how = HT := ⟨_, rfl⟩
  have HHT := Lib.hid hHT
  clear hb hs1 hw1 hl hz1
  obtain ⟨L1, k1⟩ : ∃ L1, timeT l.time ++ [32] = L1 := ⟨_, rfl⟩
  obtain ⟨L2, k2⟩ : ∃ L2, L1 ++ HT = L2 := ⟨_, rfl⟩
  obtain ⟨L3, k3⟩ : ∃ L3, L2 ++ [32] = L3 := ⟨_, rfl⟩
  obtain ⟨L4, k4⟩ : ∃ L4, L3 ++ quoteT l.method = L4 := ⟨_, rfl⟩
  obtain ⟨L5, k5⟩ : ∃ L5, L4 ++ [32] = L5 := ⟨_, rfl⟩
  obtain ⟨L6, k6⟩ : ∃ L6, L5 ++ quoteT l.host = L6 := ⟨_, rfl⟩
  obtain ⟨L7, k7⟩ : ∃ L7, L6 ++ [32] = L7 := ⟨_, rfl⟩
  obtain ⟨L8, k8⟩ : ∃ L8, L7 ++ quoteT l.target = L8 := ⟨_, rfl⟩
  obtain ⟨L9, k9⟩ : ∃ L9, L8 ++ [32] = L9 := ⟨_, rfl⟩
  obtain ⟨L10, k10⟩ : ∃ L10, L9 ++ natT l.status = L10 := ⟨_, rfl⟩
  obtain ⟨L11, k11⟩ : ∃ L11, L10 ++ [32] = L11 := ⟨_, rfl⟩
  obtain ⟨L12, k12⟩ : ∃ L12, L11 ++ natT l.size = L12 := ⟨_, rfl⟩
  have hsum := line_sum l
  rw [HHT.out, k1, k2, k3, k4, k5, k6, k7, k8, k9, k10, k11, k12] at hsum
  have hl12 : L12.length ≤ 13000000 := by rw [hsum]; exact HLEN.out
  have hl11 : L11.length ≤ 13000000 := by have h := congrArg List.length k12; rw [List.length_append] at h; omega
  have hl10 : L10.length ≤ 13000000 := by have h := congrArg List.length k11; rw [List.length_append] at h; omega
  have hl9 : L9.length ≤ 13000000 := by have h := congrArg List.length k10; rw [List.length_append] at h; omega
  have hl8 : L8.length ≤ 13000000 := by have h := congrArg List.length k9; rw [List.length_append] at h; omega
  have hl7 : L7.length ≤ 13000000 := by have h := congrArg List.length k8; rw [List.length_append] at h; omega
  have hl6 : L6.length ≤ 13000000 := by have h := congrArg List.length k7; rw [List.length_append] at h; omega
  have hl5 : L5.length ≤ 13000000 := by have h := congrArg List.length k6; rw [List.length_append] at h; omega
  have hl4 : L4.length ≤ 13000000 := by have h := congrArg List.length k5; rw [List.length_append] at h; omega
  have hl3 : L3.length ≤ 13000000 := by have h := congrArg List.length k4; rw [List.length_append] at h; omega
  have hl2 : L2.length ≤ 13000000 := by have h := congrArg List.length k3; rw [List.length_append] at h; omega
  have hl1 : L1.length ≤ 13000000 := by have h := congrArg List.length k2; rw [List.length_append] at h; omega
  obtain ⟨s1, t1⟩ := add_sp k1 (by omega)
  obtain ⟨s2, t2⟩ := add_L k2 (by omega)
  obtain ⟨s3, t3⟩ := add_sp k3 (by omega)
  obtain ⟨s4, t4⟩ := add_L k4 (by omega)
  obtain ⟨s5, t5⟩ := add_sp k5 (by omega)
  obtain ⟨s6, t6⟩ := add_L k6 (by omega)
  obtain ⟨s7, t7⟩ := add_sp k7 (by omega)
  obtain ⟨s8, t8⟩ := add_L k8 (by omega)
  obtain ⟨s9, t9⟩ := add_sp k9 (by omega)
  obtain ⟨s10, t10⟩ := add_L k10 (by omega)
  obtain ⟨s11, t11⟩ := add_sp k11 (by omega)
  obtain ⟨s12, t12⟩ := add_L k12 (by omega)
  have HSUM := Lib.hid hsum
  clear hsum k1 hl1 k2 hl2 k3 hl3 k4 hl4 k5 hl5 k6 hl6 k7 hl7 k8 hl8 k9 hl9 k10 hl10 k11 hl11 k12 hl12
  unfold LTextPost
  unfold cellsV
  by_cases hh : 0 ≤ l.how ∧ l.how < 6
  · obtain ⟨g1, g2⟩ := hh
    go_enter Tryz.func10, Tryz.ntmps10
    go_wp2_with fail
    refine cD.mono ?_
    rintro e v ⟨rfl, hbv⟩
    rw [HW1.out] at hbv
    have hvz : Below w.heap.size w v := HS1.out.trans (hbv.mono HS1.out.size)
    have hvb := (hbv.block w.heap.size (by rw [HZ1.out]; omega)).trans HB.out
    have z1 : v.cell? ⟨w.heap.size, 1, none⟩ = some (.int .i64 l.how) := by rw [Lib.cell_of_heap hvb]; rfl
    have z1d : v.drew.cell? ⟨w.heap.size, 1, none⟩ = some (.int .i64 l.how) := z1
    have HVB := Lib.hid hvb
    have HVZ := Lib.hid hvz
    obtain ⟨k, hk⟩ : ∃ k : Nat, l.how = k := ⟨l.how.toNat, by omega⟩
    have HK := Lib.hid hk
    have hk6 : k < 6 := by omega
    have e0 : howB k = HT := by rw [← hHT]; unfold howT; rw [if_pos ⟨g1, g2⟩, hk]; rfl
    have HE0 := Lib.hid e0
    clear hbv a1 cD hvb hvz e0 hHT
    go_upto_region 3 with (fail)
    have hzv : w.heap.size < v.heap.size := by
      have h := HVB.out
      rcases Nat.lt_or_ge w.heap.size v.heap.size with h' | h'
      · exact h'
      · simp [Array.getElem?_eq_none h'] at h
    have z2d : (v.drew.alloc (.cells howsA 9)).cell? ⟨w.heap.size, 1, none⟩ = some (.int .i64 l.how) := by
      have hA : (v.drew.alloc (.cells howsA 9)).heap[w.heap.size]? = _ := (Below.heap_alloc v.drew _ _ (show w.heap.size < v.drew.heap.size from hzv)).trans HVB.out
      exact (Lib.cell_of_heap hA 1).trans rfl
    have z3d : (v.drew.alloc (.cells howsA 9)).cell? ⟨v.heap.size, k, none⟩ = some (.string (arrS (howB k))) := by
      have hA : (v.drew.alloc (.cells howsA 9)).heap[v.heap.size]? = _ := heap_alloc_new v.drew _
      exact (Lib.cell_of_heap hA k).trans (by rw [howsA_get k hk6])
    have z2e : (v.alloc (.cells howsA 9)).drew.cell? ⟨w.heap.size, 1, none⟩ = some (.int .i64 l.how) := z2d
    have z3e : (v.alloc (.cells howsA 9)).drew.cell? ⟨v.heap.size, k, none⟩ = some (.string (arrS (howB k))) := z3d
    have z2f : (v.alloc (.cells howsA 9)).cell? ⟨w.heap.size, 1, none⟩ = some (.int .i64 l.how) := z2d
    have z3f : (v.alloc (.cells howsA 9)).cell? ⟨v.heap.size, k, none⟩ = some (.string (arrS (howB k))) := z3d
    go_region_with (first | (go_at_call 26; refine (hows_any _).mono ?_; rintro e w9 ⟨rfl, rfl⟩) | fail)
    all_goals
      obtain ⟨v3, hv3⟩ : ∃ v3, (v.alloc (.cells howsA 9)).drew = v3 := ⟨_, rfl⟩
      have hvb3 : v3.heap[w.heap.size]? = some (.cells #[.int .i64 l.time, .int .i64 l.how, .string ⟨l.method.toArray⟩, .string ⟨l.host.toArray⟩, .string ⟨l.target.toArray⟩, .int .i64 l.status, .int .i64 l.size] 23 (0, 0)) := by
        rw [← hv3]; exact (Below.heap_alloc v _ _ hzv).trans HVB.out
      have hvz3 : Below w.heap.size w v3 := by rw [← hv3]; exact (HVZ.out.alloc HVZ.out.size _).drew
      rw [hv3, HE0.out]
      clear hv3 z1 z1d z2d z3d z2e z3e z2f z3f
      simp only [List.getElem_toArray, List.getElem_cons_succ, List.getElem_cons_zero]
      go_wp2
      simp only [Act.put, List.setIfInBounds_toArray, List.set_cons_succ, List.set_cons_zero]
      have HVB2 := Lib.hid hvb3
      have HVZ2 := Lib.hid hvz3
      have z0 : v3.cell? ⟨w.heap.size, 0, none⟩ = some (.int .i64 l.time) := by rw [Lib.cell_of_heap hvb3]; rfl
      have z2 : v3.cell? ⟨w.heap.size, 2, none⟩ = some (.string ⟨l.method.toArray⟩) := by rw [Lib.cell_of_heap hvb3]; rfl
      have z3 : v3.cell? ⟨w.heap.size, 3, none⟩ = some (.string ⟨l.host.toArray⟩) := by rw [Lib.cell_of_heap hvb3]; rfl
      have z4 : v3.cell? ⟨w.heap.size, 4, none⟩ = some (.string ⟨l.target.toArray⟩) := by rw [Lib.cell_of_heap hvb3]; rfl
      have z5 : v3.cell? ⟨w.heap.size, 5, none⟩ = some (.int .i64 l.status) := by rw [Lib.cell_of_heap hvb3]; rfl
      have z6 : v3.cell? ⟨w.heap.size, 6, none⟩ = some (.int .i64 l.size) := by rw [Lib.cell_of_heap hvb3]; rfl
      have x0 : ∀ x : Kin v3, x.wd.cell? ⟨w.heap.size, 0, none⟩ = some (.int .i64 l.time) := fun x => x.cell z0
      have x2 : ∀ x : Kin v3, x.wd.cell? ⟨w.heap.size, 2, none⟩ = some (.string ⟨l.method.toArray⟩) := fun x => x.cell z2
      have x3 : ∀ x : Kin v3, x.wd.cell? ⟨w.heap.size, 3, none⟩ = some (.string ⟨l.host.toArray⟩) := fun x => x.cell z3
      have x4 : ∀ x : Kin v3, x.wd.cell? ⟨w.heap.size, 4, none⟩ = some (.string ⟨l.target.toArray⟩) := fun x => x.cell z4
      have x5 : ∀ x : Kin v3, x.wd.cell? ⟨w.heap.size, 5, none⟩ = some (.int .i64 l.status) := fun x => x.cell z5
      have x6 : ∀ x : Kin v3, x.wd.cell? ⟨w.heap.size, 6, none⟩ = some (.int .i64 l.size) := fun x => x.cell z6
      have M1 : Hid (∀ x : Kin v3, Calls Tryz.prog 27 #[.int .i64 l.time] x.wd fun e w'' => e = .returned (.string (arrS (timeT l.time))) ∧ ∃ y : Kin v3, w'' = y.wd) := Lib.hid (fun x => Kin.calls (refText_any l.time x.wd))
      have hq : ∀ (b : List UInt8), b.length ≤ 1000000 → ∀ x : Kin v3, Calls Tryz.prog 16 #[.string ⟨b.toArray⟩] x.wd fun e w'' => e = .returned (.string (arrS (quoteT b))) ∧ ∃ y : Kin v3, w'' = y.wd := fun b hb x => by
        have c := refQuote_any (arrS b) x.wd (by rw [arrS_size]; omega)
        rw [arrS_list] at c
        exact Kin.calls c
      have M2 := Lib.hid (hq l.method HL.out.m)
      have M3 := Lib.hid (hq l.host HL.out.h)
      have M4 := Lib.hid (hq l.target HL.out.t)
      have M5 : Hid (∀ x : Kin v3, Calls Tryz.prog 25 #[.int .i64 (max l.status 0)] x.wd fun e w'' => e = .returned (.string (arrS (natT l.status))) ∧ ∃ y : Kin v3, w'' = y.wd) := Lib.hid (fun x => Kin.calls (decI l.status HL.out.status x.wd))
      have M6 : Hid (∀ x : Kin v3, Calls Tryz.prog 25 #[.int .i64 (max l.size 0)] x.wd fun e w'' => e = .returned (.string (arrS (natT l.size))) ∧ ∃ y : Kin v3, w'' = y.wd) := Lib.hid (fun x => Kin.calls (decI l.size HL.out.size x.wd))
      clear hq hvb3 hvz3 z0 z2 z3 z4 z5 z6
      refine wp_region_kin (by kernel_rfl) (by kernel_rfl) ?_
      repeat (go_big_quiet_step (first | (go_at_call 27; with_reducible exact M1.out _) | (go_at_call 16; with_reducible exact M2.out _) | (go_at_call 16; with_reducible exact M3.out _) | (go_at_call 16; with_reducible exact M4.out _) | (go_at_call 25; with_reducible exact M5.out _) | (go_at_call 25; with_reducible exact M6.out _)))
      refine wpQuiet_nil ?_
      intro _ hx
      obtain ⟨x, rfl⟩ := hx
      have HWB : Hid (Below w.heap.size w x.wd) := Lib.hid (HVZ2.out.trans (x.below.mono HVZ2.out.size))
      clear x0 x2 x3 x4 x5 x6
      go_wp2
      go_ret
      exact ⟨by rw [HSUM.out]; rfl, HWB.out⟩
  · have e0 : natT l.how = HT := by rw [← hHT]; unfold howT; rw [if_neg hh]
    have hh2 : ¬ 0 ≤ l.how ∨ (0 ≤ l.how ∧ ¬ l.how < 6) := by omega
    rw [e0] at cD
    clear hh hHT e0
    rcases hh2 with g1 | ⟨g1, g2⟩
    all_goals
      go_enter Tryz.func10, Tryz.ntmps10
      go_wp2_with fail
      refine cD.mono ?_
      rintro e v ⟨rfl, hbv⟩
      rw [HW1.out] at hbv
      have hvz : Below w.heap.size w v := HS1.out.trans (hbv.mono HS1.out.size)
      have hvb := (hbv.block w.heap.size (by rw [HZ1.out]; omega)).trans HB.out
      have z1 : v.cell? ⟨w.heap.size, 1, none⟩ = some (.int .i64 l.how) := by rw [Lib.cell_of_heap hvb]; rfl
      clear hbv a1 cD
      go_upto_region 4 with (fail)
      have HVB2 := Lib.hid hvb
      have HVZ2 := Lib.hid hvz
      have z0 : v.cell? ⟨w.heap.size, 0, none⟩ = some (.int .i64 l.time) := by rw [Lib.cell_of_heap hvb]; rfl
      have z2 : v.cell? ⟨w.heap.size, 2, none⟩ = some (.string ⟨l.method.toArray⟩) := by rw [Lib.cell_of_heap hvb]; rfl
      have z3 : v.cell? ⟨w.heap.size, 3, none⟩ = some (.string ⟨l.host.toArray⟩) := by rw [Lib.cell_of_heap hvb]; rfl
      have z4 : v.cell? ⟨w.heap.size, 4, none⟩ = some (.string ⟨l.target.toArray⟩) := by rw [Lib.cell_of_heap hvb]; rfl
      have z5 : v.cell? ⟨w.heap.size, 5, none⟩ = some (.int .i64 l.status) := by rw [Lib.cell_of_heap hvb]; rfl
      have z6 : v.cell? ⟨w.heap.size, 6, none⟩ = some (.int .i64 l.size) := by rw [Lib.cell_of_heap hvb]; rfl
      have x0 : ∀ x : Kin v, x.wd.cell? ⟨w.heap.size, 0, none⟩ = some (.int .i64 l.time) := fun x => x.cell z0
      have x2 : ∀ x : Kin v, x.wd.cell? ⟨w.heap.size, 2, none⟩ = some (.string ⟨l.method.toArray⟩) := fun x => x.cell z2
      have x3 : ∀ x : Kin v, x.wd.cell? ⟨w.heap.size, 3, none⟩ = some (.string ⟨l.host.toArray⟩) := fun x => x.cell z3
      have x4 : ∀ x : Kin v, x.wd.cell? ⟨w.heap.size, 4, none⟩ = some (.string ⟨l.target.toArray⟩) := fun x => x.cell z4
      have x5 : ∀ x : Kin v, x.wd.cell? ⟨w.heap.size, 5, none⟩ = some (.int .i64 l.status) := fun x => x.cell z5
      have x6 : ∀ x : Kin v, x.wd.cell? ⟨w.heap.size, 6, none⟩ = some (.int .i64 l.size) := fun x => x.cell z6
      have M1 : Hid (∀ x : Kin v, Calls Tryz.prog 27 #[.int .i64 l.time] x.wd fun e w'' => e = .returned (.string (arrS (timeT l.time))) ∧ ∃ y : Kin v, w'' = y.wd) := Lib.hid (fun x => Kin.calls (refText_any l.time x.wd))
      have hq : ∀ (b : List UInt8), b.length ≤ 1000000 → ∀ x : Kin v, Calls Tryz.prog 16 #[.string ⟨b.toArray⟩] x.wd fun e w'' => e = .returned (.string (arrS (quoteT b))) ∧ ∃ y : Kin v, w'' = y.wd := fun b hb x => by
        have c := refQuote_any (arrS b) x.wd (by rw [arrS_size]; omega)
        rw [arrS_list] at c
        exact Kin.calls c
      have M2 := Lib.hid (hq l.method HL.out.m)
      have M3 := Lib.hid (hq l.host HL.out.h)
      have M4 := Lib.hid (hq l.target HL.out.t)
      have M5 : Hid (∀ x : Kin v, Calls Tryz.prog 25 #[.int .i64 (max l.status 0)] x.wd fun e w'' => e = .returned (.string (arrS (natT l.status))) ∧ ∃ y : Kin v, w'' = y.wd) := Lib.hid (fun x => Kin.calls (decI l.status HL.out.status x.wd))
      have M6 : Hid (∀ x : Kin v, Calls Tryz.prog 25 #[.int .i64 (max l.size 0)] x.wd fun e w'' => e = .returned (.string (arrS (natT l.size))) ∧ ∃ y : Kin v, w'' = y.wd) := Lib.hid (fun x => Kin.calls (decI l.size HL.out.size x.wd))
      clear z1 hq hvb hvz z0 z2 z3 z4 z5 z6
      refine wp_region_kin (by kernel_rfl) (by kernel_rfl) ?_
      repeat (go_big_quiet_step (first | (go_at_call 27; with_reducible exact M1.out _) | (go_at_call 16; with_reducible exact M2.out _) | (go_at_call 16; with_reducible exact M3.out _) | (go_at_call 16; with_reducible exact M4.out _) | (go_at_call 25; with_reducible exact M5.out _) | (go_at_call 25; with_reducible exact M6.out _)))
      refine wpQuiet_nil ?_
      intro _ hx
      obtain ⟨x, rfl⟩ := hx
      have HWB : Hid (Below w.heap.size w x.wd) := Lib.hid (HVZ2.out.trans (x.below.mono HVZ2.out.size))
      clear x0 x2 x3 x4 x5 x6
      go_wp2
      go_ret
      exact ⟨by rw [HSUM.out]; rfl, HWB.out⟩
end Go.Proofs.YtkbcklaloblmeaaGreatDoor
