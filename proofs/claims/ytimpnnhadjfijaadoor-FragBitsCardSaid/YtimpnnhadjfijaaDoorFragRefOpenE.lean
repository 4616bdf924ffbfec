/-
  The reference's OpenEntry.
-/
import Derived.Test.YtimpnnhadjfijaaDoorFragRefEntry
import Derived.Test.YtimpnnhadjfijaaDoorQuietTail
namespace Go.Proofs.YtimpnnhadjfijaaDoor
open Go.RowKit CrcMath

theorem slice16 (g : Nat) (w : World) : (Instr.sliceAt 45 (.pointer (some ⟨g, 0, none⟩)) none (some (.int .i64 4)) none).run Tryd.prog w = .ok (.slice (some ⟨g, 0, none⟩) 4 16) w ∧
    (Instr.sliceAt 45 (.pointer (some ⟨g, 0, none⟩)) (some (.int .i64 4)) (some (.int .i64 6)) none).run Tryd.prog w = .ok (.slice (some ⟨g, 4, none⟩) 2 12) w ∧
    (Instr.sliceAt 45 (.pointer (some ⟨g, 0, none⟩)) (some (.int .i64 6)) (some (.int .i64 8)) none).run Tryd.prog w = .ok (.slice (some ⟨g, 6, none⟩) 2 10) w ∧
    (Instr.sliceAt 45 (.pointer (some ⟨g, 0, none⟩)) (some (.int .i64 8)) none none).run Tryd.prog w = .ok (.slice (some ⟨g, 8, none⟩) 8 8) w := ⟨by kernel_rfl, by kernel_rfl, by kernel_rfl, by kernel_rfl⟩
theorem bytesAt_cut {w : World} {b off : Nat} {l : List UInt8} (h : BytesAt w (some ⟨b, off, none⟩) l) (i k : Nat) : BytesAt w (some ⟨b, off + i, none⟩) ((l.drop i).take k) := bytesAt_takeF k (bytesAt_dropF h)
theorem top_byte (X : List UInt8) (h : X.length = 16) (x : UInt8) (hx : X[8]? = some x) : x.toNat < 128 ↔ rawE X < 9223372036854775808 := by
  have hl : ((((X.drop 4).drop 2).drop 2).take 8).length = 8 := by simp; omega
  have hb : ofBE ((((X.drop 4).drop 2).drop 2).take 8) = x.toNat * 72057594037927936 + ofBE ((X.drop 9).take 7) ∧ ofBE ((X.drop 9).take 7) < 72057594037927936 := by
    have e1 : (((X.drop 4).drop 2).drop 2).take 8 = x :: (X.drop 9).take 7 := by
      simp only [List.drop_drop]
      have h8 : 8 < X.length := by omega
      rw [List.drop_eq_getElem_cons h8, List.take_succ_cons]
      rw [List.getElem?_eq_getElem h8] at hx
      injection hx with hx
      rw [hx]
    have hl7 : ((X.drop 9).take 7).length = 7 := by simp; omega
    have h7 := ofBE_lt ((X.drop 9).take 7)
    rw [hl7] at h7
    have e7 : 256 ^ 7 = 72057594037927936 := by decide
    rw [e7] at h7
    refine ⟨?_, h7⟩
    rw [e1]
    obtain ⟨t, ht⟩ : ∃ t, (X.drop 9).take 7 = t := ⟨_, rfl⟩
    rw [ht] at hl7 ⊢
    match t, hl7 with
    | [a, b, c, d, e, f, g], _ =>
      simp only [ofBE, List.foldl_cons, List.foldl_nil]
      omega
  unfold rawE
  omega

set_option maxRecDepth 100000 in
set_option maxHeartbeats 2000000 in
theorem refOpenEntry_any (X : List UInt8) (w : World) (hX : X.length = 16) :
    Calls Tryd.prog 19 #[.agg (bytesV X)] w (OEPost X w) := by
  obtain ⟨f1, f2, f3, f4⟩ := fieldE_lt X hX
  obtain ⟨t1, ht1⟩ : ∃ t, atE X = t := ⟨_, rfl⟩
  obtain ⟨t2, ht2⟩ : ∃ t, secE X = t := ⟨_, rfl⟩
  obtain ⟨t3, ht3⟩ : ∃ t, tagE X = t := ⟨_, rfl⟩
  obtain ⟨t4, ht4⟩ : ∃ t, rawE X = t := ⟨_, rfl⟩
  obtain ⟨x8, hx8⟩ : ∃ x8, X[8]? = some x8 := ⟨X[8], List.getElem?_eq_getElem (by omega)⟩
  have htop := top_byte X hX x8 hx8
  have HGD : Hid (9223372036854775808 ≤ t4 → t3 ≤ 4095 → 0 < t2 → oeV X = .tuple #[entryV t3 t1 t2 (t4 % 9223372036854775808), .int .i64 0]) := Lib.hid (by rw [← ht1, ← ht2, ← ht3, ← ht4]; exact oeV_good)
  have HBD : Hid (¬ (9223372036854775808 ≤ t4 ∧ t3 ≤ 4095 ∧ 0 < t2) → oeV X = .tuple #[entryV 0 0 0 0, .int .i64 40]) := Lib.hid (by rw [← ht2, ← ht3, ← ht4]; exact oeV_bad)
  rw [ht1] at f1; rw [ht2] at f2; rw [ht3] at f3; rw [ht4] at f4 htop
  obtain ⟨t5, ht5⟩ : ∃ t5, t4 % 9223372036854775808 = t5 := ⟨_, rfl⟩
  have hN := top_andNot f4
  rw [ht5] at hN HGD
  have w1 : IntKind.u32.wrap (t1 : Int) = (t1 : Int) := by rw [IntKind.wrap_u32]; omega
  have w2 : IntKind.u16.wrap (t2 : Int) = (t2 : Int) := by rw [IntKind.wrap_u16]; omega
  have w3 : IntKind.u16.wrap (t3 : Int) = (t3 : Int) := by rw [IntKind.wrap_u16]; omega
  obtain ⟨v2, hv2⟩ : ∃ v2, (w.alloc (.cells (bytesV X) 45)).alloc (.cells #[.int .u16 ((0 : Nat) : Int), .int .u32 ((0 : Nat) : Int), .int .u16 ((0 : Nat) : Int), .int .u64 ((0 : Nat) : Int)] 44) = v2 := ⟨_, rfl⟩
  have HV2 := Lib.hid hv2
  have hsz : v2.heap.size = w.heap.size + 2 := by rw [← hv2]; simp
  have hq0 : v2.heap[w.heap.size]? = some (.cells (bytesV X) 45 (0, 0)) := by
    rw [← hv2]
    exact (Below.heap_alloc _ _ _ (by simp)).trans (heap_alloc_new w _)
  have hr0 : v2.heap[w.heap.size + 1]? = some (.cells #[.int .u16 ((0 : Nat) : Int), .int .u32 ((0 : Nat) : Int), .int .u16 ((0 : Nat) : Int), .int .u64 ((0 : Nat) : Int)] 44 (0, 0)) := by
    rw [← hv2]
    have := heap_alloc_new (w.alloc (.cells (bytesV X) 45)) (.cells #[.int .u16 ((0 : Nat) : Int), .int .u32 ((0 : Nat) : Int), .int .u16 ((0 : Nat) : Int), .int .u64 ((0 : Nat) : Int)] 44)
    simpa using this
  have HS0 : Hid (Spares nowhere w v2) := Lib.hid (by rw [← hv2]; exact ((Spares.refl _ w).alloc _).alloc _)
  have HB : Hid (∀ W, Spares nowhere v2 W → BytesAt W (some ⟨w.heap.size, 0, none⟩) X) := Lib.hid (fun W hW => (bytesV_at hq0).spares hW (fun _ _ _ h => h))
  obtain ⟨G, hG⟩ : ∃ G : Nat → Nat → Nat, G = fun i k => ofBE ((X.drop i).take k) := ⟨_, rfl⟩
  have HG : Hid (∀ i k c W, (Spares nowhere v2 W ∧ i + k ≤ 16 ∧ k ≤ 8) → Calls Tryd.prog 33 #[.slice (some ⟨w.heap.size, i, none⟩) k c] W fun e w' => e = .returned (.int .u64 (G i k : Nat)) ∧ W = w') := Lib.hid (fun i k c W ⟨h0, h1, h2⟩ => by
    have := refGet_any (some ⟨w.heap.size, 0 + i, none⟩) k c ((X.drop i).take k) W (bytesAt_cut (HB.out W h0) i k) (by simp; omega) (by simp; omega)
    rw [Nat.zero_add] at this
    rw [hG]; exact this)
  have e1 : G 0 4 = t1 := by rw [hG, ← ht1]; rfl
  have e2 : G 4 2 = t2 := by rw [hG, ← ht2]; rfl
  have e3 : G 6 2 = t3 := by rw [hG, ← ht3]; unfold tagE; rw [List.drop_drop]
  have e4 : G 8 8 = t4 := by rw [hG, ← ht4]; unfold rawE; rw [List.drop_drop, List.drop_drop]
  rw [← e1] at w1; rw [← e2] at w2; rw [← e3] at w3; rw [← e4] at hN
  rw [e1] at w1
  replace w1 : IntKind.u32.wrap ((G 0 4 : Nat) : Int) = (t1 : Int) := by rw [e1]; exact w1
  replace w2 : IntKind.u16.wrap ((G 4 2 : Nat) : Int) = (t2 : Int) := by rw [w2, e2]
  replace w3 : IntKind.u16.wrap ((G 6 2 : Nat) : Int) = (t3 : Int) := by rw [w3, e3]
  have HKEEP : Hid (∀ W, Spares nowhere v2 W → W.heap[w.heap.size]? = some (.cells (bytesV X) 45 (0, 0))) := Lib.hid (fun W hW => hW.heap hq0 (fun h => h))
  have HR0 := Lib.hid hr0
  have HZ := Lib.hid hsz
  obtain ⟨g, hg⟩ : ∃ g, v2.heap.size = g := ⟨_, rfl⟩
  obtain ⟨v9, hv9⟩ : ∃ v9, (v2.alloc (.cells #[.int .u16 t3, .int .u32 t1, .int .u16 t2, .int .u64 t5] 44)).drew = v9 := ⟨_, rfl⟩
  have hs9 : Spares nowhere v2 v9 := by rw [← hv9]; exact ((Spares.refl _ v2).alloc _).drew
  have HG9 : Hid (v9.heap[g]? = some (.cells #[.int .u16 t3, .int .u32 t1, .int .u16 t2, .int .u64 t5] 44 (0, 0))) := Lib.hid (by rw [← hv9, ← hg]; exact heap_alloc_new v2 _)
  have HR9 := Lib.hid (hs9.heap hr0 (fun h => h))
  have HC9 : Hid (v9.cell? ⟨w.heap.size, 8, none⟩ = some (.int .u8 x8.toNat)) := Lib.hid (by
    rw [Lib.cell_of_heap (hs9.heap hq0 (fun h => h)), bytesV_get X 8 (by omega), List.getD_eq_getElem?_getD, hx8]; rfl)
  have HS9 := Lib.hid (HS0.out.trans hs9)
  have HV9 := Lib.hid hv9
  have HGG := Lib.hid hg
  clear hv9 hs9 hg
  clear hv2 hq0 hr0 hsz ht1 ht2 ht3 ht4 ht5 hx8 HB hG e1 e2 e3 e4
  have k1 := fun W => (slice16 w.heap.size W).1
  have k2 := fun W => (slice16 w.heap.size W).2.1
  have k3 := fun W => (slice16 w.heap.size W).2.2.1
  have k4 := fun W => (slice16 w.heap.size W).2.2.2
  go_enter Tryd.func19, Tryd.ntmps19
  go_upto_region 1 with (fail)
  change Code.wp _ _ _ _ ((w.alloc (.cells (bytesV X) 45)).alloc (.cells #[.int .u16 ((0 : Nat) : Int), .int .u32 ((0 : Nat) : Int), .int .u16 ((0 : Nat) : Int), .int .u64 ((0 : Nat) : Int)] 44))
  rw [HV2.out]
  go_region_held3 (fun w' => w'.heap[w.heap.size]? = some (.cells (bytesV X) 45 (0, 0)))
    (first
      | exact HKEEP.out _ (Spares.refl _ _).drew
      | exact HKEEP.out _ ((Spares.refl _ _).drew.alloc _)
      | fail)
    (first
      | (go_at_call 33; refine Calls.mono (HG.out _ _ _ _ ⟨(Spares.refl _ _).drew, by decide, by decide⟩) ?_; rintro e w4 ⟨rfl, rfl⟩)
      | (go_at_call 33; refine Calls.mono (HG.out _ _ _ _ ⟨(Spares.refl _ _).drew.alloc _, by decide, by decide⟩) ?_; rintro e w4 ⟨rfl, rfl⟩)
      | fail)
  all_goals
    change Exit.then _ _ Exit.normal _ ((v2.alloc (.cells #[.int .u16 t3, .int .u32 t1, .int .u16 t2, .int .u64 t5] 44)).drew)
    rw [HV9.out, HGG.out]
    have hc8 := HC9.out
    have c0 : v9.cell? ⟨g, 0, none⟩ = some (.int .u16 t3) := by rw [Lib.cell_of_heap HG9.out]; rfl
    have c2 : v9.cell? ⟨g, 2, none⟩ = some (.int .u16 t2) := by rw [Lib.cell_of_heap HG9.out]; rfl
    have HI := Lib.hid infoEntry
    clear HG HKEEP HV2 HV9 HGG w1 w2 w3 hN
    by_cases p1 : 9223372036854775808 ≤ t4 ∧ t3 ≤ 4095 ∧ 0 < t2
    · have HV := Lib.hid (HGD.out p1.1 p1.2.1 p1.2.2)
      have i8 : ¬ (x8.toNat : Int) < 128 := by have := htop; omega
      have i8b : decide ((x8.toNat : Int) < 128) = false := decide_eq_false i8
      have i3 : ¬ (4095 : Int) < (t3 : Int) := by omega
      have i3b : decide ((4095 : Int) < (t3 : Int)) = false := decide_eq_false i3
      have i2b : ((t2 : Int) == 0) = false := by simp; omega
      have hst := entry_stored (a' := .int .u16 t3) (b' := .int .u32 t1) (c' := .int .u16 t2) (d' := .int .u64 t5) HR9.out
      have HT := Lib.hid hst.1
      have HQ := Lib.hid hst.2
      clear hst p1 htop
      go_wp2_with (first
        | ((with_reducible show wpList _ _ _ (⟨some 32, .load 44 _, _, _, _, _⟩ :: _) _ _); refine wpList_load_row rfl 44 (.tmp 4) rfl g rfl 44 _ (0, 0) _ HG9.out Tryd.underlying44 rfl HI.out ?_)
        | ((with_reducible show wpList _ _ _ (⟨none, .store 44 _ _, _, _, _, _⟩ :: _) _ _); refine wpList_store_mid rfl 44 (.tmp 2) (.tmp 32) rfl (w.heap.size + 1) 0 #[.int .u16 t3, .int .u32 t1, .int .u16 t2, .int .u64 t5] rfl rfl HT.out HI.out (ones4 _ _ _ _) ?_))
      exact bodyPost_ret (v := .tuple #[.agg #[.int .u16 t3, .int .u32 t1, .int .u16 t2, .int .u64 t5], .int .i64 0]) (results_cell_two rfl _ _ (w.heap.size + 1) 44 #[.int .u16 t3, .int .u32 t1, .int .u16 t2, .int .u64 t5] (0, 0) _ (.int .i64 0) rfl rfl HQ.out Tryd.underlying44 (by rfl) HI.out) rfl ⟨by rw [HV.out]; rfl, HS9.out.trans' (F' := fun b => b = w.heap.size + 1) (spares_setCells _ _ _ (Spares.refl _ _)) (fun b hb => .inr (by omega))⟩
    · have HV := Lib.hid (HBD.out p1)
      have hst := entry_stored (a' := .int .u16 (0 : Nat)) (b' := .int .u32 (0 : Nat)) (c' := .int .u16 (0 : Nat)) (d' := .int .u64 (0 : Nat)) HR9.out
      have HT := Lib.hid hst.1
      have HQ := Lib.hid hst.2
      clear hst
      by_cases q4 : 9223372036854775808 ≤ t4
      · have i8 : ¬ (x8.toNat : Int) < 128 := by have := htop; omega
        have i8b : decide ((x8.toNat : Int) < 128) = false := decide_eq_false i8
        by_cases q3 : t3 ≤ 4095
        · have i2 : (t2 : Int) = 0 := by omega
          have i2b : ((t2 : Int) == 0) = true := by simpa using i2
          have i3 : ¬ (4095 : Int) < (t3 : Int) := by omega
          have i3b : decide ((4095 : Int) < (t3 : Int)) = false := decide_eq_false i3
          clear p1 q4 q3 htop
          go_wp2_with ((with_reducible show wpList _ _ _ (⟨none, .store 44 _ _, _, _, _, _⟩ :: _) _ _); refine wpList_store_mid rfl 44 (.tmp 2) (.tmp 31) rfl (w.heap.size + 1) 0 #[.int .u16 (0 : Nat), .int .u32 (0 : Nat), .int .u16 (0 : Nat), .int .u64 (0 : Nat)] rfl rfl HT.out HI.out (ones4 _ _ _ _) ?_)
          exact bodyPost_ret (v := .tuple #[.agg #[.int .u16 (0 : Nat), .int .u32 (0 : Nat), .int .u16 (0 : Nat), .int .u64 (0 : Nat)], .int .i64 40]) (results_cell_two rfl _ _ (w.heap.size + 1) 44 #[.int .u16 (0 : Nat), .int .u32 (0 : Nat), .int .u16 (0 : Nat), .int .u64 (0 : Nat)] (0, 0) _ (.int .i64 40) rfl rfl HQ.out Tryd.underlying44 (by rfl) HI.out) rfl ⟨by rw [HV.out]; rfl, HS9.out.trans' (F' := fun b => b = w.heap.size + 1) (spares_setCells _ _ _ (Spares.refl _ _)) (fun b hb => .inr (by omega))⟩
        · have i3 : (4095 : Int) < (t3 : Int) := by omega
          have i3b : decide ((4095 : Int) < (t3 : Int)) = true := decide_eq_true i3
          clear p1 q4 q3 htop
          go_wp2_with ((with_reducible show wpList _ _ _ (⟨none, .store 44 _ _, _, _, _, _⟩ :: _) _ _); refine wpList_store_mid rfl 44 (.tmp 2) (.tmp 31) rfl (w.heap.size + 1) 0 #[.int .u16 (0 : Nat), .int .u32 (0 : Nat), .int .u16 (0 : Nat), .int .u64 (0 : Nat)] rfl rfl HT.out HI.out (ones4 _ _ _ _) ?_)
          exact bodyPost_ret (v := .tuple #[.agg #[.int .u16 (0 : Nat), .int .u32 (0 : Nat), .int .u16 (0 : Nat), .int .u64 (0 : Nat)], .int .i64 40]) (results_cell_two rfl _ _ (w.heap.size + 1) 44 #[.int .u16 (0 : Nat), .int .u32 (0 : Nat), .int .u16 (0 : Nat), .int .u64 (0 : Nat)] (0, 0) _ (.int .i64 40) rfl rfl HQ.out Tryd.underlying44 (by rfl) HI.out) rfl ⟨by rw [HV.out]; rfl, HS9.out.trans' (F' := fun b => b = w.heap.size + 1) (spares_setCells _ _ _ (Spares.refl _ _)) (fun b hb => .inr (by omega))⟩
      · have i8 : (x8.toNat : Int) < 128 := by have := htop; omega
        have i8b : decide ((x8.toNat : Int) < 128) = true := decide_eq_true i8
        clear p1 q4 htop
        go_wp2_with ((with_reducible show wpList _ _ _ (⟨none, .store 44 _ _, _, _, _, _⟩ :: _) _ _); refine wpList_store_mid rfl 44 (.tmp 2) (.tmp 31) rfl (w.heap.size + 1) 0 #[.int .u16 (0 : Nat), .int .u32 (0 : Nat), .int .u16 (0 : Nat), .int .u64 (0 : Nat)] rfl rfl HT.out HI.out (ones4 _ _ _ _) ?_)
        exact bodyPost_ret (v := .tuple #[.agg #[.int .u16 (0 : Nat), .int .u32 (0 : Nat), .int .u16 (0 : Nat), .int .u64 (0 : Nat)], .int .i64 40]) (results_cell_two rfl _ _ (w.heap.size + 1) 44 #[.int .u16 (0 : Nat), .int .u32 (0 : Nat), .int .u16 (0 : Nat), .int .u64 (0 : Nat)] (0, 0) _ (.int .i64 40) rfl rfl HQ.out Tryd.underlying44 (by rfl) HI.out) rfl ⟨by rw [HV.out]; rfl, HS9.out.trans' (F' := fun b => b = w.heap.size + 1) (spares_setCells _ _ _ (Spares.refl _ _)) (fun b hb => .inr (by omega))⟩
end Go.Proofs.YtimpnnhadjfijaaDoor
