/-
  The reference's Entry and OpenEntry.
  The reference's OpenEntry.
  A key's tag and bucket.
  A directory made.
-/
import Derived.Deep.RegionHeld3
import Derived.StillTail
import Derived.Deep.QuietTactic
import Derived.Test.YtihbjkdgfflnfaaMg4
import Derived.Test.YtihbjkdgfflnfaaMg5
import Derived.Test.YtihbjkdgfflnfaaMg10
namespace Go.Proofs.Ytihbjkdgfflnfaa
open Go.RowKit CrcMath

def PutPost (B : Nat) (d : List UInt8) (w : World) (e : Ending) (w' : World) : Prop := ∃ v', e = .returned v' ∧ Row8 B w' v' d ∧ Spares (atLeast B) w w' ∧ B ≤ w'.heap.size
theorem put_post (B : Nat) (v : Value) (d : List UInt8) (M k : Nat) (K : Int) (w : World) (hK : K = (k : Int)) (hr : Row8 B w v d) (hB : B ≤ w.heap.size) (hk : k ≤ 8) (hd : d.length + k ≤ 140737488355328) :
    Calls Try.prog 44 #[v, .int .u64 M, .int .i64 K] w (PutPost B (d ++ beN k M) w) := by
  subst hK
  refine (put_any B v d M k w hr hB hk hd).mono ?_
  rintro e w' ⟨v', rfl, h1, h2⟩
  exact ⟨v', rfl, h1, h2, Nat.le_trans hB h2.size⟩
set_option maxRecDepth 100000 in
set_option maxHeartbeats 2000000 in
theorem refEntry_any (tag at_ sec turn T U : Nat) (w : World) (hT : Go.bits .and .u16 (tag : Int) 4095 = (T : Int)) (hU : Go.bits .or .u64 (turn : Int) 9223372036854775808 = (U : Int)) (_h1 : tag < 65536) (h2 : at_ < 4294967296) (h3 : sec < 65536) (hT2 : T < 65536) :
    Calls Try.prog 45 #[.agg #[.int .u16 tag, .int .u32 at_, .int .u16 sec, .int .u64 turn]] w fun e w' => e = .returned (.agg (bytesV (entryF T at_ sec U))) ∧ Spares nowhere w w' := by
  have w1 : IntKind.u64.wrap (at_ : Int) = (at_ : Int) := by rw [IntKind.wrap_u64]; omega
  have w2 : IntKind.u64.wrap (sec : Int) = (sec : Int) := by rw [IntKind.wrap_u64]; omega
  have w3 : IntKind.u64.wrap (T : Int) = (T : Int) := by rw [IntKind.wrap_u64]; omega
  obtain ⟨D, hD⟩ : ∃ D, entryF T at_ sec U = D := ⟨_, rfl⟩
  have hDl : D.length = 16 := by rw [← hD]; exact entryF_len ..
  rw [hD]
  have HD := Lib.hid hD
  obtain ⟨v2, hv2⟩ : ∃ v2, (w.alloc (.cells #[.int .u16 tag, .int .u32 at_, .int .u16 sec, .int .u64 turn] 41)).alloc (.cells (bytesV (List.replicate 16 0)) 82) = v2 := ⟨_, rfl⟩
  have HV2 := Lib.hid hv2
  have hsz : v2.heap.size = w.heap.size + 2 := by rw [← hv2]; simp
  have hq0 : v2.heap[w.heap.size]? = some (.cells #[.int .u16 tag, .int .u32 at_, .int .u16 sec, .int .u64 turn] 41 (0, 0)) := by
    rw [← hv2]
    exact (Below.heap_alloc _ _ _ (by simp)).trans (heap_alloc_new w _)
  have HR0 : Hid (v2.heap[w.heap.size + 1]? = some (.cells (bytesV (List.replicate 16 0)) 82 (0, 0))) := Lib.hid (by
    rw [← hv2]
    have := heap_alloc_new (w.alloc (.cells #[.int .u16 tag, .int .u32 at_, .int .u16 sec, .int .u64 turn] 41)) (.cells (bytesV (List.replicate 16 0)) 82)
    simpa using this)
  have HS0 : Hid (Spares nowhere w v2) := Lib.hid (by rw [← hv2]; exact ((Spares.refl _ w).alloc _).alloc _)
  obtain ⟨B, hB⟩ : ∃ B, v2.heap.size = B := ⟨_, rfl⟩
  have hqB : w.heap.size + 2 ≤ B := by omega
  have HQB := Lib.hid hqB
  have HKEEP : Hid (∀ W, Spares (atLeast B) v2.drew W → W.cell? ⟨w.heap.size, 1, none⟩ = some (.int .u32 at_) ∧ W.cell? ⟨w.heap.size, 2, none⟩ = some (.int .u16 sec) ∧ W.cell? ⟨w.heap.size, 0, none⟩ = some (.int .u16 tag) ∧ W.cell? ⟨w.heap.size, 3, none⟩ = some (.int .u64 turn)) := Lib.hid (fun W hW => by
    have hq : W.heap[w.heap.size]? = some (.cells #[.int .u16 tag, .int .u32 at_, .int .u16 sec, .int .u64 turn] 41 (0, 0)) := hW.heap (o := .cells #[.int .u16 tag, .int .u32 at_, .int .u16 sec, .int .u64 turn] 41 (0, 0)) hq0 (fun h => by unfold atLeast at h; omega)
    refine ⟨?_, ?_, ?_, ?_⟩ <;> (rw [Lib.cell_of_heap hq]; rfl))
  have hBd : B ≤ v2.drew.heap.size := by rw [← hB]; exact Nat.le_refl _
  have HP1 := Lib.hid (put_post B (.slice none 0 0) [] at_ 4 4 v2.drew rfl (row8_nil _ _) hBd (by omega) (by simp))
  have HP2 : Hid (∀ v W, Row8 B W v ([] ++ beN 4 at_) → B ≤ W.heap.size → Calls Try.prog 44 #[v, .int .u64 sec, .int .i64 2] W (PutPost B ([] ++ beN 4 at_ ++ beN 2 sec) W)) := Lib.hid (fun v W h1 h2 => put_post B v _ sec 2 2 W rfl h1 h2 (by omega) (by simp [beN_len]))
  have HP3 : Hid (∀ v W, Row8 B W v ([] ++ beN 4 at_ ++ beN 2 sec) → B ≤ W.heap.size → Calls Try.prog 44 #[v, .int .u64 T, .int .i64 2] W (PutPost B ([] ++ beN 4 at_ ++ beN 2 sec ++ beN 2 T) W)) := Lib.hid (fun v W h1 h2 => put_post B v _ T 2 2 W rfl h1 h2 (by omega) (by simp [beN_len]))
  have HP4 : Hid (∀ v W, Row8 B W v ([] ++ beN 4 at_ ++ beN 2 sec ++ beN 2 T) → B ≤ W.heap.size → Calls Try.prog 44 #[v, .int .u64 U, .int .i64 8] W (PutPost B ([] ++ beN 4 at_ ++ beN 2 sec ++ beN 2 T ++ beN 8 U) W)) := Lib.hid (fun v W h1 h2 => put_post B v _ U 8 8 W rfl h1 h2 (by omega) (by simp [beN_len]))
  clear hv2 hD hsz hB hq0 hqB hBd
  go_enter Try.func45, Try.ntmps45
  go_upto_region 1 with (fail)
  change Code.wp _ _ _ _ ((w.alloc (.cells #[.int .u16 tag, .int .u32 at_, .int .u16 sec, .int .u64 turn] 41)).alloc (.cells (bytesV (List.replicate 16 0)) 82))
  rw [HV2.out]
  go_region_held3 (fun w' => w'.cell? ⟨w.heap.size, 1, none⟩ = some (.int .u32 at_) ∧ w'.cell? ⟨w.heap.size, 2, none⟩ = some (.int .u16 sec) ∧ w'.cell? ⟨w.heap.size, 0, none⟩ = some (.int .u16 tag) ∧ w'.cell? ⟨w.heap.size, 3, none⟩ = some (.int .u64 turn))
    (first
      | exact HKEEP.out _ (Spares.refl _ _)
      | exact HKEEP.out _ hs4
      | exact HKEEP.out _ (hs4.trans hs5)
      | exact HKEEP.out _ ((hs4.trans hs5).trans hs6)
      | exact HKEEP.out _ (((hs4.trans hs5).trans hs6).trans hs7)
      | fail)
    (first
      | (go_at_call 44; (with_reducible refine Calls.mono HP1.out ?_); rintro e v4 ⟨u4, rfl, hr4, hs4, hb4⟩)
      | (go_at_call 44; (with_reducible refine Calls.mono (HP2.out u4 v4 hr4 hb4) ?_); rintro e v5 ⟨u5, rfl, hr5, hs5, hb5⟩)
      | (go_at_call 44; (with_reducible refine Calls.mono (HP3.out u5 v5 hr5 hb5) ?_); rintro e v6 ⟨u6, rfl, hr6, hs6, hb6⟩)
      | (go_at_call 44; (with_reducible refine Calls.mono (HP4.out u6 v6 hr6 hb6) ?_); rintro e v7 ⟨u7, rfl, hr7, hs7, hb7⟩)
      | fail)
  have hs27 := ((hs4.trans hs5).trans hs6).trans hs7
  have hr7' : Row8 B v7 u7 D := by rw [← HD.out]; simpa [entryF] using hr7
  obtain ⟨a9, c9, hu9, hat, _, _⟩ := hr7'.shape
  rw [hDl] at hu9
  subst hu9
  obtain ⟨g9, o9, rfl, _⟩ := hat 0 (by omega)
  have HA := Lib.hid hat.range
  have h16 := fun w => arr16 (some ⟨g9, o9, none⟩) c9 w
  have hrr : v7.heap[w.heap.size + 1]? = some (.cells (bytesV (List.replicate 16 0)) 82 (0, 0)) := hs27.heap (o := .cells (bytesV (List.replicate 16 0)) 82 (0, 0)) HR0.out (fun h => by have := HQB.out; unfold atLeast at h; omega)
  have infoC : (Try.prog.info? 82).map (·.size) = some (Lib.byteCells D).length := by rw [byteCells_len, hDl]; exact info16
  have infoV : (Try.prog.info? 82).map (·.size) = some (bytesV D).size := by rw [bytesV_size, hDl]; exact info16
  have htq : v7.there (w.heap.size + 1) 0 (bytesV D).size := there_of hrr 0 _ (by rw [bytesV_size, bytesV_size, hDl]; simp)
  have hgq : (v7.setCells (w.heap.size + 1) 0 (Lib.byteCells D)).heap[w.heap.size + 1]? = some (.cells (bytesV D) 82 (0, 0)) := by
    have := heap_setCells (g := w.heap.size + 1) (t := 82) (Lib.byteCells D) [] (Lib.byteCells (List.replicate 16 0)) [] v7 (by rw [List.append_nil]; exact hrr) (by rw [byteCells_len, byteCells_len, hDl]; simp)
    rw [List.append_nil] at this
    exact this
  have HT := Lib.hid htq
  have HGQ := Lib.hid hgq
  have HI := Lib.hid infoC
  have HI2 := Lib.hid infoV
  have HS7 : Hid (Spares nowhere w v7) := Lib.hid ((HS0.out.drew).trans' hs27 (fun b hb => .inr (by have := HQB.out; unfold atLeast at hb; omega)))
  clear hs27 hr7' hat hrr htq hgq infoC infoV hr4 hs4 hr5 hs5 hr6 hs6 hr7 hs7 HKEEP HP1 HP2 HP3 HP4
  go_wp2_with (first
    | ((with_reducible show wpList _ _ _ (⟨some 23, .load 82 _, _, _, _, _⟩ :: _) _ _); refine wpList_load_mid rfl 82 (.tmp 22) rfl g9 o9 rfl (Lib.byteCells D) _ HA.out Try.underlying82 rfl HI.out ?_)
    | ((with_reducible show wpList _ _ _ (⟨none, .store 82 _ _, _, _, _, _⟩ :: _) _ _); refine wpList_store_mid rfl 82 (.tmp 2) (.tmp 23) rfl (w.heap.size + 1) 0 (bytesV D) rfl rfl HT.out HI2.out (bytesV_one _) ?_))
  exact bodyPost_ret (v := .agg (bytesV D)) (results_cell_row rfl _ _ (w.heap.size + 1) 82 (bytesV D) (0, 0) _ rfl HGQ.out Try.underlying82 (by rfl) HI2.out) rfl ⟨rfl, HS7.out.trans' (F' := fun b => b = w.heap.size + 1) (spares_setCells _ _ _ (Spares.refl _ _)) (fun b hb => .inr (by omega))⟩
end Go.Proofs.Ytihbjkdgfflnfaa
namespace Go.Proofs.Ytihbjkdgfflnfaa
open Go.RowKit CrcMath

theorem slice16 (g : Nat) (w : World) : (Instr.sliceAt 82 (.pointer (some ⟨g, 0, none⟩)) none (some (.int .i64 4)) none).run Try.prog w = .ok (.slice (some ⟨g, 0, none⟩) 4 16) w ∧
    (Instr.sliceAt 82 (.pointer (some ⟨g, 0, none⟩)) (some (.int .i64 4)) (some (.int .i64 6)) none).run Try.prog w = .ok (.slice (some ⟨g, 4, none⟩) 2 12) w ∧
    (Instr.sliceAt 82 (.pointer (some ⟨g, 0, none⟩)) (some (.int .i64 6)) (some (.int .i64 8)) none).run Try.prog w = .ok (.slice (some ⟨g, 6, none⟩) 2 10) w ∧
    (Instr.sliceAt 82 (.pointer (some ⟨g, 0, none⟩)) (some (.int .i64 8)) none none).run Try.prog w = .ok (.slice (some ⟨g, 8, none⟩) 8 8) w := ⟨by kernel_rfl, by kernel_rfl, by kernel_rfl, by kernel_rfl⟩
theorem bytesAt_cut {w : World} {b off : Nat} {l : List UInt8} (h : BytesAt w (some ⟨b, off, none⟩) l) (i k : Nat) : BytesAt w (some ⟨b, off + i, none⟩) ((l.drop i).take k) := bytesAt_takeF k (bytesAt_dropF h)
theorem top_byte (X : List UInt8) (h : X.length = 16) (x : UInt8) (hx : X[8]? = some x) : x.toNat < 128 ↔ rawE X < 9223372036854775808 := by
  have hl : ((((X.drop 4).drop 2).drop 2).take 8).length = 8 := by simp; omega
  have hb : ofBE ((((X.drop 4).drop 2).drop 2).take 8) = x.toNat * 72057594037927936 + ofBE ((X.drop 9).take 7) ∧ ofBE ((X.drop 9).take 7) < 72057594037927936 := by
    have e1 : (((X.drop 4).drop 2).drop 2).take 8 = x :: (X.drop 9).take 7 := by
      simp only [List.drop_drop]
      have h8 : 8 < X.length := by omega
      rw [List.drop_eq_getElem_cons h8, List.take_succ_cons]
      rw [List.getElem?_eq_getElem h8] at hx
      injection hx with hx
      rw [hx]
    have hl7 : ((X.drop 9).take 7).length = 7 := by simp; omega
    have h7 := ofBE_lt ((X.drop 9).take 7)
    rw [hl7] at h7
    have e7 : 256 ^ 7 = 72057594037927936 := by decide
    rw [e7] at h7
    refine ⟨?_, h7⟩
    rw [e1]
    obtain ⟨t, ht⟩ : ∃ t, (X.drop 9).take 7 = t := ⟨_, rfl⟩
    rw [ht] at hl7 ⊢
    match t, hl7 with
    | [a, b, c, d, e, f, g], _ =>
      simp only [ofBE, List.foldl_cons, List.foldl_nil]
      omega
  unfold rawE
  omega

set_option maxRecDepth 100000 in
set_option maxHeartbeats 2000000 in
theorem refOpenEntry_any (X : List UInt8) (w : World) (hX : X.length = 16) :
    Calls Try.prog 47 #[.agg (bytesV X)] w (OEPost X w) := by
  obtain ⟨f1, f2, f3, f4⟩ := fieldE_lt X hX
  obtain ⟨t1, ht1⟩ : ∃ t, atE X = t := ⟨_, rfl⟩
  obtain ⟨t2, ht2⟩ : ∃ t, secE X = t := ⟨_, rfl⟩
  obtain ⟨t3, ht3⟩ : ∃ t, tagE X = t := ⟨_, rfl⟩
  obtain ⟨t4, ht4⟩ : ∃ t, rawE X = t := ⟨_, rfl⟩
  obtain ⟨x8, hx8⟩ : ∃ x8, X[8]? = some x8 := ⟨X[8], List.getElem?_eq_getElem (by omega)⟩
  have htop := top_byte X hX x8 hx8
  have HGD : Hid (9223372036854775808 ≤ t4 → t3 ≤ 4095 → 0 < t2 → oeV X = .tuple #[entryV t3 t1 t2 (t4 % 9223372036854775808), .int .i64 0]) := Lib.hid (by rw [← ht1, ← ht2, ← ht3, ← ht4]; exact oeV_good)
  have HBD : Hid (¬ (9223372036854775808 ≤ t4 ∧ t3 ≤ 4095 ∧ 0 < t2) → oeV X = .tuple #[entryV 0 0 0 0, .int .i64 40]) := Lib.hid (by rw [← ht2, ← ht3, ← ht4]; exact oeV_bad)
  rw [ht1] at f1; rw [ht2] at f2; rw [ht3] at f3; rw [ht4] at f4 htop
  obtain ⟨t5, ht5⟩ : ∃ t5, t4 % 9223372036854775808 = t5 := ⟨_, rfl⟩
  have hN := top_andNot f4
  rw [ht5] at hN HGD
  have w1 : IntKind.u32.wrap (t1 : Int) = (t1 : Int) := by rw [IntKind.wrap_u32]; omega
  have w2 : IntKind.u16.wrap (t2 : Int) = (t2 : Int) := by rw [IntKind.wrap_u16]; omega
  have w3 : IntKind.u16.wrap (t3 : Int) = (t3 : Int) := by rw [IntKind.wrap_u16]; omega
  obtain ⟨v2, hv2⟩ : ∃ v2, (w.alloc (.cells (bytesV X) 82)).alloc (.cells #[.int .u16 ((0 : Nat) : Int), .int .u32 ((0 : Nat) : Int), .int .u16 ((0 : Nat) : Int), .int .u64 ((0 : Nat) : Int)] 41) = v2 := ⟨_, rfl⟩
  have HV2 := Lib.hid hv2
  have hsz : v2.heap.size = w.heap.size + 2 := by rw [← hv2]; simp
  have hq0 : v2.heap[w.heap.size]? = some (.cells (bytesV X) 82 (0, 0)) := by
    rw [← hv2]
    exact (Below.heap_alloc _ _ _ (by simp)).trans (heap_alloc_new w _)
  have hr0 : v2.heap[w.heap.size + 1]? = some (.cells #[.int .u16 ((0 : Nat) : Int), .int .u32 ((0 : Nat) : Int), .int .u16 ((0 : Nat) : Int), .int .u64 ((0 : Nat) : Int)] 41 (0, 0)) := by
    rw [← hv2]
    have := heap_alloc_new (w.alloc (.cells (bytesV X) 82)) (.cells #[.int .u16 ((0 : Nat) : Int), .int .u32 ((0 : Nat) : Int), .int .u16 ((0 : Nat) : Int), .int .u64 ((0 : Nat) : Int)] 41)
    simpa using this
  have HS0 : Hid (Spares nowhere w v2) := Lib.hid (by rw [← hv2]; exact ((Spares.refl _ w).alloc _).alloc _)
  have HB : Hid (∀ W, Spares nowhere v2 W → BytesAt W (some ⟨w.heap.size, 0, none⟩) X) := Lib.hid (fun W hW => (bytesV_at hq0).spares hW (fun _ _ _ h => h))
  obtain ⟨G, hG⟩ : ∃ G : Nat → Nat → Nat, G = fun i k => ofBE ((X.drop i).take k) := ⟨_, rfl⟩
  have HG : Hid (∀ i k c W, (Spares nowhere v2 W ∧ i + k ≤ 16 ∧ k ≤ 8) → Calls Try.prog 46 #[.slice (some ⟨w.heap.size, i, none⟩) k c] W fun e w' => e = .returned (.int .u64 (G i k : Nat)) ∧ W = w') := Lib.hid (fun i k c W ⟨h0, h1, h2⟩ => by
    have := refGet_any (some ⟨w.heap.size, 0 + i, none⟩) k c ((X.drop i).take k) W (bytesAt_cut (HB.out W h0) i k) (by simp; omega) (by simp; omega)
    rw [Nat.zero_add] at this
    rw [hG]; exact this)
  have e1 : G 0 4 = t1 := by rw [hG, ← ht1]; rfl
  have e2 : G 4 2 = t2 := by rw [hG, ← ht2]; rfl
  have e3 : G 6 2 = t3 := by rw [hG, ← ht3]; unfold tagE; rw [List.drop_drop]
  have e4 : G 8 8 = t4 := by rw [hG, ← ht4]; unfold rawE; rw [List.drop_drop, List.drop_drop]
  rw [← e1] at w1; rw [← e2] at w2; rw [← e3] at w3; rw [← e4] at hN
  rw [e1] at w1
  replace w1 : IntKind.u32.wrap ((G 0 4 : Nat) : Int) = (t1 : Int) := by rw [e1]; exact w1
  replace w2 : IntKind.u16.wrap ((G 4 2 : Nat) : Int) = (t2 : Int) := by rw [w2, e2]
  replace w3 : IntKind.u16.wrap ((G 6 2 : Nat) : Int) = (t3 : Int) := by rw [w3, e3]
  have HKEEP : Hid (∀ W, Spares nowhere v2 W → W.heap[w.heap.size]? = some (.cells (bytesV X) 82 (0, 0))) := Lib.hid (fun W hW => hW.heap hq0 (fun h => h))
  have HR0 := Lib.hid hr0
  have HZ := Lib.hid hsz
  obtain ⟨g, hg⟩ : ∃ g, v2.heap.size = g := ⟨_, rfl⟩
  obtain ⟨v9, hv9⟩ : ∃ v9, (v2.alloc (.cells #[.int .u16 t3, .int .u32 t1, .int .u16 t2, .int .u64 t5] 41)).drew = v9 := ⟨_, rfl⟩
  have hs9 : Spares nowhere v2 v9 := by rw [← hv9]; exact ((Spares.refl _ v2).alloc _).drew
  have HG9 : Hid (v9.heap[g]? = some (.cells #[.int .u16 t3, .int .u32 t1, .int .u16 t2, .int .u64 t5] 41 (0, 0))) := Lib.hid (by rw [← hv9, ← hg]; exact heap_alloc_new v2 _)
  have HR9 := Lib.hid (hs9.heap hr0 (fun h => h))
  have HC9 : Hid (v9.cell? ⟨w.heap.size, 8, none⟩ = some (.int .u8 x8.toNat)) := Lib.hid (by
    rw [Lib.cell_of_heap (hs9.heap hq0 (fun h => h)), bytesV_get X 8 (by omega), List.getD_eq_getElem?_getD, hx8]; rfl)
  have HS9 := Lib.hid (HS0.out.trans hs9)
  have HV9 := Lib.hid hv9
  have HGG := Lib.hid hg
  clear hv9 hs9 hg
  clear hv2 hq0 hr0 hsz ht1 ht2 ht3 ht4 ht5 hx8 HB hG e1 e2 e3 e4
  have k1 := fun W => (slice16 w.heap.size W).1
  have k2 := fun W => (slice16 w.heap.size W).2.1
  have k3 := fun W => (slice16 w.heap.size W).2.2.1
  have k4 := fun W => (slice16 w.heap.size W).2.2.2
  go_enter Try.func47, Try.ntmps47
  go_upto_region 1 with (fail)
  change Code.wp _ _ _ _ ((w.alloc (.cells (bytesV X) 82)).alloc (.cells #[.int .u16 ((0 : Nat) : Int), .int .u32 ((0 : Nat) : Int), .int .u16 ((0 : Nat) : Int), .int .u64 ((0 : Nat) : Int)] 41))
  rw [HV2.out]
  go_region_held3 (fun w' => w'.heap[w.heap.size]? = some (.cells (bytesV X) 82 (0, 0)))
    (first
      | exact HKEEP.out _ (Spares.refl _ _).drew
      | exact HKEEP.out _ ((Spares.refl _ _).drew.alloc _)
      | fail)
    (first
      | (go_at_call 46; refine Calls.mono (HG.out _ _ _ _ ⟨(Spares.refl _ _).drew, by decide, by decide⟩) ?_; rintro e w4 ⟨rfl, rfl⟩)
      | (go_at_call 46; refine Calls.mono (HG.out _ _ _ _ ⟨(Spares.refl _ _).drew.alloc _, by decide, by decide⟩) ?_; rintro e w4 ⟨rfl, rfl⟩)
      | fail)
  all_goals
    change Exit.then _ _ Exit.normal _ ((v2.alloc (.cells #[.int .u16 t3, .int .u32 t1, .int .u16 t2, .int .u64 t5] 41)).drew)
    rw [HV9.out, HGG.out]
    have hc8 := HC9.out
    have c0 : v9.cell? ⟨g, 0, none⟩ = some (.int .u16 t3) := by rw [Lib.cell_of_heap HG9.out]; rfl
    have c2 : v9.cell? ⟨g, 2, none⟩ = some (.int .u16 t2) := by rw [Lib.cell_of_heap HG9.out]; rfl
    have HI := Lib.hid infoEntry
    clear HG HKEEP HV2 HV9 HGG w1 w2 w3 hN
    by_cases p1 : 9223372036854775808 ≤ t4 ∧ t3 ≤ 4095 ∧ 0 < t2
    · have HV := Lib.hid (HGD.out p1.1 p1.2.1 p1.2.2)
      have i8 : ¬ (x8.toNat : Int) < 128 := by have := htop; omega
      have i8b : decide ((x8.toNat : Int) < 128) = false := decide_eq_false i8
      have i3 : ¬ (4095 : Int) < (t3 : Int) := by omega
      have i3b : decide ((4095 : Int) < (t3 : Int)) = false := decide_eq_false i3
      have i2b : ((t2 : Int) == 0) = false := by simp; omega
      have hst := entry_stored (a' := .int .u16 t3) (b' := .int .u32 t1) (c' := .int .u16 t2) (d' := .int .u64 t5) HR9.out
      have HT := Lib.hid hst.1
      have HQ := Lib.hid hst.2
      clear hst p1 htop
      go_wp2_with (first
        | ((with_reducible show wpList _ _ _ (⟨some 32, .load 41 _, _, _, _, _⟩ :: _) _ _); refine wpList_load_row rfl 41 (.tmp 4) rfl g rfl 41 _ (0, 0) _ HG9.out Try.underlying41 rfl HI.out ?_)
        | ((with_reducible show wpList _ _ _ (⟨none, .store 41 _ _, _, _, _, _⟩ :: _) _ _); refine wpList_store_mid rfl 41 (.tmp 2) (.tmp 32) rfl (w.heap.size + 1) 0 #[.int .u16 t3, .int .u32 t1, .int .u16 t2, .int .u64 t5] rfl rfl HT.out HI.out (ones4 _ _ _ _) ?_))
      exact bodyPost_ret (v := .tuple #[.agg #[.int .u16 t3, .int .u32 t1, .int .u16 t2, .int .u64 t5], .int .i64 0]) (results_cell_two rfl _ _ (w.heap.size + 1) 41 #[.int .u16 t3, .int .u32 t1, .int .u16 t2, .int .u64 t5] (0, 0) _ (.int .i64 0) rfl rfl HQ.out Try.underlying41 (by rfl) HI.out) rfl ⟨by rw [HV.out]; rfl, HS9.out.trans' (F' := fun b => b = w.heap.size + 1) (spares_setCells _ _ _ (Spares.refl _ _)) (fun b hb => .inr (by omega))⟩
    · have HV := Lib.hid (HBD.out p1)
      have hst := entry_stored (a' := .int .u16 (0 : Nat)) (b' := .int .u32 (0 : Nat)) (c' := .int .u16 (0 : Nat)) (d' := .int .u64 (0 : Nat)) HR9.out
      have HT := Lib.hid hst.1
      have HQ := Lib.hid hst.2
      clear hst
      by_cases q4 : 9223372036854775808 ≤ t4
      · have i8 : ¬ (x8.toNat : Int) < 128 := by have := htop; omega
        have i8b : decide ((x8.toNat : Int) < 128) = false := decide_eq_false i8
        by_cases q3 : t3 ≤ 4095
        · have i2 : (t2 : Int) = 0 := by omega
          have i2b : ((t2 : Int) == 0) = true := by simpa using i2
          have i3 : ¬ (4095 : Int) < (t3 : Int) := by omega
          have i3b : decide ((4095 : Int) < (t3 : Int)) = false := decide_eq_false i3
          clear p1 q4 q3 htop
          go_wp2_with ((with_reducible show wpList _ _ _ (⟨none, .store 41 _ _, _, _, _, _⟩ :: _) _ _); refine wpList_store_mid rfl 41 (.tmp 2) (.tmp 31) rfl (w.heap.size + 1) 0 #[.int .u16 (0 : Nat), .int .u32 (0 : Nat), .int .u16 (0 : Nat), .int .u64 (0 : Nat)] rfl rfl HT.out HI.out (ones4 _ _ _ _) ?_)
          exact bodyPost_ret (v := .tuple #[.agg #[.int .u16 (0 : Nat), .int .u32 (0 : Nat), .int .u16 (0 : Nat), .int .u64 (0 : Nat)], .int .i64 40]) (results_cell_two rfl _ _ (w.heap.size + 1) 41 #[.int .u16 (0 : Nat), .int .u32 (0 : Nat), .int .u16 (0 : Nat), .int .u64 (0 : Nat)] (0, 0) _ (.int .i64 40) rfl rfl HQ.out Try.underlying41 (by rfl) HI.out) rfl ⟨by rw [HV.out]; rfl, HS9.out.trans' (F' := fun b => b = w.heap.size + 1) (spares_setCells _ _ _ (Spares.refl _ _)) (fun b hb => .inr (by omega))⟩
        · have i3 : (4095 : Int) < (t3 : Int) := by omega
          have i3b : decide ((4095 : Int) < (t3 : Int)) = true := decide_eq_true i3
          clear p1 q4 q3 htop
          go_wp2_with ((with_reducible show wpList _ _ _ (⟨none, .store 41 _ _, _, _, _, _⟩ :: _) _ _); refine wpList_store_mid rfl 41 (.tmp 2) (.tmp 31) rfl (w.heap.size + 1) 0 #[.int .u16 (0 : Nat), .int .u32 (0 : Nat), .int .u16 (0 : Nat), .int .u64 (0 : Nat)] rfl rfl HT.out HI.out (ones4 _ _ _ _) ?_)
          exact bodyPost_ret (v := .tuple #[.agg #[.int .u16 (0 : Nat), .int .u32 (0 : Nat), .int .u16 (0 : Nat), .int .u64 (0 : Nat)], .int .i64 40]) (results_cell_two rfl _ _ (w.heap.size + 1) 41 #[.int .u16 (0 : Nat), .int .u32 (0 : Nat), .int .u16 (0 : Nat), .int .u64 (0 : Nat)] (0, 0) _ (.int .i64 40) rfl rfl HQ.out Try.underlying41 (by rfl) HI.out) rfl ⟨by rw [HV.out]; rfl, HS9.out.trans' (F' := fun b => b = w.heap.size + 1) (spares_setCells _ _ _ (Spares.refl _ _)) (fun b hb => .inr (by omega))⟩
      · have i8 : (x8.toNat : Int) < 128 := by have := htop; omega
        have i8b : decide ((x8.toNat : Int) < 128) = true := decide_eq_true i8
        clear p1 q4 htop
        go_wp2_with ((with_reducible show wpList _ _ _ (⟨none, .store 41 _ _, _, _, _, _⟩ :: _) _ _); refine wpList_store_mid rfl 41 (.tmp 2) (.tmp 31) rfl (w.heap.size + 1) 0 #[.int .u16 (0 : Nat), .int .u32 (0 : Nat), .int .u16 (0 : Nat), .int .u64 (0 : Nat)] rfl rfl HT.out HI.out (ones4 _ _ _ _) ?_)
        exact bodyPost_ret (v := .tuple #[.agg #[.int .u16 (0 : Nat), .int .u32 (0 : Nat), .int .u16 (0 : Nat), .int .u64 (0 : Nat)], .int .i64 40]) (results_cell_two rfl _ _ (w.heap.size + 1) 41 #[.int .u16 (0 : Nat), .int .u32 (0 : Nat), .int .u16 (0 : Nat), .int .u64 (0 : Nat)] (0, 0) _ (.int .i64 40) rfl rfl HQ.out Try.underlying41 (by rfl) HI.out) rfl ⟨by rw [HV.out]; rfl, HS9.out.trans' (F' := fun b => b = w.heap.size + 1) (spares_setCells _ _ _ (Spares.refl _ _)) (fun b hb => .inr (by omega))⟩
end Go.Proofs.Ytihbjkdgfflnfaa
namespace Go.Proofs.Ytihbjkdgfflnfaa
open Go.RowKit

theorem and4095 (u : Nat) (h : u < 4294967296) : Go.bits .and .u64 (u : Int) 4095 = ((u % 4096 : Nat) : Int) := by
  rw [show (4095 : Int) = ((4095 : Nat) : Int) from rfl, u64_and_nat _ _ (by omega) (by omega)]
  congr 1
  exact Nat.and_two_pow_sub_one_eq_mod u 12
theorem key_new (w : World) (K : List UInt8) (t : TypeId) : BytesAt (w.alloc (.cells (bytesV K) t)) (some ⟨w.heap.size, 0, none⟩) K := by
  intro k hk
  refine ⟨_, _, rfl, ?_⟩
  rw [Lib.cell_of_heap (heap_alloc_new w _), Nat.zero_add]
  simp [bytesV, Lib.byteCells, hk]
theorem cellB_lt {w : World} {b o : Nat} {v : Value} (h : w.cell? ⟨b, o, none⟩ = some v) : b < w.heap.size := by
  rcases Nat.lt_or_ge b w.heap.size with h' | h'
  · exact h'
  · simp [World.cell?, Array.getElem?_eq_none h'] at h
theorem tag_any (K : List UInt8) (w : World) (hK : K.length = 32) :
    Calls Try.prog 34 #[.agg (bytesV K)] w fun e w' => e = .returned (.int .u16 (tagF K : Nat)) ∧ Spares nowhere w w' := by
  obtain ⟨X, hX⟩ : ∃ X, (K.drop 4).take 2 = X := ⟨_, rfl⟩
  have hl : X.length = 2 := by rw [← hX, List.length_take, List.length_drop]; omega
  have hlt : ofBE X < 65536 := by have := ofBE_lt X; rw [hl] at this; simpa using this
  have hat : BytesAt (w.alloc (.cells (bytesV K) 36)) (some ⟨w.heap.size, 0 + 4, none⟩) X := by rw [← hX]; exact bytesAt_cut (key_new w K _) 4 2
  have HT : tagF K = ofBE X % 4096 := by unfold tagF; rw [hX]
  have hm : ofBE X % 4096 < 4096 := Nat.mod_lt _ (by omega)
  rw [HT]
  have h1 := and4095 (ofBE X) (by omega)
  have h2 : IntKind.u16.wrap ((ofBE X % 4096 : Nat) : Int) = ((ofBE X % 4096 : Nat) : Int) := by rw [IntKind.wrap_u16]; omega
  have HS : Hid (Spares nowhere w (w.alloc (.cells (bytesV K) 36))) := Lib.hid ((Spares.refl _ w).alloc _)
  have HA := Lib.hid hat
  clear hat HT hX
  go_enter Try.func34, Try.ntmps34
  go_wp2_with fail
  refine (bigOf_any _ 2 28 X _ HA.out hl.symm (by omega)).mono ?_
  rintro e w' ⟨rfl, rfl⟩
  go_wp2
  go_ret
  exact ⟨rfl, HS.out⟩
theorem refTag_any (K : List UInt8) (w : World) (hK : K.length = 32) :
    Calls Try.prog 35 #[.agg (bytesV K)] w fun e w' => e = .returned (.int .u16 (tagF K : Nat)) ∧ Spares nowhere w w' := by
  obtain ⟨X, hX⟩ : ∃ X, (K.drop 4).take 2 = X := ⟨_, rfl⟩
  have hl : X.length = 2 := by rw [← hX, List.length_take, List.length_drop]; omega
  have hlt : ofBE X < 65536 := by have := ofBE_lt X; rw [hl] at this; simpa using this
  have hat : BytesAt (w.alloc (.cells (bytesV K) 36)) (some ⟨w.heap.size, 0 + 4, none⟩) X := by rw [← hX]; exact bytesAt_cut (key_new w K _) 4 2
  have HT : tagF K = ofBE X % 4096 := by unfold tagF; rw [hX]
  rw [HT]
  have h1 := tag_and hlt
  have h2 : IntKind.u16.wrap ((ofBE X : Nat) : Int) = ((ofBE X : Nat) : Int) := by rw [IntKind.wrap_u16]; omega
  have HS : Hid (Spares nowhere w (w.alloc (.cells (bytesV K) 36))) := Lib.hid ((Spares.refl _ w).alloc _)
  have HA := Lib.hid hat
  clear hat HT hX
  go_enter Try.func35, Try.ntmps35
  go_wp2_with fail
  refine (refGet_any _ 2 28 X _ HA.out hl.symm (by omega)).mono ?_
  rintro e w' ⟨rfl, rfl⟩
  go_wp2
  go_ret
  exact ⟨rfl, HS.out⟩
/-- The bucket's number: over any header whose cell of slices holds n of them. -/
theorem bucket_any (K : List UInt8) (p n c : Nat) (a : Option Addr) (w : World) (hK : K.length = 32) (hn : 0 < n) (hn2 : n ≤ 4096) (hp : w.cell? ⟨p, 1, none⟩ = some (.slice a n c)) :
    Calls Try.prog 30 #[.pointer (some ⟨p, 0, none⟩), .agg (bytesV K)] w fun e w' => e = .returned (.int .i64 (bktF K n : Nat)) ∧ Spares nowhere w w' := by
  obtain ⟨X, hX⟩ : ∃ X, K.take 4 = X := ⟨_, rfl⟩
  have hl : X.length = 4 := by rw [← hX, List.length_take]; omega
  have hlt : ofBE X < 4294967296 := by have := ofBE_lt X; rw [hl] at this; simpa using this
  obtain ⟨v, hv⟩ : ∃ v, w.alloc (.cells (bytesV K) 36) = v := ⟨_, rfl⟩
  have hat : BytesAt v (some ⟨w.heap.size, 0, none⟩) X := by rw [← hX, ← hv]; exact bytesAt_takeF 4 (key_new w K _)
  have hs : Spares nowhere w v := by rw [← hv]; exact (Spares.refl _ w).alloc _
  have hp' : v.cell? ⟨p, 1, none⟩ = some (.slice a n c) := (hs.cell (p := ⟨p, 1, none⟩) (cellB_lt hp) (fun h => h)).trans hp
  have HT : bktF K n = ofBE X % n := by unfold bktF; rw [hX]
  rw [HT]
  obtain ⟨q, hq⟩ : ∃ q, ofBE X % n = q := ⟨_, rfl⟩
  have hqn : q < n := by rw [← hq]; exact Nat.mod_lt _ hn
  rw [hq]
  have h1 : IntKind.u64.wrap (n : Int) = (n : Int) := by rw [IntKind.wrap_u64]; omega
  have h2 : ((ofBE X : Nat) : Int).tmod (n : Int) = (q : Int) := by rw [← hq]; exact (Int.ofNat_tmod _ _).symm
  have h3 : IntKind.u64.wrap (q : Int) = (q : Int) := by rw [IntKind.wrap_u64]; omega
  have h4 : IntKind.i64.wrap (q : Int) = (q : Int) := by rw [IntKind.wrap_i64]; omega
  have h5 : ¬ ((n : Int) = 0) := by omega
  have h6 : ((n : Int) == 0) = false := by simp; omega
  have HS := Lib.hid hs
  have HV := Lib.hid hv
  have C : Hid (∀ q, Calls Try.prog 40 #[.slice (some ⟨w.heap.size, 0, none⟩) 4 32] (v.drewN q) (fun e w' => e = .returned (.int .u64 (ofBE X : Nat)) ∧ w' = v.drewN q)) := Lib.hid (fun q => (bigOf_any _ 4 32 X (v.drewN q) (hat.spares ((Spares.refl nowhere v).drewN q) (fun _ _ _ h => h)) hl.symm (by omega)).mono (by rintro e w' ⟨rfl, rfl⟩; exact ⟨rfl, rfl⟩))
  clear hat HT hX hs hv hq
  go_enter Try.func30, Try.ntmps30
  go_wp2_with fail
  rw [HV.out]
  go_quiet ((go_at_call 40; exact Calls.quiet_of_same (C.out _)))
  go_wp2
  go_ret
  exact ⟨rfl, HS.out.drewN _⟩
theorem refBucket_any (K : List UInt8) (p n c : Nat) (a : Option Addr) (w : World) (hK : K.length = 32) (hn : 0 < n) (hn2 : n ≤ 4096) (hp : w.cell? ⟨p, 0, none⟩ = some (.slice a n c)) :
    Calls Try.prog 31 #[.pointer (some ⟨p, 0, none⟩), .agg (bytesV K)] w fun e w' => e = .returned (.int .i64 (bktF K n : Nat)) ∧ Spares nowhere w w' := by
  obtain ⟨X, hX⟩ : ∃ X, K.take 4 = X := ⟨_, rfl⟩
  have hl : X.length = 4 := by rw [← hX, List.length_take]; omega
  have hlt : ofBE X < 4294967296 := by have := ofBE_lt X; rw [hl] at this; simpa using this
  obtain ⟨v, hv⟩ : ∃ v, w.alloc (.cells (bytesV K) 36) = v := ⟨_, rfl⟩
  have hat : BytesAt v (some ⟨w.heap.size, 0, none⟩) X := by rw [← hX, ← hv]; exact bytesAt_takeF 4 (key_new w K _)
  have hs : Spares nowhere w v := by rw [← hv]; exact (Spares.refl _ w).alloc _
  have hp' : v.cell? ⟨p, 0, none⟩ = some (.slice a n c) := (hs.cell (p := ⟨p, 0, none⟩) (cellB_lt hp) (fun h => h)).trans hp
  have HT : bktF K n = ofBE X % n := by unfold bktF; rw [hX]
  rw [HT]
  obtain ⟨q, hq⟩ : ∃ q, ofBE X % n = q := ⟨_, rfl⟩
  have hqn : q < n := by rw [← hq]; exact Nat.mod_lt _ hn
  rw [hq]
  have h1 : IntKind.u64.wrap (n : Int) = (n : Int) := by rw [IntKind.wrap_u64]; omega
  have h2 : ((ofBE X : Nat) : Int).tmod (n : Int) = (q : Int) := by rw [← hq]; exact (Int.ofNat_tmod _ _).symm
  have h3 : IntKind.u64.wrap (q : Int) = (q : Int) := by rw [IntKind.wrap_u64]; omega
  have h4 : IntKind.i64.wrap (q : Int) = (q : Int) := by rw [IntKind.wrap_i64]; omega
  have h5 : ¬ ((n : Int) = 0) := by omega
  have h6 : ((n : Int) == 0) = false := by simp; omega
  have HS := Lib.hid hs
  have HV := Lib.hid hv
  have C : Hid (∀ q, Calls Try.prog 46 #[.slice (some ⟨w.heap.size, 0, none⟩) 4 32] (v.drewN q) (fun e w' => e = .returned (.int .u64 (ofBE X : Nat)) ∧ w' = v.drewN q)) := Lib.hid (fun q => (refGet_any _ 4 32 X (v.drewN q) (hat.spares ((Spares.refl nowhere v).drewN q) (fun _ _ _ h => h)) hl.symm (by omega)).mono (by rintro e w' ⟨rfl, rfl⟩; exact ⟨rfl, rfl⟩))
  clear hat HT hX hs hv hq
  go_enter Try.func31, Try.ntmps31
  go_wp2_with fail
  rw [HV.out]
  go_quiet ((go_at_call 46; exact Calls.quiet_of_same (C.out _)))
  go_wp2
  go_ret
  exact ⟨rfl, HS.out.drewN _⟩
end Go.Proofs.Ytihbjkdgfflnfaa
namespace Go.Proofs.Ytihbjkdgfflnfaa
open Go.RowKit

structure IsDir (F : Nat → Prop) (p bk n s : Nat) (R : Nat → Row) (E : List (List Ent)) (w : World) : Prop where
  hd : w.heap[p]? = some (.cells #[.int .i64 s, .slice (some ⟨bk, 0, none⟩) n n] 67 (0, 0))
  rows : IsRows F bk n R E w
  inF : F p
  ne : p ≠ bk
  offp : ∀ i, i < n → ∀ b o, (R i).a = some (b, o) → b ≠ p
  n0 : 0 < n
  n1 : n ≤ 4096
  s0 : 0 < s
  s1 : s ≤ 16
  cap : ∀ i, i < n → (R i).cap = s ∧ ∃ x, (R i).a = some x
def NewPost (n s : Nat) (w : World) (e : Ending) (w' : World) : Prop :=
  ∃ F p bk R, e = .returned (.pointer (some ⟨p, 0, none⟩)) ∧ IsDir F p bk n s R (List.replicate n []) w' ∧ Spares nowhere w w' ∧ (∀ b, F b → w.heap.size ≤ b) ∧ ∀ b, F b → b < w'.heap.size
theorem sliceInfo : (Try.prog.info? 38).map (fun i => (i.zero, i.size, i.bytes)) = some (some (.slice none 0 0), 1, 24) := by kernel_rfl
theorem entInfo : (Try.prog.info? 41).map (fun i => (i.zero, i.size, i.bytes)) = some (some (entV Ent.zero), 4, 24) := by kernel_rfl
set_option maxRecDepth 100000 in
theorem make_rows (n : Nat) (hn : n ≤ 1000000) (w : World) : (Instr.makeSlice 65 (.int .i64 (n : Int)) (.int .i64 (n : Int))).run Try.prog w = .ok (.slice (some ⟨w.heap.size, 0, none⟩) n n) (w.alloc (.cells (Array.replicate n (.slice none 0 0)) 38)) := by
  obtain ⟨i0, hi, hz0, hz1, hz2⟩ := info_parts sliceInfo
  have h := run_make (P := Try.prog) w 65 38 i0 (.slice none 0 0) Try.underlying65 hi hz0 .i64 .i64 (n : Int) (n : Int) (by omega) (by omega) (by rw [hz2]; omega) (by omega)
  have e : madeCells (Value.slice none 0 0).cells (Int.toNat (n : Int) * 1) = Array.replicate n (.slice none 0 0) := by
    apply Array.ext
    · simp [madeCells]
    · intro j h1 h2; simp [madeCells, Value.cells, Nat.mod_one]
  rw [h, hz1, e]
  rfl
theorem make_ents (n : Nat) (hn : n ≤ 1000000) : ∃ A : Array Value, A.size = n * 4 ∧ ∀ w : World, (Instr.makeSlice 38 (.int .i64 (n : Int)) (.int .i64 (n : Int))).run Try.prog w = .ok (.slice (some ⟨w.heap.size, 0, none⟩) n n) (w.alloc (.cells A 41)) := by
  obtain ⟨i0, hi, hz0, hz1, hz2⟩ := info_parts entInfo
  refine ⟨madeCells (entV Ent.zero).cells (n * 4), size_madeCells _ _, fun w => ?_⟩
  have h := run_make (P := Try.prog) w 38 41 i0 (entV Ent.zero) Try.underlying38 hi hz0 .i64 .i64 (n : Int) (n : Int) (by omega) (by omega) (by rw [hz2]; omega) (by omega)
  rw [h, hz1]
  rfl
/-- The slices of the first i buckets, and what the others hold as made. -/
def newV (al s n i : Nat) : Array Value := (Array.range n).map fun j => if j < i then .slice (some ⟨al, j * s * 4, none⟩) 0 s else .slice none 0 0
theorem newV_size (al s n i : Nat) : (newV al s n i).size = n := by simp [newV]
theorem newV_zero (al s n : Nat) : newV al s n 0 = Array.replicate n (.slice none 0 0) := by
  apply Array.ext
  · simp [newV]
  · intro j h1 h2; simp [newV]
theorem newV_step (al s n i : Nat) (_h : i < n) : (newV al s n i).setIfInBounds i (.slice (some ⟨al, i * s * 4, none⟩) 0 s) = newV al s n (i + 1) := by
  apply Array.ext
  · simp [newV]
  · intro j h1 h2
    rw [Array.getElem_setIfInBounds (by simpa using h1)]
    by_cases e : i = j
    · subst e; simp [newV]
    · rw [if_neg e]
      simp only [newV, Array.getElem_map, Array.getElem_range]
      by_cases h3 : j < i
      · rw [if_pos h3, if_pos (by omega)]
      · rw [if_neg h3, if_neg (by omega)]
def newR (al s : Nat) (i : Nat) : Row := ⟨some (al, i * s * 4), s⟩
theorem made_dir {w : World} {p bk al n s : Nat} {A : Array Value} (hp : w.heap[p]? = some (.cells #[.int .i64 s, .slice (some ⟨bk, 0, none⟩) n n] 67 (0, 0)))
    (hb : w.heap[bk]? = some (.cells (newV al s n n) 38 (0, 0))) (ha : w.heap[al]? = some (.cells A 41 (0, 0))) (hA : A.size = n * s * 4) (h1 : p ≠ bk) (h2 : al ≠ bk) (h3 : al ≠ p)
    (n0 : 0 < n) (n1 : n ≤ 4096) (s0 : 0 < s) (s1 : s ≤ 16) : IsDir (fun b => b = p ∨ b = bk ∨ b = al) p bk n s (newR al s) (List.replicate n []) w := by
  refine ⟨hp, ⟨by simp, ⟨_, hb, newV_size .., fun i hi => ?_⟩, .inr (.inl rfl), fun i hi => ?_, fun i hi b o e => ?_, fun i j hi hj hne => ?_, fun r hr e he => ?_⟩, .inl rfl, h1, fun i hi b o e => ?_, n0, n1, s0, s1, fun i hi => ⟨rfl, _, rfl⟩⟩
  · rw [List.length_replicate] at hi
    simp [newV, hi, newR, Row.ad]
  · rw [List.length_replicate] at hi
    refine ⟨by simp, fun e => by simp [newR] at e, fun b o e => ?_, fun b o e k hk => by simp at hk⟩
    simp only [newR, Option.some.injEq, Prod.mk.injEq] at e
    obtain ⟨rfl, rfl⟩ := e
    refine ⟨.inr (.inr rfl), A, _, ha, ?_⟩
    have := Nat.mul_le_mul_right (s * 4) (show i + 1 ≤ n from hi)
    rw [Nat.add_mul] at this
    rw [hA]
    simp only [newR, Nat.mul_assoc] at this ⊢
    omega
  · simp only [newR, Option.some.injEq, Prod.mk.injEq] at e
    obtain ⟨rfl, rfl⟩ := e; exact h2
  · intro b o b' o' e e'
    simp only [newR, Option.some.injEq, Prod.mk.injEq] at e e'
    obtain ⟨rfl, rfl⟩ := e
    obtain ⟨rfl, rfl⟩ := e'
    right
    rcases Nat.lt_or_gt_of_ne hne with h | h
    · left
      have := Nat.mul_le_mul_right (s * 4) (show i + 1 ≤ j from h)
      rw [Nat.add_mul] at this
      simp only [newR, Nat.mul_assoc] at this ⊢; omega
    · right
      have := Nat.mul_le_mul_right (s * 4) (show j + 1 ≤ i from h)
      rw [Nat.add_mul] at this
      simp only [newR, Nat.mul_assoc] at this ⊢; omega
  · obtain rfl := (List.mem_replicate.1 hr).2
    simp at he
  · simp only [newR, Option.some.injEq, Prod.mk.injEq] at e
    obtain ⟨rfl, rfl⟩ := e; exact h3
set_option maxRecDepth 100000 in
set_option maxHeartbeats 4000000 in
theorem new_any (nb ns : Int) (n s : Nat) (w : World) (hn : min (max nb 1) 4096 = (n : Int)) (hs : min (max ns 1) 16 = (s : Int)) : Calls Try.prog 12 #[.int .i64 nb, .int .i64 ns] w (NewPost n s w) := by
  have n0 : 0 < n := by omega
  have n1 : n ≤ 4096 := by omega
  have s0 : 0 < s := by omega
  have s1 : s ≤ 16 := by omega
  have hns : n * s ≤ 65536 := Nat.le_trans (Nat.mul_le_mul n1 s1) (by omega)
  obtain ⟨N, hN⟩ : ∃ N, n * s = N := ⟨_, rfl⟩
  have hmul : (n : Int) * (s : Int) = (N : Int) := by rw [← hN]; simp
  have hw : IntKind.i64.wrap (N : Int) = (N : Int) := by rw [IntKind.wrap_i64]; omega
  obtain ⟨A, hA, hma⟩ := make_ents N (by omega)
  have hmk := make_rows n (by omega)
  have HN := Lib.hid hN
  have HA := Lib.hid hA
  clear hN hA
  unfold NewPost
  go_enter Try.func12, Try.ntmps12
  go_wp2_with (first | rw [hn] | rw [hs])
  go_loopw [32] (fun i wr => ∃ k : Nat, k ≤ n ∧ i = .int .i64 k ∧ Hid (wr.heap[w.heap.size + 1]? = some (.cells #[.int .i64 s, .slice (some ⟨w.heap.size, 0, none⟩) n n] 67 (0, 0))) ∧
    Hid (wr.heap[w.heap.size]? = some (.cells (newV (w.heap.size + 1 + 1) s n k) 38 (0, 0))) ∧ Hid (wr.heap[w.heap.size + 1 + 1]? = some (.cells A 41 (0, 0))) ∧ Hid (Spares nowhere w wr)) (fun i _ => n - (intOf i).toNat)
  case atStart =>
    refine ⟨0, by omega, rfl, Lib.hid ?_, Lib.hid ?_, Lib.hid ?_, Lib.hid ((((Spares.refl _ w).alloc _).alloc _).alloc _)⟩
    · rw [Below.heap_alloc _ _ _ (by simp)]
      have h := heap_alloc_new (w.alloc (.cells (Array.replicate n (.slice none 0 0)) 38)) (.cells #[.int .i64 s, .slice (some ⟨w.heap.size, 0, none⟩) n n] 67)
      rwa [show (w.alloc (.cells (Array.replicate n (.slice none 0 0)) 38)).heap.size = w.heap.size + 1 by simp] at h
    · rw [Below.heap_alloc _ _ _ (by simp; omega), Below.heap_alloc _ _ _ (by simp), newV_zero]; exact heap_alloc_new w _
    · have h := heap_alloc_new ((w.alloc (.cells (Array.replicate n (.slice none 0 0)) 38)).alloc (.cells #[.int .i64 s, .slice (some ⟨w.heap.size, 0, none⟩) n n] 67)) (.cells A 41)
      simpa using h
  case round =>
    obtain ⟨k, hk, rfl, HP, HB, HC, HS⟩ := hrel
    by_cases hlt : k < n
    · have c1 : wr.cell? ⟨w.heap.size + 1, 0, none⟩ = some (.int .i64 s) := by rw [Lib.cell_of_heap HP.out]; rfl
      have c2 : wr.cell? ⟨w.heap.size + 1, 1, none⟩ = some (.slice (some ⟨w.heap.size, 0, none⟩) n n) := by rw [Lib.cell_of_heap HP.out]; rfl
      have c3 : wr.cell? ⟨w.heap.size, k, none⟩ = some ((newV (w.heap.size + 1 + 1) s n k)[k]'(by rw [newV_size]; exact hlt)) := by rw [Lib.cell_of_heap HB.out]; exact Array.getElem?_eq_getElem _
      obtain ⟨u3, hu3⟩ : ∃ u3, (newV (w.heap.size + 1 + 1) s n k)[k]'(by rw [newV_size]; exact hlt) = u3 := ⟨_, rfl⟩
      rw [hu3] at c3
      clear hu3
      have f3 := Lib.frozen_of_heap HB.out k
      obtain ⟨K, hK⟩ : ∃ K, k * s = K := ⟨_, rfl⟩
      have hKs : K + s ≤ N := by
        rw [← hK, ← HN.out]
        have := Nat.mul_le_mul_right s (show k + 1 ≤ n from hlt)
        rw [Nat.add_mul] at this; omega
      have hKm : (k : Int) * (s : Int) = (K : Int) := by rw [← hK]; simp
      have hKw : IntKind.i64.wrap (K : Int) = (K : Int) := by rw [IntKind.wrap_i64]; omega
      have hKsw : IntKind.i64.wrap ((K : Int) + (s : Int)) = (K : Int) + (s : Int) := by rw [IntKind.wrap_i64]; omega
      have hKt : ((K : Int) + (s : Int)).toNat = K + s := by omega
      have HK := Lib.hid hK
      clear hK
      go_wp2
      go_region
      go_wp2
      go_roundw
      case rel =>
        have hp := (Below.heap_setCell wr ⟨w.heap.size, k, none⟩ (.slice (some ⟨w.heap.size + 1 + 1, K * 4, none⟩) 0 s) (w.heap.size + 1) (by simp)).trans HP.out
        have hc := (Below.heap_setCell wr ⟨w.heap.size, k, none⟩ (.slice (some ⟨w.heap.size + 1 + 1, K * 4, none⟩) 0 s) (w.heap.size + 1 + 1) (by simp; omega)).trans HC.out
        have hb : (wr.setCell ⟨w.heap.size, k, none⟩ (.slice (some ⟨w.heap.size + 1 + 1, K * 4, none⟩) 0 s)).heap[w.heap.size]? = some (.cells (newV (w.heap.size + 1 + 1) s n (k + 1)) 38 (0, 0)) := by
          rw [← newV_step _ s n k hlt, HK.out]
          have h := HB.out
          simp [World.setCell, Array.getElem?_modify, h]
        exact ⟨k + 1, by omega, by go_num, Lib.hid hp, Lib.hid hb, Lib.hid hc, Lib.hid ((HS.out.setCell (p := ⟨w.heap.size, k, none⟩) (.inr (Nat.le_refl _)) _).drew)⟩
      case measure => simp [intOf]; omega
    · obtain rfl : k = n := by omega
      clear hma hmk
      go_wp2
      go_ret
      refine ⟨_, _, _, _, rfl, made_dir HP.out HB.out HC.out (by rw [HA.out, ← HN.out]) (by omega) (by omega) (by omega) n0 n1 s0 s1, HS.out, fun b hb => by omega, fun b hb => ?_⟩
      have h1 := (Array.getElem?_eq_some_iff.1 HP.out).1
      have h2 := (Array.getElem?_eq_some_iff.1 HB.out).1
      have h3 := (Array.getElem?_eq_some_iff.1 HC.out).1
      rcases hb with rfl | rfl | rfl <;> assumption
end Go.Proofs.Ytihbjkdgfflnfaa
