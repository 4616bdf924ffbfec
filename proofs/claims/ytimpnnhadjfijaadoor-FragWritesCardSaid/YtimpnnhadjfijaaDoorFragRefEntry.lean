/-
  The reference's Entry and OpenEntry.
-/
import Derived.Test.YtimpnnhadjfijaaDoorFragCuts
import Derived.Deep.RegionHeld3
namespace Go.Proofs.YtimpnnhadjfijaaDoor
open Go.RowKit CrcMath

def PutPost (B : Nat) (d : List UInt8) (w : World) (e : Ending) (w' : World) : Prop := ∃ v', e = .returned v' ∧ Row8 B w' v' d ∧ Spares (atLeast B) w w' ∧ B ≤ w'.heap.size
theorem put_post (B : Nat) (v : Value) (d : List UInt8) (M k : Nat) (K : Int) (w : World) (hK : K = (k : Int)) (hr : Row8 B w v d) (hB : B ≤ w.heap.size) (hk : k ≤ 8) (hd : d.length + k ≤ 140737488355328) :
    Calls Tryd.prog 27 #[v, .int .u64 M, .int .i64 K] w (PutPost B (d ++ beN k M) w) := by
  subst hK
  refine (put_any B v d M k w hr hB hk hd).mono ?_
  rintro e w' ⟨v', rfl, h1, h2⟩
  exact ⟨v', rfl, h1, h2, Nat.le_trans hB h2.size⟩
set_option maxRecDepth 100000 in
set_option maxHeartbeats 2000000 in
theorem refEntry_any (tag at_ sec turn T U : Nat) (w : World) (hT : Go.bits .and .u16 (tag : Int) 4095 = (T : Int)) (hU : Go.bits .or .u64 (turn : Int) 9223372036854775808 = (U : Int)) (_h1 : tag < 65536) (h2 : at_ < 4294967296) (h3 : sec < 65536) (hT2 : T < 65536) :
    Calls Tryd.prog 20 #[.agg #[.int .u16 tag, .int .u32 at_, .int .u16 sec, .int .u64 turn]] w fun e w' => e = .returned (.agg (bytesV (entryF T at_ sec U))) ∧ Spares nowhere w w' := by
  have w1 : IntKind.u64.wrap (at_ : Int) = (at_ : Int) := by rw [IntKind.wrap_u64]; omega
  have w2 : IntKind.u64.wrap (sec : Int) = (sec : Int) := by rw [IntKind.wrap_u64]; omega
  have w3 : IntKind.u64.wrap (T : Int) = (T : Int) := by rw [IntKind.wrap_u64]; omega
  obtain ⟨D, hD⟩ : ∃ D, entryF T at_ sec U = D := ⟨_, rfl⟩
  have hDl : D.length = 16 := by rw [← hD]; exact entryF_len ..
  rw [hD]
  have HD := Lib.hid hD
  obtain ⟨v2, hv2⟩ : ∃ v2, (w.alloc (.cells #[.int .u16 tag, .int .u32 at_, .int .u16 sec, .int .u64 turn] 44)).alloc (.cells (bytesV (List.replicate 16 0)) 45) = v2 := ⟨_, rfl⟩
  have HV2 := Lib.hid hv2
  have hsz : v2.heap.size = w.heap.size + 2 := by rw [← hv2]; simp
  have hq0 : v2.heap[w.heap.size]? = some (.cells #[.int .u16 tag, .int .u32 at_, .int .u16 sec, .int .u64 turn] 44 (0, 0)) := by
    rw [← hv2]
    exact (Below.heap_alloc _ _ _ (by simp)).trans (heap_alloc_new w _)
  have HR0 : Hid (v2.heap[w.heap.size + 1]? = some (.cells (bytesV (List.replicate 16 0)) 45 (0, 0))) := Lib.hid (by
    rw [← hv2]
    have := heap_alloc_new (w.alloc (.cells #[.int .u16 tag, .int .u32 at_, .int .u16 sec, .int .u64 turn] 44)) (.cells (bytesV (List.replicate 16 0)) 45)
    simpa using this)
  have HS0 : Hid (Spares nowhere w v2) := Lib.hid (by rw [← hv2]; exact ((Spares.refl _ w).alloc _).alloc _)
  obtain ⟨B, hB⟩ : ∃ B, v2.heap.size = B := ⟨_, rfl⟩
  have hqB : w.heap.size + 2 ≤ B := by omega
  have HQB := Lib.hid hqB
  have HKEEP : Hid (∀ W, Spares (atLeast B) v2.drew W → W.cell? ⟨w.heap.size, 1, none⟩ = some (.int .u32 at_) ∧ W.cell? ⟨w.heap.size, 2, none⟩ = some (.int .u16 sec) ∧ W.cell? ⟨w.heap.size, 0, none⟩ = some (.int .u16 tag) ∧ W.cell? ⟨w.heap.size, 3, none⟩ = some (.int .u64 turn)) := Lib.hid (fun W hW => by
    have hq : W.heap[w.heap.size]? = some (.cells #[.int .u16 tag, .int .u32 at_, .int .u16 sec, .int .u64 turn] 44 (0, 0)) := hW.heap (o := .cells #[.int .u16 tag, .int .u32 at_, .int .u16 sec, .int .u64 turn] 44 (0, 0)) hq0 (fun h => by unfold atLeast at h; omega)
    refine ⟨?_, ?_, ?_, ?_⟩ <;> (rw [Lib.cell_of_heap hq]; rfl))
  have hBd : B ≤ v2.drew.heap.size := by rw [← hB]; exact Nat.le_refl _
  have HP1 := Lib.hid (put_post B (.slice none 0 0) [] at_ 4 4 v2.drew rfl (row8_nil _ _) hBd (by omega) (by simp))
  have HP2 : Hid (∀ v W, Row8 B W v ([] ++ beN 4 at_) → B ≤ W.heap.size → Calls Tryd.prog 27 #[v, .int .u64 sec, .int .i64 2] W (PutPost B ([] ++ beN 4 at_ ++ beN 2 sec) W)) := Lib.hid (fun v W h1 h2 => put_post B v _ sec 2 2 W rfl h1 h2 (by omega) (by simp [beN_len]))
  have HP3 : Hid (∀ v W, Row8 B W v ([] ++ beN 4 at_ ++ beN 2 sec) → B ≤ W.heap.size → Calls Tryd.prog 27 #[v, .int .u64 T, .int .i64 2] W (PutPost B ([] ++ beN 4 at_ ++ beN 2 sec ++ beN 2 T) W)) := Lib.hid (fun v W h1 h2 => put_post B v _ T 2 2 W rfl h1 h2 (by omega) (by simp [beN_len]))
  have HP4 : Hid (∀ v W, Row8 B W v ([] ++ beN 4 at_ ++ beN 2 sec ++ beN 2 T) → B ≤ W.heap.size → Calls Tryd.prog 27 #[v, .int .u64 U, .int .i64 8] W (PutPost B ([] ++ beN 4 at_ ++ beN 2 sec ++ beN 2 T ++ beN 8 U) W)) := Lib.hid (fun v W h1 h2 => put_post B v _ U 8 8 W rfl h1 h2 (by omega) (by simp [beN_len]))
  clear hv2 hD hsz hB hq0 hqB hBd
  go_enter Tryd.func20, Tryd.ntmps20
  go_upto_region 1 with (fail)
  change Code.wp _ _ _ _ ((w.alloc (.cells #[.int .u16 tag, .int .u32 at_, .int .u16 sec, .int .u64 turn] 44)).alloc (.cells (bytesV (List.replicate 16 0)) 45))
  rw [HV2.out]
  go_region_held3 (fun w' => w'.cell? ⟨w.heap.size, 1, none⟩ = some (.int .u32 at_) ∧ w'.cell? ⟨w.heap.size, 2, none⟩ = some (.int .u16 sec) ∧ w'.cell? ⟨w.heap.size, 0, none⟩ = some (.int .u16 tag) ∧ w'.cell? ⟨w.heap.size, 3, none⟩ = some (.int .u64 turn))
    (first
      | exact HKEEP.out _ (Spares.refl _ _)
      | exact HKEEP.out _ hs4
      | exact HKEEP.out _ (hs4.trans hs5)
      | exact HKEEP.out _ ((hs4.trans hs5).trans hs6)
      | exact HKEEP.out _ (((hs4.trans hs5).trans hs6).trans hs7)
      | fail)
    (first
      | (go_at_call 27; (with_reducible refine Calls.mono HP1.out ?_); rintro e v4 ⟨u4, rfl, hr4, hs4, hb4⟩)
      | (go_at_call 27; (with_reducible refine Calls.mono (HP2.out u4 v4 hr4 hb4) ?_); rintro e v5 ⟨u5, rfl, hr5, hs5, hb5⟩)
      | (go_at_call 27; (with_reducible refine Calls.mono (HP3.out u5 v5 hr5 hb5) ?_); rintro e v6 ⟨u6, rfl, hr6, hs6, hb6⟩)
      | (go_at_call 27; (with_reducible refine Calls.mono (HP4.out u6 v6 hr6 hb6) ?_); rintro e v7 ⟨u7, rfl, hr7, hs7, hb7⟩)
      | fail)
  have hs27 := ((hs4.trans hs5).trans hs6).trans hs7
  have hr7' : Row8 B v7 u7 D := by rw [← HD.out]; simpa [entryF] using hr7
  obtain ⟨a9, c9, hu9, hat, _, _⟩ := hr7'.shape
  rw [hDl] at hu9
  subst hu9
  obtain ⟨g9, o9, rfl, _⟩ := hat 0 (by omega)
  have HA := Lib.hid hat.range
  have h16 := fun w => arr16 (some ⟨g9, o9, none⟩) c9 w
  have hrr : v7.heap[w.heap.size + 1]? = some (.cells (bytesV (List.replicate 16 0)) 45 (0, 0)) := hs27.heap (o := .cells (bytesV (List.replicate 16 0)) 45 (0, 0)) HR0.out (fun h => by have := HQB.out; unfold atLeast at h; omega)
  have infoC : (Tryd.prog.info? 45).map (·.size) = some (Lib.byteCells D).length := by rw [byteCells_len, hDl]; exact info16
  have infoV : (Tryd.prog.info? 45).map (·.size) = some (bytesV D).size := by rw [bytesV_size, hDl]; exact info16
  have htq : v7.there (w.heap.size + 1) 0 (bytesV D).size := there_of hrr 0 _ (by rw [bytesV_size, bytesV_size, hDl]; simp)
  have hgq : (v7.setCells (w.heap.size + 1) 0 (Lib.byteCells D)).heap[w.heap.size + 1]? = some (.cells (bytesV D) 45 (0, 0)) := by
    have := heap_setCells (g := w.heap.size + 1) (t := 45) (Lib.byteCells D) [] (Lib.byteCells (List.replicate 16 0)) [] v7 (by rw [List.append_nil]; exact hrr) (by rw [byteCells_len, byteCells_len, hDl]; simp)
    rw [List.append_nil] at this
    exact this
  have HT := Lib.hid htq
  have HGQ := Lib.hid hgq
  have HI := Lib.hid infoC
  have HI2 := Lib.hid infoV
  have HS7 : Hid (Spares nowhere w v7) := Lib.hid ((HS0.out.drew).trans' hs27 (fun b hb => .inr (by have := HQB.out; unfold atLeast at hb; omega)))
  clear hs27 hr7' hat hrr htq hgq infoC infoV hr4 hs4 hr5 hs5 hr6 hs6 hr7 hs7 HKEEP HP1 HP2 HP3 HP4
  go_wp2_with (first
    | ((with_reducible show wpList _ _ _ (⟨some 23, .load 45 _, _, _, _, _⟩ :: _) _ _); refine wpList_load_mid rfl 45 (.tmp 22) rfl g9 o9 rfl (Lib.byteCells D) _ HA.out Tryd.underlying45 rfl HI.out ?_)
    | ((with_reducible show wpList _ _ _ (⟨none, .store 45 _ _, _, _, _, _⟩ :: _) _ _); refine wpList_store_mid rfl 45 (.tmp 2) (.tmp 23) rfl (w.heap.size + 1) 0 (bytesV D) rfl rfl HT.out HI2.out (bytesV_one _) ?_))
  exact bodyPost_ret (v := .agg (bytesV D)) (results_cell_row rfl _ _ (w.heap.size + 1) 45 (bytesV D) (0, 0) _ rfl HGQ.out Tryd.underlying45 (by rfl) HI2.out) rfl ⟨rfl, HS7.out.trans' (F' := fun b => b = w.heap.size + 1) (spares_setCells _ _ _ (Spares.refl _ _)) (fun b hb => .inr (by omega))⟩
end Go.Proofs.YtimpnnhadjfijaaDoor
