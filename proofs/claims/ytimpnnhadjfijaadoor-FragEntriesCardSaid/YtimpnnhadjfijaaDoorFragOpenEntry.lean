/-
  An entry of the directory, read.
-/
import Derived.Test.YtimpnnhadjfijaaDoorFragEntry
import Derived.Test.YtimpnnhadjfijaaDoorFragBits
namespace Go.Proofs.YtimpnnhadjfijaaDoor
open Go.RowKit

theorem results_cell_two {P : Program} {fn : Func} {p s : Tmp} {ty : TypeId} (h : fn.results = #[.cell p ty, .tmp s]) (tmps : Array Value) (w : World) (g : Nat) (t : TypeId) (cs : Array Value) (fr : Nat × Nat) (d : TypeDesc) (v : Value)
    (hp : tmps.getD p undef = .pointer (some ⟨g, 0, none⟩)) (hv : tmps.getD s undef = v) (hg : w.heap[g]? = some (.cells cs t fr))
    (hu : P.underlying ty = some d) (hd : (match d with | .struct _ | .array _ _ => true | _ => false) = true) (hi : (P.info? ty).map (·.size) = some cs.size) :
    (results fn tmps).run P w = .ok (.tuple #[.agg cs, v]) w := by
  have hp' : tmps[p]?.getD undef = .pointer (some ⟨g, 0, none⟩) := by simpa using hp
  have hv' : tmps[s]?.getD undef = v := by simpa using hv
  simp [results, h, hp', hv', asAddr, run_loadVar_row w g t ty cs fr d hg hu hd hi]
theorem results_cell_three {P : Program} {fn : Func} {p s s2 : Tmp} {ty : TypeId} (h : fn.results = #[.cell p ty, .tmp s, .tmp s2]) (tmps : Array Value) (w : World) (g : Nat) (t : TypeId) (cs : Array Value) (fr : Nat × Nat) (d : TypeDesc) (v u : Value)
    (hp : tmps.getD p undef = .pointer (some ⟨g, 0, none⟩)) (hv : tmps.getD s undef = v) (hu2 : tmps.getD s2 undef = u) (hg : w.heap[g]? = some (.cells cs t fr))
    (hu : P.underlying ty = some d) (hd : (match d with | .struct _ | .array _ _ => true | _ => false) = true) (hi : (P.info? ty).map (·.size) = some cs.size) :
    (results fn tmps).run P w = .ok (.tuple #[.agg cs, v, u]) w := by
  have hp' : tmps[p]?.getD undef = .pointer (some ⟨g, 0, none⟩) := by simpa using hp
  have hv' : tmps[s]?.getD undef = v := by simpa using hv
  have hu' : tmps[s2]?.getD undef = u := by simpa using hu2
  simp [results, h, hp', hv', hu', asAddr, run_loadVar_row w g t ty cs fr d hg hu hd hi]

def atE (X : List UInt8) : Nat := ofBE (X.take 4)
def secE (X : List UInt8) : Nat := ofBE ((X.drop 4).take 2)
def tagE (X : List UInt8) : Nat := ofBE (((X.drop 4).drop 2).take 2)
def rawE (X : List UInt8) : Nat := ofBE ((((X.drop 4).drop 2).drop 2).take 8)
def okE (X : List UInt8) : Bool := decide (9223372036854775808 ≤ rawE X) && (decide (tagE X ≤ 4095) && decide (0 < secE X))
def entryV (tag at_ sec turn : Nat) : Value := .agg #[.int .u16 tag, .int .u32 at_, .int .u16 sec, .int .u64 turn]
def oeV (X : List UInt8) : Value := if okE X = true then .tuple #[entryV (tagE X) (atE X) (secE X) (rawE X % 9223372036854775808), .int .i64 0] else .tuple #[entryV 0 0 0 0, .int .i64 40]
theorem oeV_good {X : List UInt8} (h1 : 9223372036854775808 ≤ rawE X) (h2 : tagE X ≤ 4095) (h3 : 0 < secE X) : oeV X = .tuple #[entryV (tagE X) (atE X) (secE X) (rawE X % 9223372036854775808), .int .i64 0] := by
  have e : okE X = true := by unfold okE; simp [h1, h2, h3]
  unfold oeV; rw [if_pos e]
theorem oeV_bad {X : List UInt8} (h : ¬ (9223372036854775808 ≤ rawE X ∧ tagE X ≤ 4095 ∧ 0 < secE X)) : oeV X = .tuple #[entryV 0 0 0 0, .int .i64 40] := by
  have e : okE X = false := by
    unfold okE
    cases hh : (decide (9223372036854775808 ≤ rawE X) && (decide (tagE X ≤ 4095) && decide (0 < secE X))) with
    | false => rfl
    | true => simp at hh; exact absurd ⟨hh.1, hh.2.1, hh.2.2⟩ h
  unfold oeV; rw [e]; rfl
def OEPost (X : List UInt8) (w : World) (e : Ending) (w' : World) : Prop := e = .returned (oeV X) ∧ Spares nowhere w w'
theorem fieldE_lt (X : List UInt8) (h : X.length = 16) : atE X < 4294967296 ∧ secE X < 65536 ∧ tagE X < 65536 ∧ rawE X < 18446744073709551616 := by
  have e4 : 256 ^ 4 = 4294967296 := by decide
  have e2 : 256 ^ 2 = 65536 := by decide
  have e8 : 256 ^ 8 = 18446744073709551616 := by decide
  have h1 := ofBE_lt (X.take 4)
  have h2 := ofBE_lt ((X.drop 4).take 2)
  have h3 := ofBE_lt (((X.drop 4).drop 2).take 2)
  have h4 := ofBE_lt ((((X.drop 4).drop 2).drop 2).take 8)
  simp only [List.length_take, List.length_drop, h] at h1 h2 h3 h4
  refine ⟨?_, ?_, ?_, ?_⟩
  · rw [← e4]; exact h1
  · rw [← e2]; exact h2
  · rw [← e2]; exact h3
  · rw [← e8]; exact h4
theorem entry_stored {v : World} {g : Nat} {a b c d a' b' c' d' : Value} (h : v.heap[g]? = some (.cells #[a, b, c, d] 44 (0, 0))) :
    v.there g 0 (#[a', b', c', d'] : Array Value).size ∧ (v.setCells g 0 [a', b', c', d']).heap[g]? = some (.cells #[a', b', c', d'] 44 (0, 0)) := by
  refine ⟨there_of h 0 _ (by simp), ?_⟩
  have := heap_setCells (g := g) (t := 44) [a', b', c', d'] [] [a, b, c, d] [] v (by simpa using h) rfl
  simpa using this
theorem ones4 (a b c d : Nat) : (#[.int .u16 a, .int .u32 b, .int .u16 c, .int .u64 d] : Array Value).all (·.oneCell') = true := by simp [Value.oneCell']
theorem infoEntry : (Tryd.prog.info? 44).map (·.size) = some 4 := by kernel_rfl
set_option maxRecDepth 100000 in
set_option maxHeartbeats 2000000 in
theorem openEntry_any (X : List UInt8) (w : World) (hX : X.length = 16) :
    Calls Tryd.prog 18 #[.agg (bytesV X)] w (OEPost X w) := by
  obtain ⟨f1, f2, f3, f4⟩ := fieldE_lt X hX
  obtain ⟨t1, ht1⟩ : ∃ t, atE X = t := ⟨_, rfl⟩
  obtain ⟨t2, ht2⟩ : ∃ t, secE X = t := ⟨_, rfl⟩
  obtain ⟨t3, ht3⟩ : ∃ t, tagE X = t := ⟨_, rfl⟩
  obtain ⟨t4, ht4⟩ : ∃ t, rawE X = t := ⟨_, rfl⟩
  have HGD : Hid (9223372036854775808 ≤ t4 → t3 ≤ 4095 → 0 < t2 → oeV X = .tuple #[entryV t3 t1 t2 (t4 % 9223372036854775808), .int .i64 0]) := Lib.hid (by rw [← ht1, ← ht2, ← ht3, ← ht4]; exact oeV_good)
  have HBD : Hid (¬ (9223372036854775808 ≤ t4 ∧ t3 ≤ 4095 ∧ 0 < t2) → oeV X = .tuple #[entryV 0 0 0 0, .int .i64 40]) := Lib.hid (by rw [← ht2, ← ht3, ← ht4]; exact oeV_bad)
  rw [ht1] at f1; rw [ht2] at f2; rw [ht3] at f3; rw [ht4] at f4
  have hA := top_and f4
  have hN := top_andNot f4
  have H1 := Lib.hid ht1
  have H2 := Lib.hid ht2
  have H3 := Lib.hid ht3
  have H4 := Lib.hid ht4
  have w1 : IntKind.u32.wrap (t1 : Int) = (t1 : Int) := by rw [IntKind.wrap_u32]; omega
  have w2 : IntKind.u16.wrap (t2 : Int) = (t2 : Int) := by rw [IntKind.wrap_u16]; omega
  have w3 : IntKind.u16.wrap (t3 : Int) = (t3 : Int) := by rw [IntKind.wrap_u16]; omega
  obtain ⟨v3, hv3⟩ : ∃ v3, ((w.alloc (.cells (bytesV X) 45)).alloc (.cells #[.int .u16 0, .int .u32 0, .int .u16 0, .int .u64 0] 44)).alloc (.cells #[.slice (some ⟨w.heap.size, 0, none⟩) 16 16] 63) = v3 := ⟨_, rfl⟩
  have HV3 := Lib.hid hv3
  have hsz : v3.heap.size = w.heap.size + 3 := by rw [← hv3]; simp
  have hq0 : v3.heap[w.heap.size]? = some (.cells (bytesV X) 45 (0, 0)) := by
    rw [← hv3]
    exact (Below.heap_alloc _ _ _ (by simp; omega)).trans ((Below.heap_alloc _ _ _ (by simp)).trans (heap_alloc_new w _))
  have HR0 : Hid (v3.heap[w.heap.size + 1]? = some (.cells #[.int .u16 0, .int .u32 0, .int .u16 0, .int .u64 0] 44 (0, 0))) := Lib.hid (by
    rw [← hv3]
    refine (Below.heap_alloc _ _ _ (by simp)).trans ?_
    have := heap_alloc_new (w.alloc (.cells (bytesV X) 45)) (.cells #[.int .u16 0, .int .u32 0, .int .u16 0, .int .u64 0] 44)
    simpa using this)
  have HS0 : Hid (Spares nowhere w v3) := Lib.hid (by rw [← hv3]; exact (((Spares.refl _ w).alloc _).alloc _).alloc _)
  have HF0 : Hid (IsFR (w.heap.size + 1 + 1) w.heap.size X v3) := Lib.hid (by
    refine ⟨by omega, by omega, 0, 16, ?_, bytesV_at hq0, by omega⟩
    rw [← hv3, hX]
    have := heap_alloc_new ((w.alloc (.cells (bytesV X) 45)).alloc (.cells #[.int .u16 0, .int .u32 0, .int .u16 0, .int .u64 0] 44)) (.cells #[.slice (some ⟨w.heap.size, 0, none⟩) 16 16] 63)
    simpa using this)
  have HZ := Lib.hid hsz
  have HX := Lib.hid hX
  clear hv3 hsz hq0 ht1 ht2 ht3 ht4
  go_enter Tryd.func18, Tryd.ntmps18
  go_wp2_with fail
  change Calls _ _ _ (((w.alloc (.cells (bytesV X) 45)).alloc (.cells #[.int .u16 0, .int .u32 0, .int .u16 0, .int .u64 0] 44)).alloc (.cells #[.slice (some ⟨w.heap.size, 0, none⟩) 16 16] 63)) _
  rw [HV3.out]
  refine (frNum_any _ _ X 4 v3 HF0.out (by omega) (by omega) (by omega)).mono ?_
  rintro e v4 ⟨rfl, hf4, hs4⟩
  rw [show ofBE (X.take 4) = t1 from H1.out]
  have HF4 := Lib.hid hf4
  have HS4 := Lib.hid hs4
  clear hf4 hs4 HF0
  go_wp2_with fail
  refine (frNum_any _ _ _ 2 v4 HF4.out (by simp; omega) (by omega) (by simp; omega)).mono ?_
  rintro e v5 ⟨rfl, hf5, hs5⟩
  rw [show ofBE ((X.drop 4).take 2) = t2 from H2.out]
  have HF5 := Lib.hid hf5
  have HS5 := Lib.hid (HS4.out.trans hs5)
  clear hf5 hs5 HF4 HS4
  go_wp2_with fail
  refine (frNum_any _ _ _ 2 v5 HF5.out (by simp; omega) (by omega) (by simp; omega)).mono ?_
  rintro e v6 ⟨rfl, hf6, hs6⟩
  rw [show ofBE (((X.drop 4).drop 2).take 2) = t3 from H3.out]
  obtain ⟨g, hg⟩ : ∃ g, v6.heap.size = g := ⟨_, rfl⟩
  have hg3 : w.heap.size + 3 ≤ g := by rw [← hg, ← HZ.out]; exact Nat.le_trans HS5.out.size hs6.size
  obtain ⟨v7, hv7⟩ : ∃ v7, v6.alloc (.cells #[.int .u16 t3, .int .u32 t1, .int .u16 t2, .int .u64 0] 44) = v7 := ⟨_, rfl⟩
  have HV7 := Lib.hid hv7
  have HF7 : Hid (IsFR (w.heap.size + 1 + 1) w.heap.size (((X.drop 4).drop 2).drop 2) v7) := Lib.hid (by rw [← hv7]; exact hf6.spares (F := nowhere) ((Spares.refl _ _).alloc _) (fun h => h) (fun h => h))
  have HS7 : Hid (Spares (fun x => x = w.heap.size + 1 + 1) v3 v7) := Lib.hid (by rw [← hv7]; exact (HS5.out.trans hs6).alloc _)
  have HG7 : Hid (v7.heap[g]? = some (.cells #[.int .u16 t3, .int .u32 t1, .int .u16 t2, .int .u64 0] 44 (0, 0))) := Lib.hid (by rw [← hv7, ← hg]; exact heap_alloc_new v6 _)
  have HGG := Lib.hid hg
  clear hf6 hs6 HF5 HS5 hv7
  go_wp2_with fail
  change Calls _ _ _ (v6.alloc (.cells #[.int .u16 t3, .int .u32 t1, .int .u16 t2, .int .u64 0] 44)) _
  rw [HV7.out]
  refine (frNum_any _ _ _ 8 v7 HF7.out (by simp; omega) (by omega) (by simp; omega)).mono ?_
  rintro e v8 ⟨rfl, hf8, hs8⟩
  rw [show ofBE ((((X.drop 4).drop 2).drop 2).take 8) = t4 from H4.out]
  have hs83 := HS7.out.trans hs8
  have hg8 := hs8.heap HG7.out (fun h => by omega)
  have hr8 := hs83.heap HR0.out (fun h => by omega)
  have c0 : v8.cell? ⟨g, 0, none⟩ = some (.int .u16 t3) := by rw [Lib.cell_of_heap hg8]; rfl
  have c1 : v8.cell? ⟨g, 1, none⟩ = some (.int .u32 t1) := by rw [Lib.cell_of_heap hg8]; rfl
  have c2 : v8.cell? ⟨g, 2, none⟩ = some (.int .u16 t2) := by rw [Lib.cell_of_heap hg8]; rfl
  have c3 : v8.cell? ⟨g, 3, none⟩ = some (.int .u64 0) := by rw [Lib.cell_of_heap hg8]; rfl
  have z3 : v8.frozen? ⟨g, 3, none⟩ = false := Lib.frozen_of_heap hg8 3
  have HS8 := Lib.hid (HS0.out.trans' hs83 (fun b hb => .inr (by omega)))
  have HG8 := Lib.hid hg8
  have HR8 := Lib.hid hr8
  clear hf8 hs8 hs83 hg8 hr8 HF7 HS7 HG7 HGG hg
  by_cases p1 : 9223372036854775808 ≤ t4 ∧ t3 ≤ 4095 ∧ 0 < t2
  · have hV := HGD.out p1.1 p1.2.1 p1.2.2
    rw [if_pos p1.1] at hA
    obtain ⟨t5, ht5⟩ : ∃ t5, t4 % 9223372036854775808 = t5 := ⟨_, rfl⟩
    rw [ht5] at hN hV
    have HV := Lib.hid hV
    have i3 : ¬ (4095 : Int) < (t3 : Int) := by omega
    have i2 : ¬ ((t2 : Int) = 0) := by omega
    have i2b : ((t2 : Int) == 0) = false := by simpa using i2
    have i3b : decide ((4095 : Int) < (t3 : Int)) = false := decide_eq_false i3
    have hg9 : (v8.setCell ⟨g, 3, none⟩ (.int .u64 t5)).heap[g]? = some (.cells #[.int .u16 t3, .int .u32 t1, .int .u16 t2, .int .u64 t5] 44 (0, 0)) := heap_set HG8.out 3 _
    have hs9 : Spares (fun b => b = g) v8 (v8.setCell ⟨g, 3, none⟩ (.int .u64 t5)) := Spares.setCell (F := fun b => b = g) (Spares.refl _ v8) (p := ⟨g, 3, none⟩) (.inl rfl) _
    obtain ⟨v9, hv9⟩ : ∃ v9, v8.setCell ⟨g, 3, none⟩ (.int .u64 t5) = v9 := ⟨_, rfl⟩
    have HV9 := Lib.hid hv9
    rw [hv9] at hg9 hs9
    have hst := entry_stored (a' := .int .u16 t3) (b' := .int .u32 t1) (c' := .int .u16 t2) (d' := .int .u64 t5) (hs9.heap HR8.out (fun h => by omega))
    have HG9 := Lib.hid hg9
    have HT := Lib.hid hst.1
    have HQ := Lib.hid hst.2
    have HS9 := Lib.hid (HS8.out.trans' hs9 (fun b hb => .inr (by omega)))
    have HI := Lib.hid infoEntry
    clear hV ht5 i3 i2 p1 hv9 hg9 hs9 hst HG8 HR8
    go_wp2_with (first
      | ((with_reducible show wpList _ _ _ (⟨some 34, .load 44 _, _, _, _, _⟩ :: _) _ _); change wpList _ _ _ _ _ (v8.setCell ⟨g, 3, none⟩ (.int .u64 t5)); rw [HV9.out]; refine wpList_load_row rfl 44 (.tmp 5) rfl g rfl 44 _ (0, 0) _ HG9.out Tryd.underlying44 rfl HI.out ?_)
      | ((with_reducible show wpList _ _ _ (⟨none, .store 44 _ _, _, _, _, _⟩ :: _) _ _); refine wpList_store_mid rfl 44 (.tmp 2) (.tmp 34) rfl (w.heap.size + 1) 0 #[.int .u16 t3, .int .u32 t1, .int .u16 t2, .int .u64 t5] rfl rfl HT.out HI.out (ones4 _ _ _ _) ?_))
    exact bodyPost_ret (v := .tuple #[.agg #[.int .u16 t3, .int .u32 t1, .int .u16 t2, .int .u64 t5], .int .i64 0]) (results_cell_two rfl _ _ (w.heap.size + 1) 44 #[.int .u16 t3, .int .u32 t1, .int .u16 t2, .int .u64 t5] (0, 0) _ (.int .i64 0) rfl rfl HQ.out Tryd.underlying44 (by rfl) HI.out) rfl ⟨by rw [HV.out]; rfl, HS9.out.trans' (F' := fun b => b = w.heap.size + 1) (spares_setCells _ _ _ (Spares.refl _ _)) (fun b hb => .inr (by omega))⟩
  · have hV := HBD.out p1
    have HV := Lib.hid hV
    have hst := entry_stored (a' := .int .u16 (0 : Nat)) (b' := .int .u32 (0 : Nat)) (c' := .int .u16 (0 : Nat)) (d' := .int .u64 (0 : Nat)) HR8.out
    have HT := Lib.hid hst.1
    have HQ := Lib.hid hst.2
    have HI := Lib.hid infoEntry
    clear hV hst HG8
    by_cases q4 : 9223372036854775808 ≤ t4
    · rw [if_pos q4] at hA
      by_cases q3 : t3 ≤ 4095
      · have i2 : (t2 : Int) = 0 := by omega
        have i2b : ((t2 : Int) == 0) = true := by simpa using i2
        have i3 : ¬ (4095 : Int) < (t3 : Int) := by omega
        have i3b : decide ((4095 : Int) < (t3 : Int)) = false := decide_eq_false i3
        clear p1 q4 q3
        go_wp2_with ((with_reducible show wpList _ _ _ (⟨none, .store 44 _ _, _, _, _, _⟩ :: _) _ _); refine wpList_store_mid rfl 44 (.tmp 2) (.tmp 30) rfl (w.heap.size + 1) 0 #[.int .u16 (0 : Nat), .int .u32 (0 : Nat), .int .u16 (0 : Nat), .int .u64 (0 : Nat)] rfl rfl HT.out HI.out (ones4 _ _ _ _) ?_)
        exact bodyPost_ret (v := .tuple #[.agg #[.int .u16 (0 : Nat), .int .u32 (0 : Nat), .int .u16 (0 : Nat), .int .u64 (0 : Nat)], .int .i64 40]) (results_cell_two rfl _ _ (w.heap.size + 1) 44 #[.int .u16 (0 : Nat), .int .u32 (0 : Nat), .int .u16 (0 : Nat), .int .u64 (0 : Nat)] (0, 0) _ (.int .i64 40) rfl rfl HQ.out Tryd.underlying44 (by rfl) HI.out) rfl ⟨by rw [HV.out]; rfl, HS8.out.trans' (F' := fun b => b = w.heap.size + 1) (spares_setCells _ _ _ (Spares.refl _ _)) (fun b hb => .inr (by omega))⟩
      · have i3 : (4095 : Int) < (t3 : Int) := by omega
        have i3b : decide ((4095 : Int) < (t3 : Int)) = true := decide_eq_true i3
        clear p1 q4 q3
        go_wp2_with ((with_reducible show wpList _ _ _ (⟨none, .store 44 _ _, _, _, _, _⟩ :: _) _ _); refine wpList_store_mid rfl 44 (.tmp 2) (.tmp 30) rfl (w.heap.size + 1) 0 #[.int .u16 (0 : Nat), .int .u32 (0 : Nat), .int .u16 (0 : Nat), .int .u64 (0 : Nat)] rfl rfl HT.out HI.out (ones4 _ _ _ _) ?_)
        exact bodyPost_ret (v := .tuple #[.agg #[.int .u16 (0 : Nat), .int .u32 (0 : Nat), .int .u16 (0 : Nat), .int .u64 (0 : Nat)], .int .i64 40]) (results_cell_two rfl _ _ (w.heap.size + 1) 44 #[.int .u16 (0 : Nat), .int .u32 (0 : Nat), .int .u16 (0 : Nat), .int .u64 (0 : Nat)] (0, 0) _ (.int .i64 40) rfl rfl HQ.out Tryd.underlying44 (by rfl) HI.out) rfl ⟨by rw [HV.out]; rfl, HS8.out.trans' (F' := fun b => b = w.heap.size + 1) (spares_setCells _ _ _ (Spares.refl _ _)) (fun b hb => .inr (by omega))⟩
    · rw [if_neg q4] at hA
      clear p1 q4
      go_wp2_with ((with_reducible show wpList _ _ _ (⟨none, .store 44 _ _, _, _, _, _⟩ :: _) _ _); refine wpList_store_mid rfl 44 (.tmp 2) (.tmp 30) rfl (w.heap.size + 1) 0 #[.int .u16 (0 : Nat), .int .u32 (0 : Nat), .int .u16 (0 : Nat), .int .u64 (0 : Nat)] rfl rfl HT.out HI.out (ones4 _ _ _ _) ?_)
      exact bodyPost_ret (v := .tuple #[.agg #[.int .u16 (0 : Nat), .int .u32 (0 : Nat), .int .u16 (0 : Nat), .int .u64 (0 : Nat)], .int .i64 40]) (results_cell_two rfl _ _ (w.heap.size + 1) 44 #[.int .u16 (0 : Nat), .int .u32 (0 : Nat), .int .u16 (0 : Nat), .int .u64 (0 : Nat)] (0, 0) _ (.int .i64 40) rfl rfl HQ.out Tryd.underlying44 (by rfl) HI.out) rfl ⟨by rw [HV.out]; rfl, HS8.out.trans' (F' := fun b => b = w.heap.size + 1) (spares_setCells _ _ _ (Spares.refl _ _)) (fun b hb => .inr (by omega))⟩
end Go.Proofs.YtimpnnhadjfijaaDoor
