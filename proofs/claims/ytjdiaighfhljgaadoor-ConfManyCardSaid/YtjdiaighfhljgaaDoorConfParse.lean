/-
  conf.Parse: a text whose lines are of known kinds.
-/
import Derived.Test.YtjdiaighfhljgaaDoorConfCatch
namespace Go.Proofs.YtjdiaighfhljgaaDoor
open Go.RowKit GlobMath DateMath

theorem stepC_small {c d : ConfS} {k : Kind} (h : stepC c k = some d) (hn : c.n ≤ 50) : d.n ≤ 50 := by
  cases k with
  | quiet => injection h with h; subst h; exact hn
  | off => injection h with h; subst h; exact hn
  | log n =>
    unfold stepC at h
    simp only at h
    split at h
    · injection h with h; subst h; exact hn
    · cases h
  | rule =>
    unfold stepC at h
    simp only at h
    split at h
    · injection h with h; subst h; show c.n + 1 ≤ 50; omega
    · cases h
  | bad => cases h
theorem runC_some {c d : ConfS} {i : Nat} {k : Kind} {r : List Kind} (h : stepC c k = some d) : runC c i (k :: r) = runC d (i + 1) r := by rw [runC, h]
theorem runC_none {c : ConfS} {i : Nat} {k : Kind} {r : List Kind} (h : stepC c k = none) : runC c i (k :: r) = .inr (i + 1) := by rw [runC, h]
def trimR (x : ByteArray) : ByteArray := ⟨(Lib.trimSuffix x.data.toList [13]).toArray⟩
def lineVals (ls : List (ByteArray × Kind)) : List ByteArray := ls.map (·.1)
/-- What Parse answers, by what the lines come to. -/
def ConfPost (r : ConfS × Nat ⊕ Nat) (w : World) (e : Ending) (w' : World) : Prop :=
  (match r with
    | .inl (c, _) => ∃ a cap, e = .returned (.tuple #[.agg #[.slice a c.n cap, .bool c.ranges, .string c.console, .int .i64 c.log], .int .i64 0, .int .i64 0])
    | .inr i => e = .returned (.tuple #[.agg zeroConf, .int .i64 i, .int .i64 124])) ∧ Below w.heap.size w w'
theorem results_conf {P : Program} {fn : Func} {p s q : Tmp} {ty tz : TypeId} (h : fn.results = #[.cell p ty, .tmp s, .cell q tz]) (tmps : Array Value) (w : World) (g b : Nat) (t : TypeId) (cs : Array Value) (fr : Nat × Nat) (d : TypeDesc) (v y : Value)
    (hp : tmps.getD p undef = .pointer (some ⟨g, 0, none⟩)) (hv : tmps.getD s undef = v) (hq : tmps.getD q undef = .pointer (some ⟨b, 0, none⟩)) (hg : w.heap[g]? = some (.cells cs t fr))
    (hu : P.underlying ty = some d) (hd : (match d with | .struct _ | .array _ _ => true | _ => false) = true) (hi : (P.info? ty).map (·.size) = some cs.size)
    (hy : (loadVar tz ⟨b, 0, none⟩).run P w = .ok y w) :
    (results fn tmps).run P w = .ok (.tuple #[.agg cs, v, y]) w := by
  have hp' : tmps[p]?.getD undef = .pointer (some ⟨g, 0, none⟩) := by simpa using hp
  have hv' : tmps[s]?.getD undef = v := by simpa using hv
  have hq' : tmps[q]?.getD undef = .pointer (some ⟨b, 0, none⟩) := by simpa using hq
  simp [results, h, hp', hv', hq', asAddr, run_loadVar_row w g t ty cs fr d hg hu hd hi, hy]
theorem errno_load {w : World} {b : Nat} {y : Value} (h : w.heap[b]? = some (.cells #[y] 28 (0, 0))) : (loadVar 28 ⟨b, 0, none⟩).run Tryd.prog w = .ok y w := by
  have hc : w.cell? ⟨b, 0, none⟩ = some y := by rw [Lib.cell_of_heap h]; rfl
  simp [go_sem, hc]
theorem conf_stored {v : World} {g : Nat} {a b c d a' b' c' d' : Value} (h : v.heap[g]? = some (.cells #[a, b, c, d] 27 (0, 0))) :
    v.there g 0 (#[a', b', c', d'] : Array Value).size ∧ (v.setCells g 0 [a', b', c', d']).heap[g]? = some (.cells #[a', b', c', d'] 27 (0, 0)) := by
  refine ⟨there_of h 0 _ (by simp), ?_⟩
  have := heap_setCells (g := g) (t := 27) [a', b', c', d'] [] [a, b, c, d] [] v (by simpa using h) rfl
  simpa using this
theorem onesConf (a : Option Addr) (k j : Nat) (b : Bool) (s : ByteArray) (n : Int) : (#[.slice a k j, .bool b, .string s, .int .i64 n] : Array Value).all (·.oneCell') = true := by simp [Value.oneCell']
theorem default_any (w : World) : Calls Tryd.prog 8 #[] w fun e w' => e = .returned (.agg #[.slice none 0 0, .bool true, .string consoleB, .int .i64 100]) ∧ Spares nowhere w w' := by
  have h1 := heap_alloc_new w (.cells #[.slice none 0 0, .bool true, .string consoleB, .int .i64 100] 27)
  have hs := (Spares.refl nowhere w).alloc (.cells #[.slice none 0 0, .bool true, .string consoleB, .int .i64 100] 27)
  go_enter Tryd.func8, Tryd.ntmps8
  go_wp2
  exact bodyPost_ret (v := .agg #[.slice none 0 0, .bool true, .string consoleB, .int .i64 100]) (results_cell_row rfl _ _ w.heap.size 27 #[.slice none 0 0, .bool true, .string consoleB, .int .i64 100] (0, 0) _ rfl h1 Tryd.underlying27 (by rfl) confInfo) rfl ⟨rfl, hs⟩
theorem lines_any (s : ByteArray) (L : List ByteArray) (m : Int) (w : World) (hs : s.size ≤ 1000000) (hm : w.cell? ⟨0, 0, none⟩ = some (.int .i64 m)) (hL : linesF s.data.toList = L.map (·.data.toList)) :
    Calls Tryd.prog 10 #[.string s, .string ⟨#[10]⟩] w fun e w' => e = .returned (.slice (some ⟨w.heap.size, 0, none⟩) L.length L.length) ∧ w' = w.alloc (.cells (L.map Value.string).toArray 9) := by
  refine (Tryd.strings_Split s ⟨#[10]⟩ m w (by omega) hm (by decide)).mono ?_
  rintro e w' ⟨rfl, rfl⟩
  have hl : (Lib.splitB ⟨#[10]⟩ 0 (Lib.countB s ⟨#[10]⟩) s).length = Lib.countB s ⟨#[10]⟩ + 1 := Lib.splitB_all ⟨#[10]⟩ (by decide) 0 _ s rfl
  have he : Lib.splitB ⟨#[10]⟩ 0 (Lib.countB s ⟨#[10]⟩) s = L := map_inj ((split_lines s).trans hL)
  rw [he] at hl ⊢
  rw [hl]
  exact ⟨rfl, rfl⟩
theorem trim_any (s : ByteArray) (w : World) (hs : s.size ≤ 1000000) : Calls Tryd.prog 12 #[.string s, .string ⟨#[13]⟩] w fun e w' => e = .returned (.string (trimR s)) ∧ w' = w := by
  refine (Tryd.strings_TrimSuffix s ⟨#[13]⟩ w (by omega)).mono ?_
  rintro e w' ⟨rfl, rfl⟩
  exact ⟨rfl, rfl⟩
theorem trimR_size (s : ByteArray) : (trimR s).size ≤ s.size := by
  show (Lib.trimSuffix s.data.toList [13]).toArray.size ≤ _
  unfold Lib.trimSuffix
  split
  · simp
  · simp
set_option maxHeartbeats 1000000 in
theorem parse_great (s : ByteArray) (w : World) (hs : 32768 < s.size) (hz : s.size ≤ 140737488351232) : Calls Tryd.prog 7 #[.string s] w (ConfPost (.inr 0) w) := by
  go_enter Tryd.func7, Tryd.ntmps7
  go_wp2
  have h1 : ((w.alloc (.cells zeroConf 27)).alloc (.cells #[.int .i64 124] 28)).heap[w.heap.size]? = some (.cells zeroConf 27 (0, 0)) := by
    rw [Below.heap_alloc _ _ _ (by simp)]; exact heap_alloc_new w _
  have h2 : ((w.alloc (.cells zeroConf 27)).alloc (.cells #[.int .i64 124] 28)).heap[w.heap.size + 1]? = some (.cells #[.int .i64 124] 28 (0, 0)) := by
    have := heap_alloc_new (w.alloc (.cells zeroConf 27)) (.cells #[.int .i64 124] 28)
    simpa using this
  exact bodyPost_ret (v := .tuple #[.agg zeroConf, .int .i64 0, .int .i64 124]) (results_conf rfl _ _ w.heap.size (w.heap.size + 1) 27 zeroConf (0, 0) _ (.int .i64 0) (.int .i64 124) rfl rfl rfl h1 Tryd.underlying27 (by rfl) confInfo (errno_load h2)) rfl ⟨rfl, (((Spares.refl nowhere w).alloc _).alloc _).below0⟩
theorem lines_cell (w : World) (L : List ByteArray) (k : Nat) (h : k < L.length) : (w.alloc (.cells (L.map Value.string).toArray 9)).cell? ⟨w.heap.size, k, none⟩ = some (.string L[k]) := by
  rw [Lib.cell_of_heap (heap_alloc_new w _)]
  simp [h]
set_option maxHeartbeats 4000000 in
theorem confParse_any (s : ByteArray) (ls : List (ByteArray × Kind)) (m : Int) (w : World) (hs : s.size ≤ 32768) (hm : w.cell? ⟨0, 0, none⟩ = some (.int .i64 m)) (hL : linesF s.data.toList = (lineVals ls).map (·.data.toList)) (hz : ∀ x ∈ ls, x.1.size ≤ 1000000) (hn : ls.length ≤ 1000000) (hk : ∀ x ∈ ls, KindOf (trimR x.1) x.2) : Calls Tryd.prog 7 #[.string s] w (ConfPost (runC startC 0 (ls.map (·.2))) w) := by
  obtain ⟨R, hR⟩ : ∃ R, runC startC 0 (ls.map (·.2)) = R := ⟨_, rfl⟩
  rw [hR]
  have HR := Lib.hid hR
  clear hR
  have h0 : 0 < w.heap.size := by
    rcases Nat.lt_or_ge 0 w.heap.size with h | h
    · exact h
    · simp [World.cell?, Array.getElem?_eq_none h] at hm
  obtain ⟨v0, hv0⟩ : ∃ v0, (w.alloc (.cells zeroConf 27)).alloc (.cells #[.int .i64 0] 28) = v0 := ⟨_, rfl⟩
  have a1 : v0.heap[w.heap.size]? = some (.cells zeroConf 27 (0, 0)) := by
    rw [← hv0, Below.heap_alloc _ _ _ (by simp)]; exact heap_alloc_new w _
  have a2 : v0.heap[w.heap.size + 1]? = some (.cells #[.int .i64 0] 28 (0, 0)) := by
    have := heap_alloc_new (w.alloc (.cells zeroConf 27)) (.cells #[.int .i64 0] 28)
    rw [← hv0]
    simpa using this
  have a3 : Spares nowhere w v0 := by rw [← hv0]; exact ((Spares.refl _ _).alloc _).alloc _
  have a4 : v0.heap.size = w.heap.size + 2 := by rw [← hv0]; simp
  have HV0 := Lib.hid hv0
  have A1 := Lib.hid a1
  have A2 := Lib.hid a2
  have A3 := Lib.hid a3
  have HI := Lib.hid confInfo
  have HLL := Lib.hid hL
  have HZ := Lib.hid hz
  have HK := Lib.hid hk
  have HM := Lib.hid hm
  have hmf : ∀ (fn : Fn) (first cap : Array Value) (w : World), (Instr.makeFunc fn first cap).run Tryd.prog w = .ok (.func fn first cap) w := fun _ _ _ _ => rfl
  clear hv0 a1 a2 a3 hL hz hk hm
  go_enter_defers Tryd.func7, Tryd.ntmps7
  go_wp2_with fail
  change Calls _ _ _ ((w.alloc (.cells zeroConf 27)).alloc (.cells #[.int .i64 0] 28)) _
  rw [HV0.out]
  refine (default_any v0).mono ?_
  rintro e v1 ⟨rfl, hs1⟩
  have b1 := hs1.heap A1.out (fun h => h)
  have b2 := hs1.heap A2.out (fun h => h)
  have hst := conf_stored (a' := .slice none 0 0) (b' := .bool true) (c' := .string consoleB) (d' := .int .i64 100) b1
  have HT := Lib.hid hst.1
  obtain ⟨v2, hv2⟩ : ∃ v2, v1.setCells w.heap.size 0 [.slice none 0 0, .bool true, .string consoleB, .int .i64 100] = v2 := ⟨_, rfl⟩
  have hs2 : Spares (fun b => b = w.heap.size) v1 v2 := by rw [← hv2]; exact spares_setCells _ _ _ (Spares.refl _ _)
  have b3 : v2.heap[w.heap.size]? = some (.cells #[.slice none 0 0, .bool true, .string consoleB, .int .i64 100] 27 (0, 0)) := by rw [← hv2]; exact hst.2
  have b4 := hs2.heap b2 (fun h => by omega)
  have b5 : Spares nowhere w v2 := (A3.out.trans hs1).trans' hs2 (fun b hb => .inr (by omega))
  have hz2 : w.heap.size + 2 ≤ v2.heap.size := by have h1 := hs1.size; have h2 := hs2.size; omega
  have B3 := Lib.hid b3
  have B4 := Lib.hid b4
  have B5 := Lib.hid b5
  have HV2 := Lib.hid hv2
  have hm2 : v2.cell? ⟨0, 0, none⟩ = some (.int .i64 m) := (b5.cell (p := ⟨0, 0, none⟩) h0 (fun h => h)).trans HM.out
  clear hs1 b1 b2 hst hv2 hs2 b3 b4 b5
  go_wp2_with ((with_reducible show wpList _ _ _ (⟨none, .store 27 _ _, _, _, _, _⟩ :: _) _ _); refine wpList_store_mid rfl 27 (.tmp 2) (.tmp 12) rfl w.heap.size 0 #[.slice none 0 0, .bool true, .string consoleB, .int .i64 100] rfl rfl HT.out HI.out (onesConf _ _ _ _ _ _) ?_)
  rw [HV2.out]
  refine (lines_any s (lineVals ls) m v2 (by omega) hm2 HLL.out).mono ?_
  rintro e v3' ⟨rfl, hv3⟩
  have hln : (lineVals ls).length = ls.length := by simp [lineVals]
  rw [hln]
  obtain ⟨v3, hv3e⟩ : ∃ v3, v3 = v3' := ⟨_, rfl⟩
  subst hv3e
  have hs3 : Spares nowhere v2 v3 := by rw [hv3]; exact (Spares.refl _ _).alloc _
  have hz3 : v3.heap.size = v2.heap.size + 1 := by rw [hv3]; simp
  have HCL : Hid (∀ k (h : k < ls.length), v3.cell? ⟨v2.heap.size, k, none⟩ = some (.string ls[k].1)) := Lib.hid (fun k h => by
    rw [hv3, lines_cell v2 (lineVals ls) k (by rw [hln]; exact h)]
    simp [lineVals])
  have HC3 : Hid (IsC v3.heap.size w.heap.size startC v3) := Lib.hid ⟨by omega, Nat.le_refl _, .slice none 0 0, [], hs3.heap B3.out (fun h => h), World.ownsRow_nil v3 _ _ 4⟩
  have HQ3 : Hid (v3.heap[w.heap.size + 1]? = some (.cells #[.int .i64 0] 28 (0, 0))) := Lib.hid (hs3.heap B4.out (fun h => h))
  have HS3 : Hid (Spares nowhere w v3) := Lib.hid (B5.out.trans hs3)
  have HZ2 : Hid (w.heap.size + 2 ≤ v2.heap.size ∧ v3.heap.size = v2.heap.size + 1) := Lib.hid ⟨hz2, hz3⟩
  clear hs3 hz3 hv3 hm2 hln hz2 a4 A1 A2 A3 HV0 B3 B4 B5 HLL HT HV2
  go_wp2
  go_loopw [3, 16] (fun line i wr => ∃ (k : Nat) (c : ConfS), k ≤ ls.length ∧ line = .int .i64 k ∧ i = .int .i64 k ∧ Hid (IsC v3.heap.size w.heap.size c wr ∧ c.n ≤ 50 ∧ R = runC c k ((ls.drop k).map (·.2))) ∧ Hid (Spares (foot v3.heap.size w.heap.size) v3 wr)) (fun _ i _ => ls.length - (intOf i).toNat)
  case atStart => exact ⟨0, startC, Nat.zero_le _, rfl, rfl, Lib.hid ⟨HC3.out, by decide, HR.out.symm⟩, Lib.hid (Spares.refl _ _)⟩
  case round =>
    obtain ⟨k, c, hkn, rfl, rfl, HC, HS⟩ := hrel
    by_cases hlt : k < ls.length
    · have hltI : (k : Int) < (ls.length : Int) := by omega
      have hcell : wr.cell? ⟨v2.heap.size, k, none⟩ = some (.string ls[k].1) := (HS.out.cell (p := ⟨v2.heap.size, k, none⟩) (by have h := HZ2.out; show v2.heap.size < _; omega) (by have h := HZ2.out; show ¬ (v2.heap.size = _ ∨ _ ≤ v2.heap.size); omega)).trans (HCL.out k hlt)
      have hx1 := HZ.out ls[k] (List.getElem_mem _)
      have hx2 := HK.out ls[k] (List.getElem_mem _)
      have hdr : ls.drop k = ls[k] :: ls.drop (k + 1) := List.drop_eq_getElem_cons hlt
      obtain ⟨x, hx⟩ : ∃ x, ls[k] = x := ⟨_, rfl⟩
      rw [hx] at hcell hx1 hx2 hdr
      obtain ⟨t, kd⟩ := x
      have hx3 := trimR_size t
      have cT := fun w => trim_any t w hx1
      obtain ⟨y, hy⟩ : ∃ y, trimR t = y := ⟨_, rfl⟩
      simp only at hcell hx1 hx2 hx3 cT
      rw [hy] at hx2 hx3
      simp only [hy] at cT
      have hyz : y.size ≤ 1000000 := Nat.le_trans hx3 hx1
      have cRd := read_any v3.heap.size w.heap.size c y kd wr hyz (by have := HC.out.2.1; omega) hx2 HC.out.1
      have HD := Lib.hid hdr
      clear hx hy hx2 hx3 hdr hyz hx1
      go_wp2_with fail
      refine (cT _).mono ?_
      rintro e w4 ⟨rfl, hw4⟩
      replace hw4 := hw4.symm
      subst hw4
      go_wp2_with fail
      refine cRd.mono ?_
      rintro e w5 ⟨h1, hs5⟩
      clear cT cRd
      have HS5 := Lib.hid (HS.out.trans hs5)
      cases hst : stepC c kd with
      | some d =>
        rw [hst] at h1
        obtain ⟨rfl, h1⟩ := h1
        have HC5 : Hid (IsC v3.heap.size w.heap.size d w5 ∧ d.n ≤ 50 ∧ R = runC d (k + 1) ((ls.drop (k + 1)).map (·.2))) := Lib.hid ⟨h1, stepC_small hst HC.out.2.1, by rw [HC.out.2.2, HD.out, List.map_cons, runC_some hst]⟩
        clear h1 hs5 hst
        go_wp2
        go_roundw
        case rel => exact ⟨k + 1, d, by omega, by go_num, by go_num, HC5, HS5⟩
        case measure => simp [intOf]; omega
      | none =>
        rw [hst] at h1
        obtain ⟨rfl, h1⟩ := h1
        have HE : Hid (R = .inr (k + 1)) := Lib.hid (by rw [HC.out.2.2, HD.out, List.map_cons, runC_none hst])
        have hq5 : w5.heap[w.heap.size + 1]? = some (.cells #[.int .i64 0] 28 (0, 0)) := HS5.out.heap HQ3.out (by have h := HZ2.out; rintro (h1 | h1) <;> omega)
        obtain ⟨_, _, rv, rxs, hp5, _⟩ := h1
        have hne : ¬ w.heap.size + 1 = w.heap.size := by omega
        clear hs5 hst
        unfold FaultE
        go_wp2
        refine leaves_cons (f := 9) (args := #[.pointer (some ⟨w.heap.size, 0, none⟩), .pointer (some ⟨w.heap.size + 1, 0, none⟩)]) (by simp) (by simp [go_sem]) ?_
        refine (catch_panicking w.heap.size (w.heap.size + 1) [] _ _ _ _ _ _ hne hp5 hq5).mono ?_
        rintro e u' w'' ⟨rfl, rfl, r1, r2, r3⟩
        have hsf : Spares nowhere w w'' := (HS3.out.trans' HS5.out (fun b hb => .inr (by rcases hb with hb | hb <;> have h := HZ2.out <;> omega))).trans' r3 (fun b hb => .inr (by omega))
        refine ⟨_, results_conf rfl _ w'' w.heap.size (w.heap.size + 1) 27 zeroConf (0, 0) _ (.int .i64 ((k : Int) + 1)) (.int .i64 124) rfl rfl rfl r1 Tryd.underlying27 (by rfl) confInfo (errno_load r2), ?_⟩
        rw [HE.out]
        exact ⟨by simp, hsf.below0⟩
    · obtain rfl : k = ls.length := by omega
      have HE : Hid (R = .inl (c, ls.length)) := Lib.hid (by rw [HC.out.2.2, List.drop_of_length_le (Nat.le_refl _)]; rfl)
      obtain ⟨_, _, rv, rxs, hp5, hown5⟩ := HC.out.1
      obtain ⟨ra, rc, rfl⟩ : ∃ ra rc, rv = .slice ra c.n rc := by
        rcases hown5.2 with ⟨hv, h2⟩ | ⟨_, cap, cur, hv, _⟩
        · exact ⟨none, 0, by rw [hv, h2]⟩
        · exact ⟨_, _, hv⟩
      have hq5 : wr.heap[w.heap.size + 1]? = some (.cells #[.int .i64 0] 28 (0, 0)) := HS.out.heap HQ3.out (by have h := HZ2.out; show ¬ (_ = _ ∨ _ ≤ _); omega)
      have hst := conf_stored (a' := .slice ra c.n rc) (b' := .bool c.ranges) (c' := .string c.console) (d' := .int .i64 c.log) hp5
      have HT := Lib.hid hst.1
      have HPR := Lib.hid hp5
      obtain ⟨v6, hv6⟩ : ∃ v6, wr.setCells w.heap.size 0 [.slice ra c.n rc, .bool c.ranges, .string c.console, .int .i64 c.log] = v6 := ⟨_, rfl⟩
      have hs6 : Spares (fun b => b = w.heap.size) wr v6 := by rw [← hv6]; exact spares_setCells _ _ _ (Spares.refl _ _)
      have b3 : v6.heap[w.heap.size]? = some (.cells #[.slice ra c.n rc, .bool c.ranges, .string c.console, .int .i64 c.log] 27 (0, 0)) := by rw [← hv6]; exact hst.2
      have b4 := hs6.heap hq5 (fun h => by omega)
      have f4 : v6.frozen? ⟨w.heap.size + 1, 0, none⟩ = false := Lib.frozen_of_heap b4 0
      have c4 : v6.cell? ⟨w.heap.size + 1, 0, none⟩ = some (.int .i64 0) := by rw [Lib.cell_of_heap b4]; rfl
      have HS6 := Lib.hid ((HS.out.trans' hs6 (fun b hb => .inl (.inl hb))))
      have B3 := Lib.hid b3
      have B4 := Lib.hid b4
      have HV6 := Lib.hid hv6
      have hkk : ¬ ((ls.length : Int) < (ls.length : Int)) := by omega
      clear hst hp5 hown5 hq5 hv6 hs6 b3 b4
      go_wp2_with (first
        | ((with_reducible show wpList _ _ _ (⟨some 27, .load 27 _, _, _, _, _⟩ :: _) _ _); refine wpList_load_row rfl 27 (.tmp 2) rfl w.heap.size rfl 27 #[.slice ra c.n rc, .bool c.ranges, .string c.console, .int .i64 c.log] (0, 0) _ HPR.out Tryd.underlying27 (by rfl) HI.out ?_)
        | ((with_reducible show wpList _ _ _ (⟨none, .store 27 _ _, _, _, _, _⟩ :: _) _ _); refine wpList_store_mid rfl 27 (.tmp 2) (.tmp 27) rfl w.heap.size 0 #[.slice ra c.n rc, .bool c.ranges, .string c.console, .int .i64 c.log] rfl rfl HT.out HI.out (onesConf _ _ _ _ _ _) ?_; rw [HV6.out]))
      have hs7 : Spares (fun b => b = w.heap.size + 1) v6 (v6.setCell ⟨w.heap.size + 1, 0, none⟩ (.int .i64 0)) := Spares.setCell (F := fun b => b = w.heap.size + 1) (Spares.refl _ v6) (p := ⟨w.heap.size + 1, 0, none⟩) (.inl rfl) _
      have d1 := hs7.heap B3.out (fun h => by omega)
      have d2 : (v6.setCell ⟨w.heap.size + 1, 0, none⟩ (.int .i64 0)).heap[w.heap.size + 1]? = some (.cells #[.int .i64 0] 28 (0, 0)) := by
        have := B4.out
        simp only [World.setCell, Array.getElem?_modify, this]
        simp
      refine leaves_cons (f := 9) (args := #[.pointer (some ⟨w.heap.size, 0, none⟩), .pointer (some ⟨w.heap.size + 1, 0, none⟩)]) (by simp) (by simp [go_sem]) ?_
      refine (catch_idle w.heap.size (w.heap.size + 1) _).mono ?_
      rintro e u' w'' ⟨rfl, rfl, hs8⟩
      have hsf : Spares nowhere w w'' := ((HS3.out.trans' HS6.out (fun b hb => .inr (by rcases hb with hb | hb <;> have h := HZ2.out <;> omega))).trans' hs7 (fun b hb => .inr (by omega))).trans hs8
      refine ⟨_, results_conf rfl _ w'' w.heap.size (w.heap.size + 1) 27 #[.slice ra c.n rc, .bool c.ranges, .string c.console, .int .i64 c.log] (0, 0) _ (.int .i64 0) (.int .i64 0) rfl rfl rfl (hs8.heap d1 (fun h => h)) Tryd.underlying27 (by rfl) confInfo (errno_load (hs8.heap d2 (fun h => h))), ?_⟩
      rw [HE.out]
      exact ⟨⟨ra, rc, rfl⟩, hsf.below0⟩
end Go.Proofs.YtjdiaighfhljgaaDoor
