/-
  Sum: the SHA-256 of any bytes.
  An entry of the directory, written.
  An entry of the directory, read.
  A directory: its entries, and what its calls come to.
  Rows of entries in memory, and a block of slices over them that lie apart.
  ambryhelp.Entries: two rows of entries compared.
-/
import Derived.Deep.MidRow
import Derived.Deep.WholeRow
import Derived.Laws.Cover3
import Derived.Test.YtihbjkdgfflnfaaMg4
namespace Go.Proofs.Ytihbjkdgfflnfaa
open Go.RowKit

theorem there_of {w : World} {p : Nat} {cs : Array Value} {t : TypeId} (h : w.heap[p]? = some (.cells cs t (0, 0))) (o n : Nat) (hn : o + n ≤ cs.size) : w.there p o n := fun j hj => by
  constructor
  · rw [Lib.cell_of_heap h, Array.getElem?_eq_getElem (by omega)]; rfl
  · exact heap_frozen h _
theorem bytesV_one (l : List UInt8) : (bytesV l).all (·.oneCell') = true := all_oneCell_toArray (byteCells_one l)
end Go.Proofs.Ytihbjkdgfflnfaa
namespace Go.Proofs.Ytihbjkdgfflnfaa
open Go.RowKit

def entryF (tag at_ sec turn : Nat) : List UInt8 := beN 4 at_ ++ beN 2 sec ++ beN 2 tag ++ beN 8 turn
theorem entryF_len (tag at_ sec turn : Nat) : (entryF tag at_ sec turn).length = 16 := by unfold entryF; simp [beN_len]
theorem newFW {w w1 : World} {q : Nat} (h : w1 = w.alloc (.cells #[.slice none 0 0] 91)) (hq : q = w.heap.size) : IsFW (fun k => k = q) q [] w1 := by
  subst h; subst hq
  refine ⟨rfl, fun k hk => by subst hk; simp, _, heap_alloc_new w _, ownBytes_nil _, fun g hg => by simp [Value.ownBlock] at hg⟩
theorem arr16 (a : Option Addr) (c : Nat) (w : World) : (Instr.arrayAt 82 (.slice a 16 c)).run Try.prog w = .ok (.pointer a) w := run_arrayAt w 82 _ 16 _ 16 c Try.underlying82 (by omega)
theorem info16 : (Try.prog.info? 82).map (·.size) = some 16 := by kernel_rfl
theorem BytesAt.range {w : World} {g off : Nat} {l : List UInt8} (h : BytesAt w (some ⟨g, off, none⟩) l) : w.rangeAt g off (Lib.byteCells l) := fun j v hj => by
  have := h.cells j v hj
  rwa [Addr.add_lit] at this
set_option maxRecDepth 100000 in
set_option maxHeartbeats 1000000 in
theorem entry_any (tag at_ sec turn T U : Nat) (w : World) (hT : Go.bits .and .u16 (tag : Int) 4095 = (T : Int)) (hU : Go.bits .or .u64 (turn : Int) 9223372036854775808 = (U : Int)) (_h1 : tag < 65536) (h2 : at_ < 4294967296) (h3 : sec < 65536) (hT2 : T < 65536) :
    Calls Try.prog 43 #[.agg #[.int .u16 tag, .int .u32 at_, .int .u16 sec, .int .u64 turn]] w fun e w' => e = .returned (.agg (bytesV (entryF T at_ sec U))) ∧ Spares nowhere w w' := by
  have w1 : IntKind.u64.wrap (at_ : Int) = (at_ : Int) := by rw [IntKind.wrap_u64]; omega
  have w2 : IntKind.u64.wrap (sec : Int) = (sec : Int) := by rw [IntKind.wrap_u64]; omega
  have w3 : IntKind.u64.wrap (T : Int) = (T : Int) := by rw [IntKind.wrap_u64]; omega
  obtain ⟨D, hD⟩ : ∃ D, entryF T at_ sec U = D := ⟨_, rfl⟩
  have hDl : D.length = 16 := by rw [← hD]; exact entryF_len ..
  rw [hD]
  have HD := Lib.hid hD
  obtain ⟨v3, hv3⟩ : ∃ v3, ((w.alloc (.cells #[.int .u16 tag, .int .u32 at_, .int .u16 sec, .int .u64 turn] 41)).alloc (.cells (bytesV (List.replicate 16 0)) 82)).alloc (.cells #[.slice none 0 0] 91) = v3 := ⟨_, rfl⟩
  have HV3 := Lib.hid hv3
  have hsz : v3.heap.size = w.heap.size + 3 := by rw [← hv3]; simp
  have HW0 : Hid (IsFW (fun k => k = w.heap.size + 1 + 1) (w.heap.size + 1 + 1) [] v3) := Lib.hid (newFW hv3.symm (by simp))
  have HQ0 : Hid (v3.heap[w.heap.size]? = some (.cells #[.int .u16 tag, .int .u32 at_, .int .u16 sec, .int .u64 turn] 41 (0, 0))) := Lib.hid (by
    rw [← hv3]
    exact (Below.heap_alloc _ _ _ (by simp; omega)).trans ((Below.heap_alloc _ _ _ (by simp)).trans (heap_alloc_new w _)))
  have HR0 : Hid (v3.heap[w.heap.size + 1]? = some (.cells (bytesV (List.replicate 16 0)) 82 (0, 0))) := Lib.hid (by
    rw [← hv3]
    refine (Below.heap_alloc _ _ _ (by simp)).trans ?_
    have := heap_alloc_new (w.alloc (.cells #[.int .u16 tag, .int .u32 at_, .int .u16 sec, .int .u64 turn] 41)) (.cells (bytesV (List.replicate 16 0)) 82)
    simpa using this)
  have HS0 : Hid (Spares nowhere w v3) := Lib.hid (by rw [← hv3]; exact (((Spares.refl _ w).alloc _).alloc _).alloc _)
  have HZ := Lib.hid hsz
  clear hv3 hD hsz
  go_enter Try.func43, Try.ntmps43
  go_wp2_with fail
  change Calls _ _ _ (((w.alloc (.cells #[.int .u16 tag, .int .u32 at_, .int .u16 sec, .int .u64 turn] 41)).alloc (.cells (bytesV (List.replicate 16 0)) 82)).alloc (.cells #[.slice none 0 0] 91)) _
  rw [HV3.out]
  refine (fwNum_any _ _ [] at_ 4 v3 HW0.out (by omega) (by simp)).mono ?_
  rintro e v4 ⟨rfl, F4, hW4, hM4⟩
  have hq4 := hM4.1.heap HQ0.out (fun h => by omega)
  have c4 : v4.cell? ⟨w.heap.size, 2, none⟩ = some (.int .u16 sec) := by rw [Lib.cell_of_heap hq4]; rfl
  have HW4 := Lib.hid hW4
  have HM4 := Lib.hid hM4
  clear hW4 hM4 hq4 HW0
  go_wp2_with fail
  refine (fwNum_any _ _ _ sec 2 v4 HW4.out (by omega) (by simp [beN_len])).mono ?_
  rintro e v5 ⟨rfl, F5, hW5, hM5⟩
  replace hM5 := HM4.out.trans hM5
  have hq5 := hM5.1.heap HQ0.out (fun h => by omega)
  have c5 : v5.cell? ⟨w.heap.size, 0, none⟩ = some (.int .u16 tag) := by rw [Lib.cell_of_heap hq5]; rfl
  have HW5 := Lib.hid hW5
  have HM5 := Lib.hid hM5
  clear hW5 hM5 hq5 HW4 HM4 c4
  go_wp2_with fail
  refine (fwNum_any _ _ _ T 2 v5 HW5.out (by omega) (by simp [beN_len])).mono ?_
  rintro e v6 ⟨rfl, F6, hW6, hM6⟩
  replace hM6 := HM5.out.trans hM6
  have hq6 := hM6.1.heap HQ0.out (fun h => by omega)
  have c6 : v6.cell? ⟨w.heap.size, 3, none⟩ = some (.int .u64 turn) := by rw [Lib.cell_of_heap hq6]; rfl
  have HW6 := Lib.hid hW6
  have HM6 := Lib.hid hM6
  clear hW6 hM6 hq6 HW5 HM5 c5
  go_wp2_with fail
  refine (fwNum_any _ _ _ U 8 v6 HW6.out (by omega) (by simp [beN_len])).mono ?_
  rintro e v7 ⟨rfl, F7, hW7, hM7⟩
  replace hM7 := HM6.out.trans hM7
  have hr7 := hM7.1.heap HR0.out (fun h => by omega)
  have hw7 : IsFW F7 (w.heap.size + 1 + 1) D v7 := by rw [← HD.out]; simpa [entryF] using hW7
  clear hW7
  obtain ⟨_, _, v, hv, ho, _⟩ := hw7
  obtain ⟨a9, c9, rfl, hat, _⟩ := ho.shape
  rw [hDl] at hv
  have c7 : v7.cell? ⟨w.heap.size + 1 + 1, 0, none⟩ = some (.slice a9 16 c9) := by rw [Lib.cell_of_heap hv]; rfl
  obtain ⟨g9, o9, rfl, _⟩ := hat 0 (by omega)
  have HA := Lib.hid hat.range
  have h16 := fun w => arr16 (some ⟨g9, o9, none⟩) c9 w
  have infoC : (Try.prog.info? 82).map (·.size) = some (Lib.byteCells D).length := by rw [byteCells_len, hDl]; exact info16
  have infoV : (Try.prog.info? 82).map (·.size) = some (bytesV D).size := by rw [bytesV_size, hDl]; exact info16
  have htq : v7.there (w.heap.size + 1) 0 (bytesV D).size := there_of hr7 0 _ (by rw [bytesV_size, bytesV_size, hDl]; simp)
  have hgq : (v7.setCells (w.heap.size + 1) 0 (Lib.byteCells D)).heap[w.heap.size + 1]? = some (.cells (bytesV D) 82 (0, 0)) := by
    have := heap_setCells (g := w.heap.size + 1) (t := 82) (Lib.byteCells D) [] (Lib.byteCells (List.replicate 16 0)) [] v7 (by rw [List.append_nil]; exact hr7) (by rw [byteCells_len, byteCells_len, hDl]; simp)
    rw [List.append_nil] at this
    exact this
  have HT := Lib.hid htq
  have HGQ := Lib.hid hgq
  have HI := Lib.hid infoC
  have HI2 := Lib.hid infoV
  have HM7 := Lib.hid hM7
  clear hM7 hr7 hv ho hat htq hgq infoC infoV HW6 HM6 c6
  go_wp2_with (first
    | ((with_reducible show wpList _ _ _ (⟨some 24, .load 82 _, _, _, _, _⟩ :: _) _ _); refine wpList_load_mid rfl 82 (.tmp 23) rfl g9 o9 rfl (Lib.byteCells D) _ HA.out Try.underlying82 rfl HI.out ?_)
    | ((with_reducible show wpList _ _ _ (⟨none, .store 82 _ _, _, _, _, _⟩ :: _) _ _); refine wpList_store_mid rfl 82 (.tmp 2) (.tmp 24) rfl (w.heap.size + 1) 0 (bytesV D) rfl rfl HT.out HI2.out (bytesV_one _) ?_))
  exact bodyPost_ret (v := .agg (bytesV D)) (results_cell_row rfl _ _ (w.heap.size + 1) 82 (bytesV D) (0, 0) _ rfl HGQ.out Try.underlying82 (by rfl) HI2.out) rfl ⟨rfl, (HS0.out.trans' HM7.out.1 (fun b hb => .inr (by omega))).trans' (F' := fun b => b = w.heap.size + 1) (spares_setCells _ _ _ (Spares.refl _ _)) (fun b hb => .inr (by omega))⟩
end Go.Proofs.Ytihbjkdgfflnfaa
namespace Go.Proofs.Ytihbjkdgfflnfaa
open Go.RowKit

theorem results_cell_two {P : Program} {fn : Func} {p s : Tmp} {ty : TypeId} (h : fn.results = #[.cell p ty, .tmp s]) (tmps : Array Value) (w : World) (g : Nat) (t : TypeId) (cs : Array Value) (fr : Nat × Nat) (d : TypeDesc) (v : Value)
    (hp : tmps.getD p undef = .pointer (some ⟨g, 0, none⟩)) (hv : tmps.getD s undef = v) (hg : w.heap[g]? = some (.cells cs t fr))
    (hu : P.underlying ty = some d) (hd : (match d with | .struct _ | .array _ _ => true | _ => false) = true) (hi : (P.info? ty).map (·.size) = some cs.size) :
    (results fn tmps).run P w = .ok (.tuple #[.agg cs, v]) w := by
  have hp' : tmps[p]?.getD undef = .pointer (some ⟨g, 0, none⟩) := by simpa using hp
  have hv' : tmps[s]?.getD undef = v := by simpa using hv
  simp [results, h, hp', hv', asAddr, run_loadVar_row w g t ty cs fr d hg hu hd hi]
def atE (X : List UInt8) : Nat := ofBE (X.take 4)
def secE (X : List UInt8) : Nat := ofBE ((X.drop 4).take 2)
def tagE (X : List UInt8) : Nat := ofBE (((X.drop 4).drop 2).take 2)
def rawE (X : List UInt8) : Nat := ofBE ((((X.drop 4).drop 2).drop 2).take 8)
def okE (X : List UInt8) : Bool := decide (9223372036854775808 ≤ rawE X) && (decide (tagE X ≤ 4095) && decide (0 < secE X))
def entryV (tag at_ sec turn : Nat) : Value := .agg #[.int .u16 tag, .int .u32 at_, .int .u16 sec, .int .u64 turn]
def oeV (X : List UInt8) : Value := if okE X = true then .tuple #[entryV (tagE X) (atE X) (secE X) (rawE X % 9223372036854775808), .int .i64 0] else .tuple #[entryV 0 0 0 0, .int .i64 40]
theorem oeV_good {X : List UInt8} (h1 : 9223372036854775808 ≤ rawE X) (h2 : tagE X ≤ 4095) (h3 : 0 < secE X) : oeV X = .tuple #[entryV (tagE X) (atE X) (secE X) (rawE X % 9223372036854775808), .int .i64 0] := by
  have e : okE X = true := by unfold okE; simp [h1, h2, h3]
  unfold oeV; rw [if_pos e]
theorem oeV_bad {X : List UInt8} (h : ¬ (9223372036854775808 ≤ rawE X ∧ tagE X ≤ 4095 ∧ 0 < secE X)) : oeV X = .tuple #[entryV 0 0 0 0, .int .i64 40] := by
  have e : okE X = false := by
    unfold okE
    cases hh : (decide (9223372036854775808 ≤ rawE X) && (decide (tagE X ≤ 4095) && decide (0 < secE X))) with
    | false => rfl
    | true => simp at hh; exact absurd ⟨hh.1, hh.2.1, hh.2.2⟩ h
  unfold oeV; rw [e]; rfl
def OEPost (X : List UInt8) (w : World) (e : Ending) (w' : World) : Prop := e = .returned (oeV X) ∧ Spares nowhere w w'
theorem fieldE_lt (X : List UInt8) (h : X.length = 16) : atE X < 4294967296 ∧ secE X < 65536 ∧ tagE X < 65536 ∧ rawE X < 18446744073709551616 := by
  have e4 : 256 ^ 4 = 4294967296 := by decide
  have e2 : 256 ^ 2 = 65536 := by decide
  have e8 : 256 ^ 8 = 18446744073709551616 := by decide
  have h1 := ofBE_lt (X.take 4)
  have h2 := ofBE_lt ((X.drop 4).take 2)
  have h3 := ofBE_lt (((X.drop 4).drop 2).take 2)
  have h4 := ofBE_lt ((((X.drop 4).drop 2).drop 2).take 8)
  simp only [List.length_take, List.length_drop, h] at h1 h2 h3 h4
  refine ⟨?_, ?_, ?_, ?_⟩
  · rw [← e4]; exact h1
  · rw [← e2]; exact h2
  · rw [← e2]; exact h3
  · rw [← e8]; exact h4
theorem entry_stored {v : World} {g : Nat} {a b c d a' b' c' d' : Value} (h : v.heap[g]? = some (.cells #[a, b, c, d] 41 (0, 0))) :
    v.there g 0 (#[a', b', c', d'] : Array Value).size ∧ (v.setCells g 0 [a', b', c', d']).heap[g]? = some (.cells #[a', b', c', d'] 41 (0, 0)) := by
  refine ⟨there_of h 0 _ (by simp), ?_⟩
  have := heap_setCells (g := g) (t := 41) [a', b', c', d'] [] [a, b, c, d] [] v (by simpa using h) rfl
  simpa using this
theorem ones4 (a b c d : Nat) : (#[.int .u16 a, .int .u32 b, .int .u16 c, .int .u64 d] : Array Value).all (·.oneCell') = true := by simp [Value.oneCell']
theorem infoEntry : (Try.prog.info? 41).map (·.size) = some 4 := by kernel_rfl
set_option maxRecDepth 100000 in
set_option maxHeartbeats 2000000 in
theorem openEntry_any (X : List UInt8) (w : World) (hX : X.length = 16) :
    Calls Try.prog 50 #[.agg (bytesV X)] w (OEPost X w) := by
  obtain ⟨f1, f2, f3, f4⟩ := fieldE_lt X hX
  obtain ⟨t1, ht1⟩ : ∃ t, atE X = t := ⟨_, rfl⟩
  obtain ⟨t2, ht2⟩ : ∃ t, secE X = t := ⟨_, rfl⟩
  obtain ⟨t3, ht3⟩ : ∃ t, tagE X = t := ⟨_, rfl⟩
  obtain ⟨t4, ht4⟩ : ∃ t, rawE X = t := ⟨_, rfl⟩
  have HGD : Hid (9223372036854775808 ≤ t4 → t3 ≤ 4095 → 0 < t2 → oeV X = .tuple #[entryV t3 t1 t2 (t4 % 9223372036854775808), .int .i64 0]) := Lib.hid (by rw [← ht1, ← ht2, ← ht3, ← ht4]; exact oeV_good)
  have HBD : Hid (¬ (9223372036854775808 ≤ t4 ∧ t3 ≤ 4095 ∧ 0 < t2) → oeV X = .tuple #[entryV 0 0 0 0, .int .i64 40]) := Lib.hid (by rw [← ht2, ← ht3, ← ht4]; exact oeV_bad)
  rw [ht1] at f1; rw [ht2] at f2; rw [ht3] at f3; rw [ht4] at f4
  have hA := top_and f4
  have hN := top_andNot f4
  have H1 := Lib.hid ht1
  have H2 := Lib.hid ht2
  have H3 := Lib.hid ht3
  have H4 := Lib.hid ht4
  have w1 : IntKind.u32.wrap (t1 : Int) = (t1 : Int) := by rw [IntKind.wrap_u32]; omega
  have w2 : IntKind.u16.wrap (t2 : Int) = (t2 : Int) := by rw [IntKind.wrap_u16]; omega
  have w3 : IntKind.u16.wrap (t3 : Int) = (t3 : Int) := by rw [IntKind.wrap_u16]; omega
  obtain ⟨v3, hv3⟩ : ∃ v3, ((w.alloc (.cells (bytesV X) 82)).alloc (.cells #[.int .u16 0, .int .u32 0, .int .u16 0, .int .u64 0] 41)).alloc (.cells #[.slice (some ⟨w.heap.size, 0, none⟩) 16 16] 94) = v3 := ⟨_, rfl⟩
  have HV3 := Lib.hid hv3
  have hsz : v3.heap.size = w.heap.size + 3 := by rw [← hv3]; simp
  have hq0 : v3.heap[w.heap.size]? = some (.cells (bytesV X) 82 (0, 0)) := by
    rw [← hv3]
    exact (Below.heap_alloc _ _ _ (by simp; omega)).trans ((Below.heap_alloc _ _ _ (by simp)).trans (heap_alloc_new w _))
  have HR0 : Hid (v3.heap[w.heap.size + 1]? = some (.cells #[.int .u16 0, .int .u32 0, .int .u16 0, .int .u64 0] 41 (0, 0))) := Lib.hid (by
    rw [← hv3]
    refine (Below.heap_alloc _ _ _ (by simp)).trans ?_
    have := heap_alloc_new (w.alloc (.cells (bytesV X) 82)) (.cells #[.int .u16 0, .int .u32 0, .int .u16 0, .int .u64 0] 41)
    simpa using this)
  have HS0 : Hid (Spares nowhere w v3) := Lib.hid (by rw [← hv3]; exact (((Spares.refl _ w).alloc _).alloc _).alloc _)
  have HF0 : Hid (IsFR (w.heap.size + 1 + 1) w.heap.size X v3) := Lib.hid (by
    refine ⟨by omega, by omega, 0, 16, ?_, bytesV_at hq0, by omega⟩
    rw [← hv3, hX]
    have := heap_alloc_new ((w.alloc (.cells (bytesV X) 82)).alloc (.cells #[.int .u16 0, .int .u32 0, .int .u16 0, .int .u64 0] 41)) (.cells #[.slice (some ⟨w.heap.size, 0, none⟩) 16 16] 94)
    simpa using this)
  have HZ := Lib.hid hsz
  have HX := Lib.hid hX
  clear hv3 hsz hq0 ht1 ht2 ht3 ht4
  go_enter Try.func50, Try.ntmps50
  go_wp2_with fail
  change Calls _ _ _ (((w.alloc (.cells (bytesV X) 82)).alloc (.cells #[.int .u16 0, .int .u32 0, .int .u16 0, .int .u64 0] 41)).alloc (.cells #[.slice (some ⟨w.heap.size, 0, none⟩) 16 16] 94)) _
  rw [HV3.out]
  refine (frNum_any _ _ X 4 v3 HF0.out (by omega) (by omega) (by omega)).mono ?_
  rintro e v4 ⟨rfl, hf4, hs4⟩
  rw [show ofBE (X.take 4) = t1 from H1.out]
  have HF4 := Lib.hid hf4
  have HS4 := Lib.hid hs4
  clear hf4 hs4 HF0
  go_wp2_with fail
  refine (frNum_any _ _ _ 2 v4 HF4.out (by simp; omega) (by omega) (by simp; omega)).mono ?_
  rintro e v5 ⟨rfl, hf5, hs5⟩
  rw [show ofBE ((X.drop 4).take 2) = t2 from H2.out]
  have HF5 := Lib.hid hf5
  have HS5 := Lib.hid (HS4.out.trans hs5)
  clear hf5 hs5 HF4 HS4
  go_wp2_with fail
  refine (frNum_any _ _ _ 2 v5 HF5.out (by simp; omega) (by omega) (by simp; omega)).mono ?_
  rintro e v6 ⟨rfl, hf6, hs6⟩
  rw [show ofBE (((X.drop 4).drop 2).take 2) = t3 from H3.out]
  obtain ⟨g, hg⟩ : ∃ g, v6.heap.size = g := ⟨_, rfl⟩
  have hg3 : w.heap.size + 3 ≤ g := by rw [← hg, ← HZ.out]; exact Nat.le_trans HS5.out.size hs6.size
  obtain ⟨v7, hv7⟩ : ∃ v7, v6.alloc (.cells #[.int .u16 t3, .int .u32 t1, .int .u16 t2, .int .u64 0] 41) = v7 := ⟨_, rfl⟩
  have HV7 := Lib.hid hv7
  have HF7 : Hid (IsFR (w.heap.size + 1 + 1) w.heap.size (((X.drop 4).drop 2).drop 2) v7) := Lib.hid (by rw [← hv7]; exact hf6.spares (F := nowhere) ((Spares.refl _ _).alloc _) (fun h => h) (fun h => h))
  have HS7 : Hid (Spares (fun x => x = w.heap.size + 1 + 1) v3 v7) := Lib.hid (by rw [← hv7]; exact (HS5.out.trans hs6).alloc _)
  have HG7 : Hid (v7.heap[g]? = some (.cells #[.int .u16 t3, .int .u32 t1, .int .u16 t2, .int .u64 0] 41 (0, 0))) := Lib.hid (by rw [← hv7, ← hg]; exact heap_alloc_new v6 _)
  have HGG := Lib.hid hg
  clear hf6 hs6 HF5 HS5 hv7
  go_wp2_with fail
  change Calls _ _ _ (v6.alloc (.cells #[.int .u16 t3, .int .u32 t1, .int .u16 t2, .int .u64 0] 41)) _
  rw [HV7.out]
  refine (frNum_any _ _ _ 8 v7 HF7.out (by simp; omega) (by omega) (by simp; omega)).mono ?_
  rintro e v8 ⟨rfl, hf8, hs8⟩
  rw [show ofBE ((((X.drop 4).drop 2).drop 2).take 8) = t4 from H4.out]
  have hs83 := HS7.out.trans hs8
  have hg8 := hs8.heap HG7.out (fun h => by omega)
  have hr8 := hs83.heap HR0.out (fun h => by omega)
  have c0 : v8.cell? ⟨g, 0, none⟩ = some (.int .u16 t3) := by rw [Lib.cell_of_heap hg8]; rfl
  have c1 : v8.cell? ⟨g, 1, none⟩ = some (.int .u32 t1) := by rw [Lib.cell_of_heap hg8]; rfl
  have c2 : v8.cell? ⟨g, 2, none⟩ = some (.int .u16 t2) := by rw [Lib.cell_of_heap hg8]; rfl
  have c3 : v8.cell? ⟨g, 3, none⟩ = some (.int .u64 0) := by rw [Lib.cell_of_heap hg8]; rfl
  have z3 : v8.frozen? ⟨g, 3, none⟩ = false := Lib.frozen_of_heap hg8 3
  have HS8 := Lib.hid (HS0.out.trans' hs83 (fun b hb => .inr (by omega)))
  have HG8 := Lib.hid hg8
  have HR8 := Lib.hid hr8
  clear hf8 hs8 hs83 hg8 hr8 HF7 HS7 HG7 HGG hg
  by_cases p1 : 9223372036854775808 ≤ t4 ∧ t3 ≤ 4095 ∧ 0 < t2
  · have hV := HGD.out p1.1 p1.2.1 p1.2.2
    rw [if_pos p1.1] at hA
    obtain ⟨t5, ht5⟩ : ∃ t5, t4 % 9223372036854775808 = t5 := ⟨_, rfl⟩
    rw [ht5] at hN hV
    have HV := Lib.hid hV
    have i3 : ¬ (4095 : Int) < (t3 : Int) := by omega
    have i2 : ¬ ((t2 : Int) = 0) := by omega
    have i2b : ((t2 : Int) == 0) = false := by simpa using i2
    have i3b : decide ((4095 : Int) < (t3 : Int)) = false := decide_eq_false i3
    have hg9 : (v8.setCell ⟨g, 3, none⟩ (.int .u64 t5)).heap[g]? = some (.cells #[.int .u16 t3, .int .u32 t1, .int .u16 t2, .int .u64 t5] 41 (0, 0)) := heap_set HG8.out 3 _
    have hs9 : Spares (fun b => b = g) v8 (v8.setCell ⟨g, 3, none⟩ (.int .u64 t5)) := Spares.setCell (F := fun b => b = g) (Spares.refl _ v8) (p := ⟨g, 3, none⟩) (.inl rfl) _
    obtain ⟨v9, hv9⟩ : ∃ v9, v8.setCell ⟨g, 3, none⟩ (.int .u64 t5) = v9 := ⟨_, rfl⟩
    have HV9 := Lib.hid hv9
    rw [hv9] at hg9 hs9
    have hst := entry_stored (a' := .int .u16 t3) (b' := .int .u32 t1) (c' := .int .u16 t2) (d' := .int .u64 t5) (hs9.heap HR8.out (fun h => by omega))
    have HG9 := Lib.hid hg9
    have HT := Lib.hid hst.1
    have HQ := Lib.hid hst.2
    have HS9 := Lib.hid (HS8.out.trans' hs9 (fun b hb => .inr (by omega)))
    have HI := Lib.hid infoEntry
    clear hV ht5 i3 i2 p1 hv9 hg9 hs9 hst HG8 HR8
    go_wp2_with (first
      | ((with_reducible show wpList _ _ _ (⟨some 34, .load 41 _, _, _, _, _⟩ :: _) _ _); change wpList _ _ _ _ _ (v8.setCell ⟨g, 3, none⟩ (.int .u64 t5)); rw [HV9.out]; refine wpList_load_row rfl 41 (.tmp 5) rfl g rfl 41 _ (0, 0) _ HG9.out Try.underlying41 rfl HI.out ?_)
      | ((with_reducible show wpList _ _ _ (⟨none, .store 41 _ _, _, _, _, _⟩ :: _) _ _); refine wpList_store_mid rfl 41 (.tmp 2) (.tmp 34) rfl (w.heap.size + 1) 0 #[.int .u16 t3, .int .u32 t1, .int .u16 t2, .int .u64 t5] rfl rfl HT.out HI.out (ones4 _ _ _ _) ?_))
    exact bodyPost_ret (v := .tuple #[.agg #[.int .u16 t3, .int .u32 t1, .int .u16 t2, .int .u64 t5], .int .i64 0]) (results_cell_two rfl _ _ (w.heap.size + 1) 41 #[.int .u16 t3, .int .u32 t1, .int .u16 t2, .int .u64 t5] (0, 0) _ (.int .i64 0) rfl rfl HQ.out Try.underlying41 (by rfl) HI.out) rfl ⟨by rw [HV.out]; rfl, HS9.out.trans' (F' := fun b => b = w.heap.size + 1) (spares_setCells _ _ _ (Spares.refl _ _)) (fun b hb => .inr (by omega))⟩
  · have hV := HBD.out p1
    have HV := Lib.hid hV
    have hst := entry_stored (a' := .int .u16 (0 : Nat)) (b' := .int .u32 (0 : Nat)) (c' := .int .u16 (0 : Nat)) (d' := .int .u64 (0 : Nat)) HR8.out
    have HT := Lib.hid hst.1
    have HQ := Lib.hid hst.2
    have HI := Lib.hid infoEntry
    clear hV hst HG8
    by_cases q4 : 9223372036854775808 ≤ t4
    · rw [if_pos q4] at hA
      by_cases q3 : t3 ≤ 4095
      · have i2 : (t2 : Int) = 0 := by omega
        have i2b : ((t2 : Int) == 0) = true := by simpa using i2
        have i3 : ¬ (4095 : Int) < (t3 : Int) := by omega
        have i3b : decide ((4095 : Int) < (t3 : Int)) = false := decide_eq_false i3
        clear p1 q4 q3
        go_wp2_with ((with_reducible show wpList _ _ _ (⟨none, .store 41 _ _, _, _, _, _⟩ :: _) _ _); refine wpList_store_mid rfl 41 (.tmp 2) (.tmp 30) rfl (w.heap.size + 1) 0 #[.int .u16 (0 : Nat), .int .u32 (0 : Nat), .int .u16 (0 : Nat), .int .u64 (0 : Nat)] rfl rfl HT.out HI.out (ones4 _ _ _ _) ?_)
        exact bodyPost_ret (v := .tuple #[.agg #[.int .u16 (0 : Nat), .int .u32 (0 : Nat), .int .u16 (0 : Nat), .int .u64 (0 : Nat)], .int .i64 40]) (results_cell_two rfl _ _ (w.heap.size + 1) 41 #[.int .u16 (0 : Nat), .int .u32 (0 : Nat), .int .u16 (0 : Nat), .int .u64 (0 : Nat)] (0, 0) _ (.int .i64 40) rfl rfl HQ.out Try.underlying41 (by rfl) HI.out) rfl ⟨by rw [HV.out]; rfl, HS8.out.trans' (F' := fun b => b = w.heap.size + 1) (spares_setCells _ _ _ (Spares.refl _ _)) (fun b hb => .inr (by omega))⟩
      · have i3 : (4095 : Int) < (t3 : Int) := by omega
        have i3b : decide ((4095 : Int) < (t3 : Int)) = true := decide_eq_true i3
        clear p1 q4 q3
        go_wp2_with ((with_reducible show wpList _ _ _ (⟨none, .store 41 _ _, _, _, _, _⟩ :: _) _ _); refine wpList_store_mid rfl 41 (.tmp 2) (.tmp 30) rfl (w.heap.size + 1) 0 #[.int .u16 (0 : Nat), .int .u32 (0 : Nat), .int .u16 (0 : Nat), .int .u64 (0 : Nat)] rfl rfl HT.out HI.out (ones4 _ _ _ _) ?_)
        exact bodyPost_ret (v := .tuple #[.agg #[.int .u16 (0 : Nat), .int .u32 (0 : Nat), .int .u16 (0 : Nat), .int .u64 (0 : Nat)], .int .i64 40]) (results_cell_two rfl _ _ (w.heap.size + 1) 41 #[.int .u16 (0 : Nat), .int .u32 (0 : Nat), .int .u16 (0 : Nat), .int .u64 (0 : Nat)] (0, 0) _ (.int .i64 40) rfl rfl HQ.out Try.underlying41 (by rfl) HI.out) rfl ⟨by rw [HV.out]; rfl, HS8.out.trans' (F' := fun b => b = w.heap.size + 1) (spares_setCells _ _ _ (Spares.refl _ _)) (fun b hb => .inr (by omega))⟩
    · rw [if_neg q4] at hA
      clear p1 q4
      go_wp2_with ((with_reducible show wpList _ _ _ (⟨none, .store 41 _ _, _, _, _, _⟩ :: _) _ _); refine wpList_store_mid rfl 41 (.tmp 2) (.tmp 30) rfl (w.heap.size + 1) 0 #[.int .u16 (0 : Nat), .int .u32 (0 : Nat), .int .u16 (0 : Nat), .int .u64 (0 : Nat)] rfl rfl HT.out HI.out (ones4 _ _ _ _) ?_)
      exact bodyPost_ret (v := .tuple #[.agg #[.int .u16 (0 : Nat), .int .u32 (0 : Nat), .int .u16 (0 : Nat), .int .u64 (0 : Nat)], .int .i64 40]) (results_cell_two rfl _ _ (w.heap.size + 1) 41 #[.int .u16 (0 : Nat), .int .u32 (0 : Nat), .int .u16 (0 : Nat), .int .u64 (0 : Nat)] (0, 0) _ (.int .i64 40) rfl rfl HQ.out Try.underlying41 (by rfl) HI.out) rfl ⟨by rw [HV.out]; rfl, HS8.out.trans' (F' := fun b => b = w.heap.size + 1) (spares_setCells _ _ _ (Spares.refl _ _)) (fun b hb => .inr (by omega))⟩
end Go.Proofs.Ytihbjkdgfflnfaa
namespace Go.Proofs.Ytihbjkdgfflnfaa
open Go.RowKit

structure Ent where
  tag : Nat
  at_ : Nat
  sec : Nat
  turn : Nat
def Ent.zero : Ent := ⟨0, 0, 0, 0⟩
def Ent.ok (e : Ent) : Prop := e.tag < 65536 ∧ e.at_ < 4294967296 ∧ e.sec < 65536 ∧ e.turn < 18446744073709551616
theorem Ent.zero_ok : Ent.zero.ok := ⟨by decide, by decide, by decide, by decide⟩
def entV (e : Ent) : Value := .agg #[.int .u16 e.tag, .int .u32 e.at_, .int .u16 e.sec, .int .u64 e.turn]
def entCells (e : Ent) : List Value := [.int .u16 e.tag, .int .u32 e.at_, .int .u16 e.sec, .int .u64 e.turn]
def rowCells (l : List Ent) : List Value := l.flatMap entCells
theorem rowCells_len (l : List Ent) : (rowCells l).length = l.length * 4 := by
  unfold rowCells; induction l with
  | nil => rfl
  | cons e l ih => rw [List.flatMap_cons, List.length_append, ih, List.length_cons]; simp [entCells]; omega
theorem rowCells_app (a b : List Ent) : rowCells (a ++ b) = rowCells a ++ rowCells b := by simp [rowCells]
theorem rowCells_one (l : List Ent) : ∀ u ∈ rowCells l, u.oneCell' = true := by
  intro u hu
  obtain ⟨e, _, hu⟩ := List.mem_flatMap.1 hu
  simp only [entCells, List.mem_cons, List.not_mem_nil, or_false] at hu
  rcases hu with rfl | rfl | rfl | rfl <;> rfl
theorem rowCells_at : ∀ (l : List Ent) (k : Nat) (h : k < l.length) (j : Nat), j < 4 → (rowCells l)[k * 4 + j]? = (entCells l[k])[j]?
  | [], _, h, _, _ => absurd h (Nat.not_lt_zero _)
  | x :: l, 0, _, j, hj => by
    simp only [rowCells, List.flatMap_cons, Nat.zero_mul, Nat.zero_add, List.getElem_cons_zero]
    rw [List.getElem?_append_left (by simpa [entCells] using hj)]
  | x :: l, k + 1, h, j, hj => by
    have ih := rowCells_at l k (by simpa using h) j hj
    have e : rowCells (x :: l) = entCells x ++ rowCells l := rfl
    rw [e, List.getElem?_append_right (by simp [entCells]; omega), List.getElem_cons_succ, ← ih]
    congr 1
    simp [entCells]; omega

/-- A key's bucket and tag. -/
def bktF (K : List UInt8) (n : Nat) : Nat := ofBE (K.take 4) % n
def tagF (K : List UInt8) : Nat := ofBE ((K.drop 4).take 2) % 4096
theorem tagF_lt (K : List UInt8) : tagF K < 4096 := Nat.mod_lt _ (by omega)
theorem bktF_lt (K : List UInt8) (n : Nat) (h : 0 < n) : bktF K n < n := Nat.mod_lt _ h

/-- What a walk from the last entry on collects, k of them left. -/
def probeK (t : Nat) (l : List Ent) : Nat → List Ent
  | 0 => []
  | k + 1 => match l[k]? with
    | some e => if e.tag = t then e :: probeK t l k else probeK t l k
    | none => []
def probeF (t : Nat) (l : List Ent) : List Ent := probeK t l l.length
theorem probeK_hit {t : Nat} {l : List Ent} {k : Nat} (h : k < l.length) (ht : l[k].tag = t) : probeK t l (k + 1) = l[k] :: probeK t l k := by
  simp [probeK, List.getElem?_eq_getElem h, ht]
theorem probeK_miss {t : Nat} {l : List Ent} {k : Nat} (h : k < l.length) (ht : l[k].tag ≠ t) : probeK t l (k + 1) = probeK t l k := by
  simp [probeK, List.getElem?_eq_getElem h, ht]
theorem probeK_len (t : Nat) (l : List Ent) : ∀ k, (probeK t l k).length ≤ k
  | 0 => by simp [probeK]
  | k + 1 => by
    have := probeK_len t l k
    unfold probeK
    split
    · split <;> simp <;> omega
    · simp
theorem probeF_len (t : Nat) (l : List Ent) : (probeF t l).length ≤ l.length := probeK_len t l l.length
theorem probeK_mem (t : Nat) (l : List Ent) : ∀ k e, e ∈ probeK t l k → e ∈ l
  | 0, e, h => by simp [probeK] at h
  | k + 1, e, h => by
    unfold probeK at h
    split at h
    · rename_i x hx
      split at h
      · rcases List.mem_cons.1 h with rfl | h
        · exact List.mem_of_getElem? hx
        · exact probeK_mem t l k e h
      · exact probeK_mem t l k e h
    · simp at h

/-- The last place of an entry of that tag at that place. -/
def hitK (t a : Nat) (l : List Ent) : Nat → Option Nat
  | 0 => none
  | k + 1 => match l[k]? with
    | some e => if e.tag = t ∧ e.at_ = a then some k else hitK t a l k
    | none => none
def hitF (t a : Nat) (l : List Ent) : Option Nat := hitK t a l l.length
theorem hitK_hit {t a : Nat} {l : List Ent} {k : Nat} (h : k < l.length) (ht : l[k].tag = t ∧ l[k].at_ = a) : hitK t a l (k + 1) = some k := by
  simp [hitK, List.getElem?_eq_getElem h, ht]
theorem hitK_miss {t a : Nat} {l : List Ent} {k : Nat} (h : k < l.length) (ht : ¬ (l[k].tag = t ∧ l[k].at_ = a)) : hitK t a l (k + 1) = hitK t a l k := by
  simp only [hitK, List.getElem?_eq_getElem h, if_neg ht]
theorem hitK_lt (t a : Nat) (l : List Ent) : ∀ k i, hitK t a l k = some i → i < k ∧ i < l.length
  | 0, i, h => by simp [hitK] at h
  | k + 1, i, h => by
    unfold hitK at h
    split at h
    · rename_i x hx
      split at h
      · injection h with h; subst h
        exact ⟨by omega, (List.getElem?_eq_some_iff.1 hx).1⟩
      · have := hitK_lt t a l k i h; omega
    · simp at h
def delF (t a : Nat) (l : List Ent) : List Ent := match hitF t a l with
  | some i => l.eraseIdx i
  | none => l

/-- What a sweep takes. -/
def goneF (f t turn : Nat) (e : Ent) : Bool := decide (f < t) && (decide (e.at_ < t) && (decide (f < e.at_ + e.sec) && decide (e.turn < turn)))
def leftF (f t turn : Nat) (l : List Ent) : List Ent := l.filter fun e => !goneF f t turn e

/-- A directory's bucket with another row in its place. -/
def atRow (E : List (List Ent)) (b : Nat) : List Ent := E.getD b []
def addF (E : List (List Ent)) (b : Nat) (e : Ent) : List (List Ent) := E.set b (atRow E b ++ [e])
def lenF (E : List (List Ent)) : Nat := (E.map List.length).sum
theorem lenF_take {E : List (List Ent)} {i : Nat} (h : i < E.length) : lenF (E.take (i + 1)) = lenF (E.take i) + E[i].length := by
  unfold lenF; rw [List.take_succ_eq_append_getElem h, List.map_append, List.sum_append]; simp only [List.map_cons, List.map_nil, List.sum_cons, List.sum_nil, Nat.add_zero]
theorem lenF_le (E : List (List Ent)) (s : Nat) (h : ∀ r ∈ E, r.length ≤ s) : lenF E ≤ E.length * s := by
  unfold lenF
  induction E with
  | nil => simp
  | cons x E ih =>
    have h1 := h x (by simp)
    have h2 := ih fun r hr => h r (by simp [hr])
    simp only [List.map_cons, List.sum_cons, List.length_cons, Nat.add_mul, Nat.one_mul]
    omega
end Go.Proofs.Ytihbjkdgfflnfaa
namespace Go.Proofs.Ytihbjkdgfflnfaa
open Go.RowKit

/-- Block b has room for N cells. -/
def HasRoom (w : World) (b N : Nat) : Prop := ∃ cur t, w.heap[b]? = some (.cells cur t (0, 0)) ∧ N ≤ cur.size
theorem HasRoom.set {w : World} {b N : Nat} (h : HasRoom w b N) (p : Addr) (v : Value) : HasRoom (w.setCell p v) b N := by
  obtain ⟨cur, t, hg, hn⟩ := h
  by_cases hb : b = p.block
  · refine ⟨if p.spot.isSome then cur else cur.setIfInBounds p.off v, t, ?_, ?_⟩
    · rw [hb] at hg
      simp [World.setCell, Array.getElem?_modify, hb, hg]
    · split <;> simpa using hn
  · exact ⟨cur, t, by rw [Below.heap_setCell w p v b hb]; exact hg, hn⟩
theorem HasRoom.sets {b N g : Nat} : ∀ (vs : List Value) (o : Nat) {w : World}, HasRoom w b N → HasRoom (w.setCells g o vs) b N
  | [], _, _, h => h
  | v :: vs, o, _, h => HasRoom.sets vs (o + 1) (h.set ⟨g, o, none⟩ v)
theorem HasRoom.spares {F : Nat → Prop} {w w' : World} {b N : Nat} (h : HasRoom w b N) (hs : Spares F w w') (hn : ¬ F b) : HasRoom w' b N := by
  obtain ⟨cur, t, hg, hl⟩ := h
  exact ⟨cur, t, hs.heap hg hn, hl⟩
theorem HasRoom.lt {w : World} {b N : Nat} (h : HasRoom w b N) : b < w.heap.size := by
  obtain ⟨_, _, hg, _⟩ := h
  exact (Array.getElem?_eq_some_iff.1 hg).1
theorem HasRoom.cell {w : World} {b N : Nat} (h : HasRoom w b N) (i : Nat) (hi : i < N) : (w.cell? ⟨b, i, none⟩).isSome = true ∧ w.frozen? ⟨b, i, none⟩ = false := by
  obtain ⟨cur, t, hg, hn⟩ := h
  exact ⟨by rw [Lib.cell_of_heap hg, Array.getElem?_eq_getElem (by omega)]; rfl, Lib.frozen_of_heap hg i⟩
theorem spares_cells {g : Nat} {w : World} : ∀ (vs : List Value) (o : Nat) {w' : World}, Spares (fun b => b = g) w w' → Spares (fun b => b = g) w (w'.setCells g o vs)
  | [], _, _, h => h
  | v :: vs, o, _, h => spares_cells vs (o + 1) (h.setCell (p := ⟨g, o, none⟩) (.inl rfl) v)

/-- Where a row lies, and how much room it has. -/
structure Row where
  a : Option (Nat × Nat)
  cap : Nat
def Row.ad (r : Row) : Option Addr := r.a.map fun x => ⟨x.1, x.2, none⟩
def Row.apart (r r' : Row) : Prop := ∀ b o b' o', r.a = some (b, o) → r'.a = some (b', o') → b ≠ b' ∨ o + r.cap * 4 ≤ o' ∨ o' + r'.cap * 4 ≤ o
theorem Row.apart_symm {r r' : Row} (h : r.apart r') : r'.apart r := fun b o b' o' h1 h2 => by
  rcases h b' o' b o h2 h1 with h | h | h
  · exact .inl fun e => h e.symm
  · exact .inr (.inr h)
  · exact .inr (.inl h)
structure RowAt (F : Nat → Prop) (w : World) (r : Row) (l : List Ent) : Prop where
  le : l.length ≤ r.cap
  nil : r.a = none → r.cap = 0
  room : ∀ b off, r.a = some (b, off) → F b ∧ HasRoom w b (off + r.cap * 4)
  ents : ∀ b off, r.a = some (b, off) → ∀ k (h : k < l.length) j, j < 4 → w.cell? ⟨b, off + k * 4 + j, none⟩ = (entCells l[k])[j]?
theorem RowAt.mono {F F' : Nat → Prop} {w : World} {r : Row} {l : List Ent} (h : RowAt F w r l) (hF : ∀ b, F b → F' b) : RowAt F' w r l :=
  ⟨h.le, h.nil, fun b off e => ⟨hF b (h.room b off e).1, (h.room b off e).2⟩, h.ents⟩
theorem RowAt.spares {F G : Nat → Prop} {w w' : World} {r : Row} {l : List Ent} (h : RowAt F w r l) (hs : Spares G w w') (hn : ∀ b off, r.a = some (b, off) → ¬ G b) : RowAt F w' r l :=
  ⟨h.le, h.nil, fun b off e => ⟨(h.room b off e).1, (h.room b off e).2.spares hs (hn b off e)⟩, fun b off e k hk j hj => by
    rw [hs.cell (p := ⟨b, off + k * 4 + j, none⟩) (h.room b off e).2.lt (hn b off e)]
    exact h.ents b off e k hk j hj⟩
theorem RowAt.sets {F : Nat → Prop} {w : World} {r : Row} {l : List Ent} (h : RowAt F w r l) (g o : Nat) (vs : List Value) (hn : ∀ b off, r.a = some (b, off) → b ≠ g ∨ off + r.cap * 4 ≤ o ∨ o + vs.length ≤ off) : RowAt F (w.setCells g o vs) r l :=
  ⟨h.le, h.nil, fun b off e => ⟨(h.room b off e).1, (h.room b off e).2.sets vs o⟩, fun b off e k hk j hj => by
    rw [World.cell?_setCells_out g vs o w ⟨b, off + k * 4 + j, none⟩ (fun e1 _ => by
      have := h.le
      rcases hn b off e with h1 | h1 | h1
      · exact absurd e1 h1
      · left; simp only; omega
      · right; simp only; omega)]
    exact h.ents b off e k hk j hj⟩
/-- Entries stored into a row's own room, over its entries from k0 on. -/
theorem RowAt.store {F : Nat → Prop} {w : World} {r : Row} {l : List Ent} (h : RowAt F w r l) {b off k0 : Nat} (hb : r.a = some (b, off)) (xs : List Ent) (hk : k0 ≤ l.length) (hx : k0 + xs.length ≤ r.cap) :
    RowAt F (w.setCells b (off + k0 * 4) (rowCells xs)) r (l.take k0 ++ xs) := by
  refine ⟨by rw [List.length_append, List.length_take]; omega, h.nil, fun b' off' e => ⟨(h.room b' off' e).1, (h.room b' off' e).2.sets _ _⟩, fun b' off' e k hk' j hj => ?_⟩
  rw [hb] at e
  injection e with e
  injection e with e1 e2
  subst e1; subst e2
  have hl : (l.take k0).length = k0 := by rw [List.length_take]; omega
  have hlen := rowCells_len xs
  rcases Nat.lt_or_ge k k0 with hlt | hge
  · rw [World.cell?_setCells_out b _ _ w ⟨b, off + k * 4 + j, none⟩ (fun _ _ => by left; simp only; omega)]
    rw [h.ents b off hb k (by omega) j hj, List.getElem_append_left (by omega), List.getElem_take]
  · have hkx : k - k0 < xs.length := by rw [List.length_append, hl] at hk'; omega
    have h1 := World.cell?_setCells_in b (rowCells xs) (off + k0 * 4) w (fun j hj => ((h.room b off hb).2.cell _ (by rw [hlen] at hj; have := Nat.mul_le_mul_right 4 hx; rw [Nat.add_mul] at this; omega)).1) ((k - k0) * 4 + j) (by rw [hlen]; omega)
    rw [show off + k0 * 4 + ((k - k0) * 4 + j) = off + k * 4 + j by omega] at h1
    rw [h1, ← List.getElem?_eq_getElem, rowCells_at xs (k - k0) hkx j hj, List.getElem_append_right (by omega)]
    simp only [hl]

structure IsRows (F : Nat → Prop) (bk n : Nat) (R : Nat → Row) (E : List (List Ent)) (w : World) : Prop where
  len : E.length = n
  blk : ∃ cur, w.heap[bk]? = some (.cells cur 38 (0, 0)) ∧ cur.size = n ∧ ∀ i (h : i < E.length), cur[i]? = some (.slice (R i).ad E[i].length (R i).cap)
  inF : F bk
  row : ∀ i (h : i < E.length), RowAt F w (R i) E[i]
  off : ∀ i, i < n → ∀ b o, (R i).a = some (b, o) → b ≠ bk
  apart : ∀ i j, i < n → j < n → i ≠ j → (R i).apart (R j)
  ok : ∀ r ∈ E, ∀ e ∈ r, e.ok
theorem IsRows.lt {F : Nat → Prop} {bk n : Nat} {R : Nat → Row} {E : List (List Ent)} {w : World} (h : IsRows F bk n R E w) : bk < w.heap.size := by
  obtain ⟨_, hg, _⟩ := h.blk
  exact (Array.getElem?_eq_some_iff.1 hg).1
theorem IsRows.spares {F G : Nat → Prop} {bk n : Nat} {R : Nat → Row} {E : List (List Ent)} {w w' : World} (h : IsRows F bk n R E w) (hs : Spares G w w') (hn : ∀ b, F b → b < w.heap.size → ¬ G b) : IsRows F bk n R E w' := by
  obtain ⟨cur, hg, hc, hv⟩ := h.blk
  refine ⟨h.len, ⟨cur, hs.heap hg (hn _ h.inF h.lt), hc, hv⟩, h.inF, fun i hi => (h.row i hi).spares hs fun b off e => ?_, h.off, h.apart, h.ok⟩
  have := (h.row i hi).room b off e
  exact hn b this.1 this.2.lt
theorem IsRows.cell {F : Nat → Prop} {bk n : Nat} {R : Nat → Row} {E : List (List Ent)} {w : World} (h : IsRows F bk n R E w) (i : Nat) (hi : i < E.length) : w.cell? ⟨bk, i, none⟩ = some (.slice (R i).ad E[i].length (R i).cap) ∧ w.frozen? ⟨bk, i, none⟩ = false := by
  obtain ⟨cur, hg, _, hv⟩ := h.blk
  exact ⟨by rw [Lib.cell_of_heap hg]; exact hv i hi, Lib.frozen_of_heap hg i⟩
/-- One row turned: the others stand, and its slice is stored. -/
theorem IsRows.put {F F' : Nat → Prop} {bk n : Nat} {R : Nat → Row} {E : List (List Ent)} {w w1 : World} (h : IsRows F bk n R E w) {i : Nat} (hi : i < n) (hF : ∀ b, F b → F' b) (hblk : w1.heap[bk]? = w.heap[bk]?)
    (hrest : ∀ j (hj : j < E.length), j ≠ i → RowAt F' w1 (R j) E[j]) (r' : Row) (l' : List Ent) (hr : RowAt F' w1 r' l') (hap : ∀ j, j < n → j ≠ i → r'.apart (R j)) (hoff : ∀ b o, r'.a = some (b, o) → b ≠ bk) (hok : ∀ e ∈ l', e.ok) :
    IsRows F' bk n (fun j => if j = i then r' else R j) (E.set i l') (w1.setCell ⟨bk, i, none⟩ (.slice r'.ad l'.length r'.cap)) := by
  obtain ⟨cur, hg, hc, hv⟩ := h.blk
  rw [← hblk] at hg
  have hs : Spares (fun b => b = bk) w1 (w1.setCell ⟨bk, i, none⟩ (.slice r'.ad l'.length r'.cap)) := (Spares.refl (fun b => b = bk) w1).setCell (p := ⟨bk, i, none⟩) (.inl rfl) _
  have hlen := h.len
  refine ⟨by rw [List.length_set]; exact hlen, ⟨cur.setIfInBounds i (.slice r'.ad l'.length r'.cap), by simp [World.setCell, Array.getElem?_modify, hg], by simpa using hc, fun j hj => ?_⟩, hF _ h.inF, fun j hj => ?_, fun j hj b o e => ?_, fun j k hj hk hne => ?_, fun r hr' e he => ?_⟩
  · rw [List.length_set] at hj
    by_cases e : j = i
    · subst e
      simp only [if_true, List.getElem_set_self]
      rw [Array.getElem?_setIfInBounds]; simp [hc, hi]
    · rw [Array.getElem?_setIfInBounds, if_neg (fun h => e h.symm)]
      simp only [if_neg e]
      rw [List.getElem_set_ne (fun h => e h.symm)]
      exact hv j hj
  · rw [List.length_set] at hj
    by_cases e : j = i
    · subst e
      simp only [if_true, List.getElem_set_self]
      exact hr.spares hs fun b o e => hoff b o e
    · simp only [if_neg e]
      rw [List.getElem_set_ne (fun h => e h.symm)]
      exact (hrest j hj e).spares hs fun b o e => h.off j (by omega) b o e
  · by_cases e' : j = i
    · simp only [if_pos e'] at e; exact hoff b o e
    · simp only [if_neg e'] at e; exact h.off j hj b o e
  · by_cases e1 : j = i
    · have e2 : k ≠ i := fun e => hne (e1.trans e.symm)
      simp only [if_pos e1, if_neg e2]; exact hap k hk e2
    · by_cases e2 : k = i
      · simp only [if_neg e1, if_pos e2]; exact Row.apart_symm (hap j hj e1)
      · simp only [if_neg e1, if_neg e2]; exact h.apart j k hj hk hne
  · rcases List.mem_or_eq_of_mem_set hr' with hr' | rfl
    · exact h.ok r hr' e he
    · exact hok e he
end Go.Proofs.Ytihbjkdgfflnfaa
namespace Go.Proofs.Ytihbjkdgfflnfaa
open Go.RowKit

/-- The slice that starts at a reads as the entries l. -/
def EntsV (w : World) (a : Option Addr) (l : List Ent) : Prop :=
  ∀ k (h : k < l.length), ∃ b off, a = some ⟨b, off, none⟩ ∧ ∀ j, j < 4 → w.cell? ⟨b, off + k * 4 + j, none⟩ = (entCells l[k])[j]?
theorem EntsV.nil (w : World) (a : Option Addr) : EntsV w a [] := fun _ h => absurd h (Nat.not_lt_zero _)
theorem RowAt.ents_v {F : Nat → Prop} {w : World} {r : Row} {l : List Ent} (h : RowAt F w r l) : EntsV w r.ad l := by
  intro k hk
  have hle := h.le
  cases ha : r.a with
  | none => have := h.nil ha; omega
  | some x => exact ⟨x.1, x.2, by unfold Row.ad; rw [ha]; rfl, h.ents x.1 x.2 ha k hk⟩
theorem Ent.four {x y : Ent} (h1 : x.tag = y.tag) (h2 : x.at_ = y.at_) (h3 : x.sec = y.sec) (h4 : x.turn = y.turn) : x = y := by
  cases x; cases y
  simp only at h1 h2 h3 h4
  subst h1; subst h2; subst h3; subst h4; rfl
def SameE (xs ys : List Ent) (w : World) (e : Ending) (w' : World) : Prop := ∃ r : Bool, e = .returned (.bool r) ∧ (r = true ↔ xs = ys) ∧ ∃ n, w' = w.drewN n
theorem sameE_no {xs ys : List Ent} {w w' : World} {e : Ending} (he : e = .returned (.bool false)) (hne : xs ≠ ys) (hw : ∃ n, w' = w.drewN n) : SameE xs ys w e w' := ⟨false, he, by simp [hne], hw⟩
theorem neq_of {xs ys : List Ent} {k : Nat} (h1 : k < xs.length) (h2 : k < ys.length) (f : Ent → Nat) (h : f xs[k] ≠ f ys[k]) : xs ≠ ys := by
  rintro rfl
  exact h rfl
set_option maxRecDepth 100000 in
set_option maxHeartbeats 4000000 in
theorem entries_any (a b : Option Addr) (c d : Nat) (xs ys : List Ent) (w : World) (hA : EntsV w a xs) (hB : EntsV w b ys) (hx : xs.length ≤ 1000000) (hy : ys.length ≤ 1000000) :
    Calls Try.prog 26 #[.slice a xs.length c, .slice b ys.length d] w (SameE xs ys w) := by
  have HA := Lib.hid hA
  have HB := Lib.hid hB
  clear hA hB
  go_enter Try.func26, Try.ntmps26
  by_cases hl : xs.length = ys.length
  · have i0 : ((xs.length : Int) == (ys.length : Int)) = true := by simp [hl]
    have HL := Lib.hid hl
    obtain ⟨m, hm⟩ : ∃ m, ys.length = m := ⟨_, rfl⟩
    obtain ⟨u, hu⟩ : ∃ u, xs.length = u := ⟨_, rfl⟩
    rw [hm, hu] at i0 ⊢
    rw [hm] at hy
    rw [hu] at hx
    have hum : u = m := by rw [← hm, ← hu, HL.out]
    have HM := Lib.hid hm
    have HU := Lib.hid hu
    clear hm hu hl
    go_wp2
    go_loopw [5] (fun i wr => ∃ k n : Nat, k ≤ u ∧ i = .int .i64 k ∧ Hid (∀ j, j < k → xs[j]? = ys[j]?) ∧ wr = w.drewN n) (fun i _ => u - (intOf i).toNat)
    case atStart => exact ⟨0, 0, by omega, rfl, Lib.hid (fun j h => absurd h (Nat.not_lt_zero _)), rfl⟩
    case round =>
      obtain ⟨k, q, hk, rfl, HJ, rfl⟩ := hrel
      by_cases hlt : k < u
      · have hkx : k < xs.length := by rw [HU.out]; exact hlt
        have hky : k < ys.length := by rw [HM.out]; omega
        have hkm : k < m := by omega
        obtain ⟨ba, oa, rfl, ca⟩ := HA.out k hkx
        obtain ⟨bb, ob, rfl, cb⟩ := HB.out k hky
        have a0 : w.cell? ⟨ba, oa + k * 4, none⟩ = some (.int .u16 xs[k].tag) := ca 0 (by omega)
        have a1 : w.cell? ⟨ba, oa + k * 4 + 1, none⟩ = some (.int .u32 xs[k].at_) := ca 1 (by omega)
        have a2 : w.cell? ⟨ba, oa + k * 4 + 2, none⟩ = some (.int .u16 xs[k].sec) := ca 2 (by omega)
        have a3 : w.cell? ⟨ba, oa + k * 4 + 3, none⟩ = some (.int .u64 xs[k].turn) := ca 3 (by omega)
        have b0 : w.cell? ⟨bb, ob + k * 4, none⟩ = some (.int .u16 ys[k].tag) := cb 0 (by omega)
        have b1 : w.cell? ⟨bb, ob + k * 4 + 1, none⟩ = some (.int .u32 ys[k].at_) := cb 1 (by omega)
        have b2 : w.cell? ⟨bb, ob + k * 4 + 2, none⟩ = some (.int .u16 ys[k].sec) := cb 2 (by omega)
        have b3 : w.cell? ⟨bb, ob + k * 4 + 3, none⟩ = some (.int .u64 ys[k].turn) := cb 3 (by omega)
        clear ca cb
        obtain ⟨x0, hx0⟩ : ∃ x0, xs[k].tag = x0 := ⟨_, rfl⟩
        obtain ⟨x1, hx1⟩ : ∃ x1, xs[k].at_ = x1 := ⟨_, rfl⟩
        obtain ⟨x2, hx2⟩ : ∃ x2, xs[k].sec = x2 := ⟨_, rfl⟩
        obtain ⟨x3, hx3⟩ : ∃ x3, xs[k].turn = x3 := ⟨_, rfl⟩
        obtain ⟨y0, hy0⟩ : ∃ y0, ys[k].tag = y0 := ⟨_, rfl⟩
        obtain ⟨y1, hy1⟩ : ∃ y1, ys[k].at_ = y1 := ⟨_, rfl⟩
        obtain ⟨y2, hy2⟩ : ∃ y2, ys[k].sec = y2 := ⟨_, rfl⟩
        obtain ⟨y3, hy3⟩ : ∃ y3, ys[k].turn = y3 := ⟨_, rfl⟩
        rw [hx0] at a0; rw [hx1] at a1; rw [hx2] at a2; rw [hx3] at a3
        rw [hy0] at b0; rw [hy1] at b1; rw [hy2] at b2; rw [hy3] at b3
        have X0 := Lib.hid hx0
        have X1 := Lib.hid hx1
        have X2 := Lib.hid hx2
        have X3 := Lib.hid hx3
        have Y0 := Lib.hid hy0
        have Y1 := Lib.hid hy1
        have Y2 := Lib.hid hy2
        have Y3 := Lib.hid hy3
        clear hx0 hx1 hx2 hx3 hy0 hy1 hy2 hy3
        by_cases t0 : x0 = y0
        · have j0 : ((x0 : Int) != (y0 : Int)) = false := by simp [t0]
          have T0 := Lib.hid t0
          clear t0
          by_cases t1 : x1 = y1
          · have j1 : ((x1 : Int) != (y1 : Int)) = false := by simp [t1]
            have T1 := Lib.hid t1
            clear t1
            by_cases t2 : x2 = y2
            · have j2 : ((x2 : Int) != (y2 : Int)) = false := by simp [t2]
              have T2 := Lib.hid t2
              clear t2
              by_cases t3 : x3 = y3
              · have j3 : ((x3 : Int) != (y3 : Int)) = false := by simp [t3]
                have T3 := Lib.hid t3
                clear t3
                go_wp2
                go_quiet (fail)
                go_wp2
                go_roundw
                case rel =>
                  refine ⟨k + 1, q + nq, by omega, by go_num, Lib.hid (fun j hj => ?_), by first | rfl | simp [World.drewN, Nat.add_assoc]⟩
                  by_cases e : j = k
                  · subst e
                    rw [List.getElem?_eq_getElem hkx, List.getElem?_eq_getElem hky]
                    exact congrArg some (Ent.four (by rw [X0.out, Y0.out, T0.out]) (by rw [X1.out, Y1.out, T1.out]) (by rw [X2.out, Y2.out, T2.out]) (by rw [X3.out, Y3.out, T3.out]))
                  · exact HJ.out j (by omega)
                case measure => simp [intOf]; omega
              · have j3 : ((x3 : Int) != (y3 : Int)) = true := by simp; omega
                have hne : xs ≠ ys := neq_of hkx hky Ent.turn (by rw [X3.out, Y3.out]; exact t3)
                go_wp2
                go_quiet (fail)
                go_wp2
                go_ret
                exact sameE_no rfl hne ⟨q + nq, by first | rfl | simp [World.drewN, Nat.add_assoc]⟩
            · have j2 : ((x2 : Int) != (y2 : Int)) = true := by simp; omega
              have hne : xs ≠ ys := neq_of hkx hky Ent.sec (by rw [X2.out, Y2.out]; exact t2)
              go_wp2
              go_quiet (fail)
              go_wp2
              go_ret
              exact sameE_no rfl hne ⟨q + nq, by first | rfl | simp [World.drewN, Nat.add_assoc]⟩
          · have j1 : ((x1 : Int) != (y1 : Int)) = true := by simp; omega
            have hne : xs ≠ ys := neq_of hkx hky Ent.at_ (by rw [X1.out, Y1.out]; exact t1)
            go_wp2
            go_quiet (fail)
            go_wp2
            go_ret
            exact sameE_no rfl hne ⟨q + nq, by first | rfl | simp [World.drewN, Nat.add_assoc]⟩
        · have j0 : ((x0 : Int) != (y0 : Int)) = true := by simp; omega
          have hne : xs ≠ ys := neq_of hkx hky Ent.tag (by rw [X0.out, Y0.out]; exact t0)
          go_wp2
          go_quiet (fail)
          go_wp2
          go_ret
          exact sameE_no rfl hne ⟨q + nq, by first | rfl | simp [World.drewN, Nat.add_assoc]⟩
      · obtain rfl : k = u := by omega
        have heq : xs = ys := List.ext_getElem? fun j => by
          rcases Nat.lt_or_ge j k with h | h
          · exact HJ.out j h
          · rw [List.getElem?_eq_none (by rw [HU.out]; exact h), List.getElem?_eq_none (by rw [HM.out]; omega)]
        go_wp2
        go_ret
        exact ⟨true, rfl, by simp [heq], q, rfl⟩
  · have i0 : ((xs.length : Int) == (ys.length : Int)) = false := by simp; omega
    go_wp2
    go_ret
    exact sameE_no rfl (fun e => hl (by rw [e])) ⟨0, rfl⟩
end Go.Proofs.Ytihbjkdgfflnfaa
