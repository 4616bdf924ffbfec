/-
  What is read of a date: its numbers, and whether they are.
-/
import Derived.Test.YtfnpncmdeimcbaaDoorDateTake
import Derived.Test.YtfnpncmdeimcbaaDoorDatePlain
import Derived.Deep.MidRow
namespace Go.Proofs.YtfnpncmdeimcbaaDoor
open Go.RowKit DateMath

theorem names_mon {w : World} {p gm : Nat} (h : CalAt w p) (hg : w.cell? ⟨p, 4, none⟩ = some (.slice (some ⟨gm, 0, none⟩) 12 12)) : ∀ k : Nat, k ≤ 11 → w.cell? ⟨gm, k, none⟩ = some (.string (arrD (monL.getD k []))) := by
  obtain ⟨gd, gm', _, h4, _, hm⟩ := names_get h
  rw [h4] at hg
  obtain rfl : gm' = gm := by injection hg with e; injection e with e; injection e with e; injection e
  exact hm
theorem cells_ne {w : World} {a b : Nat} {c c' : Array Value} {t t' : TypeId} {r r' : Nat × Nat} (ha : w.heap[a]? = some (.cells c t r)) (hb : w.heap[b]? = some (.cells c' t' r')) (h : t ≠ t') : a ≠ b := by
  rintro rfl
  rw [ha] at hb
  injection hb with hb
  injection hb with _ hb _
  exact h hb
theorem results_cell_twoD {P : Program} {fn : Func} {p s : Tmp} {ty : TypeId} (h : fn.results = #[.cell p ty, .tmp s]) (tmps : Array Value) (w : World) (g : Nat) (t : TypeId) (cs : Array Value) (fr : Nat × Nat) (d : TypeDesc) (v : Value)
    (hp : tmps.getD p undef = .pointer (some ⟨g, 0, none⟩)) (hv : tmps.getD s undef = v) (hg : w.heap[g]? = some (.cells cs t fr))
    (hu : P.underlying ty = some d) (hd : (match d with | .struct _ | .array _ _ => true | _ => false) = true) (hi : (P.info? ty).map (·.size) = some cs.size) :
    (results fn tmps).run P w = .ok (.tuple #[.agg cs, v]) w := by
  have hp' : tmps[p]?.getD undef = .pointer (some ⟨g, 0, none⟩) := by simpa using hp
  have hv' : tmps[s]?.getD undef = v := by simpa using hv
  simp [results, h, hp', hv', asAddr, run_loadVar_row w g t ty cs fr d hg hu hd hi]
theorem mom_set0 {x : World} {g a b c d e f k v : Nat} (h : x.heap[g]? = some (.cells (momC a b c d e f k) 53 (0, 0))) : (x.setCell ⟨g, 0, none⟩ (.int .i64 v)).heap[g]? = some (.cells (momC v b c d e f k) 53 (0, 0)) := (heap_setD h 0 _).trans rfl
theorem mom_set1 {x : World} {g a b c d e f k v : Nat} (h : x.heap[g]? = some (.cells (momC a b c d e f k) 53 (0, 0))) : (x.setCell ⟨g, 1, none⟩ (.int .i64 v)).heap[g]? = some (.cells (momC a v c d e f k) 53 (0, 0)) := (heap_setD h 1 _).trans rfl
theorem mom_set2 {x : World} {g a b c d e f k v : Nat} (h : x.heap[g]? = some (.cells (momC a b c d e f k) 53 (0, 0))) : (x.setCell ⟨g, 2, none⟩ (.int .i64 v)).heap[g]? = some (.cells (momC a b v d e f k) 53 (0, 0)) := (heap_setD h 2 _).trans rfl
theorem mom_set3 {x : World} {g a b c d e f k v : Nat} (h : x.heap[g]? = some (.cells (momC a b c d e f k) 53 (0, 0))) : (x.setCell ⟨g, 3, none⟩ (.int .i64 v)).heap[g]? = some (.cells (momC a b c v e f k) 53 (0, 0)) := (heap_setD h 3 _).trans rfl
theorem mom_set4 {x : World} {g a b c d e f k v : Nat} (h : x.heap[g]? = some (.cells (momC a b c d e f k) 53 (0, 0))) : (x.setCell ⟨g, 4, none⟩ (.int .i64 v)).heap[g]? = some (.cells (momC a b c d v f k) 53 (0, 0)) := (heap_setD h 4 _).trans rfl
theorem mom_set5 {x : World} {g a b c d e f k v : Nat} (h : x.heap[g]? = some (.cells (momC a b c d e f k) 53 (0, 0))) : (x.setCell ⟨g, 5, none⟩ (.int .i64 v)).heap[g]? = some (.cells (momC a b c d e v k) 53 (0, 0)) := (heap_setD h 5 _).trans rfl
theorem mom_set6 {x : World} {g a b c d e f k v : Nat} (h : x.heap[g]? = some (.cells (momC a b c d e f k) 53 (0, 0))) : (x.setCell ⟨g, 6, none⟩ (.int .i64 v)).heap[g]? = some (.cells (momC a b c d e f v) 53 (0, 0)) := (heap_setD h 6 _).trans rfl
/-- The moment in the result's block. -/
theorem mom_written {yn mk dn hn mn sn : Nat} {wr : World} {g : Nat} (h : wr.heap[g]? = some (.cells (momC 0 0 0 0 0 0 0) 53 (0, 0))) :
    (((((((wr.setCell ⟨g, 0, none⟩ (.int .i64 yn)).setCell ⟨g, 1, none⟩ (.int .i64 mk)).setCell ⟨g, 2, none⟩ (.int .i64 dn)).setCell ⟨g, 3, none⟩ (.int .i64 hn)).setCell ⟨g, 4, none⟩ (.int .i64 mn)).setCell ⟨g, 5, none⟩ (.int .i64 sn)).setCell ⟨g, 6, none⟩ (.int .i64 0)).drew.heap[g]? = some (.cells (momC yn mk dn hn mn sn 0) 53 (0, 0)) ∧
    Spares (fun b => b = g) wr (((((((wr.setCell ⟨g, 0, none⟩ (.int .i64 yn)).setCell ⟨g, 1, none⟩ (.int .i64 mk)).setCell ⟨g, 2, none⟩ (.int .i64 dn)).setCell ⟨g, 3, none⟩ (.int .i64 hn)).setCell ⟨g, 4, none⟩ (.int .i64 mn)).setCell ⟨g, 5, none⟩ (.int .i64 sn)).setCell ⟨g, 6, none⟩ (.int .i64 0)).drew := by
  have h0 := mom_set0 (v := yn) h
  have s0 := spares_setD (Spares.refl (fun b => b = g) wr) 0 (.int .i64 yn)
  generalize wr.setCell ⟨g, 0, none⟩ (.int .i64 yn) = w0 at *
  have h1 := mom_set1 (v := mk) h0
  have s1 := spares_setD s0 1 (.int .i64 mk)
  generalize w0.setCell ⟨g, 1, none⟩ (.int .i64 mk) = w1 at *
  have h2 := mom_set2 (v := dn) h1
  have s2 := spares_setD s1 2 (.int .i64 dn)
  generalize w1.setCell ⟨g, 2, none⟩ (.int .i64 dn) = w2 at *
  have h3 := mom_set3 (v := hn) h2
  have s3 := spares_setD s2 3 (.int .i64 hn)
  generalize w2.setCell ⟨g, 3, none⟩ (.int .i64 hn) = w3 at *
  have h4 := mom_set4 (v := mn) h3
  have s4 := spares_setD s3 4 (.int .i64 mn)
  generalize w3.setCell ⟨g, 4, none⟩ (.int .i64 mn) = w4 at *
  have h5 := mom_set5 (v := sn) h4
  have s5 := spares_setD s4 5 (.int .i64 sn)
  generalize w4.setCell ⟨g, 5, none⟩ (.int .i64 sn) = w5 at *
  have h6 := mom_set6 (v := 0) h5
  have s6 := spares_setD s5 6 (.int .i64 0)
  exact ⟨h6, s6.drew⟩
/-- The blocks of a reading: the result's, the moment's, the flag's. -/
structure St (w : World) (x : World) (cs : Array Value) (fl : Bool) : Prop where
  res : x.heap[w.heap.size]? = some (.cells (momC 0 0 0 0 0 0 0) 53 (0, 0))
  mom : x.heap[w.heap.size + 1]? = some (.cells cs 53 (0, 0))
  fine : x.heap[w.heap.size + 2]? = some (.cells #[.bool fl] 4 (0, 0))
  spares : Spares nowhere w x
theorem take_st (w x : World) (cs : Array Value) (fl : Bool) (h : St w x cs fl) (s : ByteArray) (j : Nat) (hs : s.size ≤ 9223372036854775807) (hj : j < cs.size) :
    Calls Tryd.prog 35 #[.string s, .pointer (some ⟨w.heap.size + 1, j, none⟩), .pointer (some ⟨w.heap.size + 2, 0, none⟩)] x fun e x' => e = .returned (.tuple #[]) ∧ Hid (St w x' (cs.setIfInBounds j (.int .i64 ((numF s.data.toList 4).getD 0 : Nat))) (fl && (numF s.data.toList 4).isSome)) := by
  refine (take_any s (w.heap.size + 1) j (w.heap.size + 2) cs[j] fl x hs (by omega) (by rw [Lib.cell_of_heap h.mom, Array.getElem?_eq_getElem hj]) (Lib.frozen_of_heap h.mom j) (by rw [Lib.cell_of_heap h.fine]; rfl) (Lib.frozen_of_heap h.fine 0)).mono ?_
  rintro e x' ⟨he, rfl⟩
  refine ⟨he, Lib.hid ⟨?_, ?_, ?_, ?_⟩⟩
  · rw [Below.heap_setCell _ _ _ _ (by show ¬ w.heap.size = w.heap.size + 2; omega), Below.heap_setCell _ _ _ _ (by show ¬ w.heap.size = w.heap.size + 1; omega)]; exact h.res
  · rw [Below.heap_setCell _ _ _ _ (by show ¬ w.heap.size + 1 = w.heap.size + 2; omega)]; exact heap_setD h.mom j _
  · have := heap_setD (w := x.setCell ⟨w.heap.size + 1, j, none⟩ (.int .i64 ((numF s.data.toList 4).getD 0 : Nat))) (by rw [Below.heap_setCell _ _ _ _ (by show ¬ w.heap.size + 2 = w.heap.size + 1; omega)]; exact h.fine) 0 (.bool (fl && (numF s.data.toList 4).isSome))
    exact this
  · exact (h.spares.setCell (p := ⟨w.heap.size + 1, j, none⟩) (.inr (by show _ ≤ w.heap.size + 1; omega)) _).setCell (p := ⟨w.heap.size + 2, 0, none⟩) (.inr (by show _ ≤ w.heap.size + 2; omega)) _
/-- What read leaves. -/
def ReadPost (r : Raw) (p : Nat) (w : World) (e : Ending) (w' : World) : Prop := e = .returned (.tuple #[.agg (momC r.year r.mon r.day r.hour r.min r.sec 0), .bool r.ok]) ∧ CalAt w' p ∧ Spares (fun b => b = p) w w'
set_option maxRecDepth 100000 in
set_option maxHeartbeats 16000000 in
theorem read_any (d mo y c : ByteArray) (p : Nat) (w : World) (hg : CalNew w p) (ht : Tabs w p) (hd : d.size ≤ 100) (hmo : mo.size ≤ 100) (hy : y.size ≤ 100) (hc : c.size = 8) :
    Calls Tryd.prog 16 #[.pointer (some ⟨p, 0, none⟩), .string d, .string mo, .string y, .string c] w (ReadPost (rawOf d.data.toList mo.data.toList y.data.toList c.data.toList) p w) := by
  have hpw : p < w.heap.size := (Array.getElem?_eq_some_iff.1 hg).1
  have hc2 : c[2]'(by omega) = c.data.toList.getD 2 0 := by
    rw [List.getD_eq_getElem?_getD, List.getElem?_eq_getElem (by simp; omega)]; rfl
  have hc5 : c[5]'(by omega) = c.data.toList.getD 5 0 := by
    rw [List.getD_eq_getElem?_getD, List.getElem?_eq_getElem (by simp; omega)]; rfl
  have x1 : (c.extract 0 2).data.toList = sl c.data.toList 0 2 := by rw [Lib.extract_data]; rfl
  have x2 : (c.extract 3 5).data.toList = sl c.data.toList 3 5 := by rw [Lib.extract_data]; rfl
  have x3 : (c.extract 6 8).data.toList = sl c.data.toList 6 8 := by rw [Lib.extract_data]; rfl
  obtain ⟨c1, h1⟩ : ∃ x, c.extract 0 2 = x := ⟨_, rfl⟩
  obtain ⟨c2, h2⟩ : ∃ x, c.extract 3 5 = x := ⟨_, rfl⟩
  obtain ⟨c3, h3⟩ : ∃ x, c.extract 6 8 = x := ⟨_, rfl⟩
  have z1 : c1.size ≤ 8 := by rw [← h1, ByteArray.size_extract]; omega
  have z2 : c2.size ≤ 8 := by rw [← h2, ByteArray.size_extract]; omega
  have z3 : c3.size ≤ 8 := by rw [← h3, ByteArray.size_extract]; omega
  rw [h1] at x1
  rw [h2] at x2
  rw [h3] at x3
  obtain ⟨b2, hb2⟩ : ∃ b, c[2]'(by omega) = b := ⟨_, rfl⟩
  obtain ⟨b5, hb5⟩ : ∃ b, c[5]'(by omega) = b := ⟨_, rfl⟩
  have hf : (c.data.toList.getD 2 0 == 58 && c.data.toList.getD 5 0 == 58) = (((b2.toNat : Int) == 58) && ((b5.toNat : Int) == 58)) := by
    rw [← hc2, ← hc5, hb2, hb5]
    have e : ∀ b : UInt8, (b == 58) = ((b.toNat : Int) == 58) := by
      intro b
      rw [Bool.eq_iff_iff, beq_iff_eq, beq_iff_eq]
      constructor
      · rintro rfl; rfl
      · intro h; exact UInt8.toNat_inj.1 (by have h58 : (58 : UInt8).toNat = 58 := rfl; omega)
    rw [e, e]
  have hF : ∀ fl : Bool, (((b2.toNat : Int) == 58) && ((b5.toNat : Int) == 58)) = fl → Hid (rawOf d.data.toList mo.data.toList y.data.toList c.data.toList = ⟨(numF y.data.toList 4).getD 0, monK mo.data.toList 12, (numF d.data.toList 4).getD 0, (numF c1.data.toList 4).getD 0, (numF c2.data.toList 4).getD 0, (numF c3.data.toList 4).getD 0, ((((fl && (numF d.data.toList 4).isSome) && (numF y.data.toList 4).isSome) && (numF c1.data.toList 4).isSome) && (numF c2.data.toList 4).isSome) && (numF c3.data.toList 4).isSome⟩) := fun fl h => Lib.hid (by
    unfold rawOf
    rw [hf, h, x1, x2, x3])
  have HF := Lib.hid hF
  have b2l := b2.toNat_lt
  have b5l := b5.toNat_lt
  obtain ⟨x0, hx0⟩ : ∃ x0 : Bool → World, x0 = fun fl => ((w.alloc (.cells (momC 0 0 0 0 0 0 0) 53)).alloc (.cells (momC 0 0 0 0 0 0 0) 53)).alloc (.cells #[.bool fl] 4) := ⟨_, rfl⟩
  have hst0 : ∀ fl, St w (x0 fl) (momC 0 0 0 0 0 0 0) fl := by
    intro fl
    rw [hx0]
    refine ⟨?_, ?_, ?_, (((Spares.refl _ _).alloc _).alloc _).alloc _⟩
    · show (((w.alloc _).alloc _).alloc _).heap[w.heap.size]? = _
      rw [Below.heap_alloc _ _ _ (by simp; omega), Below.heap_alloc _ _ _ (by simp)]
      exact heap_alloc_new w _
    · show (((w.alloc _).alloc _).alloc _).heap[w.heap.size + 1]? = _
      rw [Below.heap_alloc _ _ _ (by simp)]
      have := heap_alloc_new (w.alloc (.cells (momC 0 0 0 0 0 0 0) 53)) (.cells (momC 0 0 0 0 0 0 0) 53)
      simpa using this
    · have := heap_alloc_new ((w.alloc (.cells (momC 0 0 0 0 0 0 0) 53)).alloc (.cells (momC 0 0 0 0 0 0 0) 53)) (.cells #[.bool fl] 4)
      simpa using this
  have HST0 := Lib.hid hst0
  have HX0 := Lib.hid (fun fl => congrFun hx0 fl)
  have HG := Lib.hid hg
  have HT := Lib.hid ht
  have hmf : ∀ (fn : Fn) (first cap : Array Value) (w : World), (Instr.makeFunc fn first cap).run Tryd.prog w = .ok (.func fn first cap) w := fun _ _ _ _ => rfl
  obtain ⟨dn, edn⟩ : ∃ n, (numF d.data.toList 4).getD 0 = n := ⟨_, rfl⟩
  obtain ⟨db, edb⟩ : ∃ n, (numF d.data.toList 4).isSome = n := ⟨_, rfl⟩
  obtain ⟨yn, eyn⟩ : ∃ n, (numF y.data.toList 4).getD 0 = n := ⟨_, rfl⟩
  obtain ⟨yb, eyb⟩ : ∃ n, (numF y.data.toList 4).isSome = n := ⟨_, rfl⟩
  obtain ⟨hn, ehn⟩ : ∃ n, (numF c1.data.toList 4).getD 0 = n := ⟨_, rfl⟩
  obtain ⟨hb, ehb⟩ : ∃ n, (numF c1.data.toList 4).isSome = n := ⟨_, rfl⟩
  obtain ⟨mn, emn⟩ : ∃ n, (numF c2.data.toList 4).getD 0 = n := ⟨_, rfl⟩
  obtain ⟨mb, emb⟩ : ∃ n, (numF c2.data.toList 4).isSome = n := ⟨_, rfl⟩
  obtain ⟨sn, esn⟩ : ∃ n, (numF c3.data.toList 4).getD 0 = n := ⟨_, rfl⟩
  obtain ⟨sb, esb⟩ : ∃ n, (numF c3.data.toList 4).isSome = n := ⟨_, rfl⟩
  have T1 : Hid (∀ (x : World) (fl : Bool), St w x (momC 0 0 0 0 0 0 0) fl → Calls Tryd.prog 35 #[.string d, .pointer (some ⟨w.heap.size + 1, 2, none⟩), .pointer (some ⟨w.heap.size + 2, 0, none⟩)] x fun e x' => e = .returned (.tuple #[]) ∧ Hid (St w x' (momC 0 0 dn 0 0 0 0) (fl && db))) := Lib.hid (fun x fl h => by
    have := take_st w x _ fl h d 2 (by omega) (by show 2 < 7; decide)
    rw [edn, edb] at this
    exact this)
  have T2 : Hid (∀ (x : World) (fl : Bool), St w x (momC 0 0 dn 0 0 0 0) fl → Calls Tryd.prog 35 #[.string y, .pointer (some ⟨w.heap.size + 1, 0, none⟩), .pointer (some ⟨w.heap.size + 2, 0, none⟩)] x fun e x' => e = .returned (.tuple #[]) ∧ Hid (St w x' (momC yn 0 dn 0 0 0 0) (fl && yb))) := Lib.hid (fun x fl h => by
    have := take_st w x _ fl h y 0 (by omega) (by show 0 < 7; decide)
    rw [eyn, eyb] at this
    exact this)
  have T3 : Hid (∀ (x : World) (fl : Bool), St w x (momC yn 0 dn 0 0 0 0) fl → Calls Tryd.prog 35 #[.string c1, .pointer (some ⟨w.heap.size + 1, 3, none⟩), .pointer (some ⟨w.heap.size + 2, 0, none⟩)] x fun e x' => e = .returned (.tuple #[]) ∧ Hid (St w x' (momC yn 0 dn hn 0 0 0) (fl && hb))) := Lib.hid (fun x fl h => by
    have := take_st w x _ fl h c1 3 (by omega) (by show 3 < 7; decide)
    rw [ehn, ehb] at this
    exact this)
  have T4 : Hid (∀ (x : World) (fl : Bool), St w x (momC yn 0 dn hn 0 0 0) fl → Calls Tryd.prog 35 #[.string c2, .pointer (some ⟨w.heap.size + 1, 4, none⟩), .pointer (some ⟨w.heap.size + 2, 0, none⟩)] x fun e x' => e = .returned (.tuple #[]) ∧ Hid (St w x' (momC yn 0 dn hn mn 0 0) (fl && mb))) := Lib.hid (fun x fl h => by
    have := take_st w x _ fl h c2 4 (by omega) (by show 4 < 7; decide)
    rw [emn, emb] at this
    exact this)
  have T5 : Hid (∀ (x : World) (fl : Bool), St w x (momC yn 0 dn hn mn 0 0) fl → Calls Tryd.prog 35 #[.string c3, .pointer (some ⟨w.heap.size + 1, 5, none⟩), .pointer (some ⟨w.heap.size + 2, 0, none⟩)] x fun e x' => e = .returned (.tuple #[]) ∧ Hid (St w x' (momC yn 0 dn hn mn sn 0) (fl && sb))) := Lib.hid (fun x fl h => by
    have := take_st w x _ fl h c3 5 (by omega) (by show 5 < 7; decide)
    rw [esn, esb] at this
    exact this)
  rw [edn, edb, eyn, eyb, ehn, ehb, emn, emb, esn, esb] at hF
  have HF := Lib.hid hF
  obtain ⟨l, hlr⟩ : ∃ l, mo.data.toList = l := ⟨_, rfl⟩
  have hmol : mo.toList = l := by rw [Lib.toList_data, hlr]
  have HML := Lib.hid hmol
  rw [hlr] at HF ⊢
  clear edn edb eyn eyb ehn ehb emn emb esn esb hf hF hst0 hx0 hg ht x1 x2 x3 z1 z2 z3 hc2 hc5 hd hy hlr hmol
  unfold ReadPost
  have hmo' : mo.size ≤ 100 := hmo
  clear hmo
  by_cases q2 : ((b2.toNat : Int) == 58) = true
  · by_cases q5 : ((b5.toNat : Int) == 58) = true
    · have HR := HF.out true (by rw [q2, q5]; rfl)
      clear HF
      go_enter Tryd.func16, Tryd.ntmps16
      go_wp2_with fail
      change Calls _ _ _ (((w.alloc (.cells (momC 0 0 0 0 0 0 0) 53)).alloc (.cells (momC 0 0 0 0 0 0 0) 53)).alloc (.cells #[.bool true] 4)) _
      rw [← HX0.out true]
      refine (T1.out _ _ (HST0.out true)).mono ?_
      rintro e x1 ⟨rfl, H1⟩
      clear HST0 HX0 q2 q5
      go_wp2_with fail
      refine (T2.out _ _ H1.out).mono ?_
      rintro e x2 ⟨rfl, H2⟩
      clear H1
      go_wp2_with fail
      refine (T3.out _ _ H2.out).mono ?_
      rintro e x3 ⟨rfl, H3⟩
      clear H2
      go_wp2_with fail
      refine (T4.out _ _ H3.out).mono ?_
      rintro e x4 ⟨rfl, H4⟩
      clear H3
      go_wp2_with fail
      refine (T5.out _ _ H4.out).mono ?_
      rintro e x5 ⟨rfl, H5⟩
      clear H4
      obtain ⟨ok, hok⟩ : ∃ ok, (((((true && db) && yb) && hb) && mb) && sb) = ok := ⟨_, rfl⟩
      rw [hok] at H5 HR
      clear hok T1 T2 T3 T4 T5
      go_wp2_with fail
      have hst := H5.out
      refine (wordsD_any p x5 (.inl (CalIs.spares HG.out hst.spares (fun h => h))) (HT.out.below hst.spares.below0)).mono ?_
      rintro e v ⟨rfl, hcal, hs⟩
      have hres := hs.heap hst.res (by omega)
      have hmom := hs.heap hst.mom (by omega)
      have hfine := hs.heap hst.fine (by omega)
      obtain ⟨z, gd, gm, w1, w2, w3, w4, w5⟩ := id hcal
      have n4 := w1.get.2.2.2
      have gmM : gm ≠ w.heap.size + 1 := cells_ne w3 hmom (by decide)
      have gmR : gm ≠ w.heap.size := cells_ne w3 hres (by decide)
      have gdM : gd ≠ w.heap.size + 1 := cells_ne w2 hmom (by decide)
      have gdR : gd ≠ w.heap.size := cells_ne w2 hres (by decide)
      have GG : Hid (CalIs v p 1 0 z (.slice (some ⟨gd, 0, none⟩) 7 7) (.slice (some ⟨gm, 0, none⟩) 12 12) ∧ v.heap[gd]? = some (.cells dayA 9 (0, 0)) ∧ v.heap[gm]? = some (.cells monA 9 (0, 0)) ∧ gd ≠ p ∧ gm ≠ p ∧ gm ≠ w.heap.size ∧ gm ≠ w.heap.size + 1 ∧ gd ≠ w.heap.size ∧ gd ≠ w.heap.size + 1) := Lib.hid ⟨w1, w2, w3, w4, w5, gmR, gmM, gdR, gdM⟩
      have gmv : gm < v.heap.size := (Array.getElem?_eq_some_iff.1 w3).1
      have NM := Lib.hid (names_mon hcal n4)
      have HCAL := Lib.hid hcal
      have HRES := Lib.hid hres
      have HMOM := Lib.hid hmom
      have HFINE := Lib.hid hfine
      have HSV := Lib.hid ((hst.spares.mono (F' := fun b => b = p) (fun _ h => by cases h)).trans hs)
      have HRV : Hid (w.heap.size + 2 < v.heap.size) := Lib.hid (Array.getElem?_eq_some_iff.1 hfine).1
      have GMM := Lib.hid gmM
      have GMV := Lib.hid gmv
      clear hst hs hres hmom hfine w1 w2 w3 w4 w5 hcal gmM gmR gdM gdR gmv H5 hmf h1 h2 h3 hb2 hb5
      go_wp2
      go_loopw [55] (fun i wr => ∃ k : Nat, k ≤ 12 ∧ i = .int .i64 k ∧ Hid (wr.heap[w.heap.size + 1]? = some (.cells (momC yn (monK l k) dn hn mn sn 0) 53 (0, 0))) ∧ Hid (Spares (fun b => b = w.heap.size + 1) v wr)) (fun i _ => 12 - (intOf i).toNat)
      case atStart => exact ⟨0, Nat.zero_le _, rfl, HMOM, Lib.hid (Spares.refl _ _)⟩
      case round =>
        obtain ⟨k, hk, rfl, HM, HS⟩ := hrel
        by_cases hlt : k < 12
        · have x0 := (HS.out.cell (p := ⟨gm, k, none⟩) GMV.out GMM.out).trans (NM.out k (by omega))
          have c1 : wr.cell? ⟨w.heap.size + 1, 1, none⟩ = some (.int .i64 (monK l k)) := by rw [Lib.cell_of_heap HM.out]; rfl
          have fz := Lib.frozen_of_heap HM.out 1
          have hol : (arrD (monL.getD k [])).toList = monL.getD k [] := by rw [Lib.toList_data]; unfold arrD; simp
          obtain ⟨O, hO⟩ : ∃ O, arrD (monL.getD k []) = O := ⟨_, rfl⟩
          rw [hO] at x0 hol
          have i1 : (k : Int) < 12 := by omega
          by_cases heq : monL.getD k [] = l
          · have teq : (O.toList == mo.toList) = true := by rw [HML.out, hol, heq]; exact beq_self_eq_true _
            have HK : Hid (monK l (k + 1) = k) := Lib.hid (by show (if monL.getD k [] = l then k else monK l k) = k; rw [if_pos heq])
            clear hol hO heq
            go_wp2
            go_roundw
            case rel => exact ⟨k + 1, by omega, by go_num, Lib.hid (by rw [HK.out]; exact heap_setD HM.out 1 _), Lib.hid (spares_setD HS.out 1 _)⟩
            case measure => simp [intOf]; omega
          · have teq : (O.toList == mo.toList) = false := by rw [HML.out, hol]; simpa using heq
            have HK : Hid (monK l (k + 1) = monK l k) := Lib.hid (by show (if monL.getD k [] = l then k else monK l k) = _; rw [if_neg heq])
            clear hol hO heq
            go_wp2
            go_roundw
            case rel => exact ⟨k + 1, by omega, by go_num, Lib.hid (by rw [HK.out]; exact HM.out), HS⟩
            case measure => simp [intOf]; omega
        · obtain rfl : k = 12 := by omega
          obtain ⟨mk, hmk⟩ : ∃ mk, monK l 12 = mk := ⟨_, rfl⟩
          rw [hmk] at HM HR
          have hne2 : ¬ w.heap.size + 2 = w.heap.size + 1 := by omega
          have hne0 : ¬ w.heap.size = w.heap.size + 1 := by omega
          have hR := HS.out.heap HRES.out hne0
          have hFn := HS.out.heap HFINE.out hne2
          have m0 : wr.cell? ⟨w.heap.size + 1, 0, none⟩ = some (.int .i64 yn) := by rw [Lib.cell_of_heap HM.out]; rfl
          have m1 : wr.cell? ⟨w.heap.size + 1, 1, none⟩ = some (.int .i64 mk) := by rw [Lib.cell_of_heap HM.out]; rfl
          have m2 : wr.cell? ⟨w.heap.size + 1, 2, none⟩ = some (.int .i64 dn) := by rw [Lib.cell_of_heap HM.out]; rfl
          have m3 : wr.cell? ⟨w.heap.size + 1, 3, none⟩ = some (.int .i64 hn) := by rw [Lib.cell_of_heap HM.out]; rfl
          have m4 : wr.cell? ⟨w.heap.size + 1, 4, none⟩ = some (.int .i64 mn) := by rw [Lib.cell_of_heap HM.out]; rfl
          have m5 : wr.cell? ⟨w.heap.size + 1, 5, none⟩ = some (.int .i64 sn) := by rw [Lib.cell_of_heap HM.out]; rfl
          have m6 : wr.cell? ⟨w.heap.size + 1, 6, none⟩ = some (.int .i64 0) := by rw [Lib.cell_of_heap HM.out]; rfl
          have f0 : wr.cell? ⟨w.heap.size + 2, 0, none⟩ = some (.bool ok) := by rw [Lib.cell_of_heap hFn]; rfl
          have r0 : wr.cell? ⟨w.heap.size, 0, none⟩ = some (.int .i64 0) := by rw [Lib.cell_of_heap hR]; rfl
          have r1 : wr.cell? ⟨w.heap.size, 1, none⟩ = some (.int .i64 0) := by rw [Lib.cell_of_heap hR]; rfl
          have r2 : wr.cell? ⟨w.heap.size, 2, none⟩ = some (.int .i64 0) := by rw [Lib.cell_of_heap hR]; rfl
          have r3 : wr.cell? ⟨w.heap.size, 3, none⟩ = some (.int .i64 0) := by rw [Lib.cell_of_heap hR]; rfl
          have r4 : wr.cell? ⟨w.heap.size, 4, none⟩ = some (.int .i64 0) := by rw [Lib.cell_of_heap hR]; rfl
          have r5 : wr.cell? ⟨w.heap.size, 5, none⟩ = some (.int .i64 0) := by rw [Lib.cell_of_heap hR]; rfl
          have r6 : wr.cell? ⟨w.heap.size, 6, none⟩ = some (.int .i64 0) := by rw [Lib.cell_of_heap hR]; rfl
          have z0 := Lib.frozen_of_heap hR 0
          have z1 := Lib.frozen_of_heap hR 1
          have z2 := Lib.frozen_of_heap hR 2
          have z3 := Lib.frozen_of_heap hR 3
          have z4 := Lib.frozen_of_heap hR 4
          have z5 := Lib.frozen_of_heap hR 5
          have z6 := Lib.frozen_of_heap hR 6
          have HRR := Lib.hid hR
          clear hR hFn hne2 hne0 hmk
          go_wp2
          go_region
          go_wp2
          have hq := mom_written (yn := yn) (mk := mk) (dn := dn) (hn := hn) (mn := mn) (sn := sn) HRR.out
          refine bodyPost_ret (v := .tuple #[.agg (momC yn mk dn hn mn sn 0), .bool ok]) (results_cell_twoD rfl _ _ w.heap.size 53 (momC yn mk dn hn mn sn 0) (0, 0) _ (.bool ok) rfl rfl hq.1 Tryd.underlying53 (by rfl) (by kernel_rfl)) rfl ⟨by rw [HR.out], ?_, ?_⟩
          · obtain ⟨g1, g2, g3, g4, g5, g6, g7, g8, g9⟩ := GG.out
            have hh : ∀ b, b ≠ w.heap.size + 1 → b ≠ w.heap.size → ∀ o, v.heap[b]? = some o → _ := fun b h1 h2 o ho => hq.2.heap (HS.out.heap ho h1) h2
            exact ⟨z, gd, gm, hh p (by omega) (by omega) _ g1, hh gd g9 g8 _ g2, hh gm g7 g6 _ g3, g4, g5⟩
          · exact (HSV.out.trans' HS.out (fun b hb => .inr (by omega))).trans' hq.2 (fun b hb => .inr (by omega))
    · replace q5 : ((b5.toNat : Int) == 58) = false := by simpa using q5
      have HR := HF.out false (by rw [q2, q5]; rfl)
      clear HF
      go_enter Tryd.func16, Tryd.ntmps16
      go_wp2_with fail
      change Calls _ _ _ (((w.alloc (.cells (momC 0 0 0 0 0 0 0) 53)).alloc (.cells (momC 0 0 0 0 0 0 0) 53)).alloc (.cells #[.bool false] 4)) _
      rw [← HX0.out false]
      refine (T1.out _ _ (HST0.out false)).mono ?_
      rintro e x1 ⟨rfl, H1⟩
      clear HST0 HX0 q2 q5
      go_wp2_with fail
      refine (T2.out _ _ H1.out).mono ?_
      rintro e x2 ⟨rfl, H2⟩
      clear H1
      go_wp2_with fail
      refine (T3.out _ _ H2.out).mono ?_
      rintro e x3 ⟨rfl, H3⟩
      clear H2
      go_wp2_with fail
      refine (T4.out _ _ H3.out).mono ?_
      rintro e x4 ⟨rfl, H4⟩
      clear H3
      go_wp2_with fail
      refine (T5.out _ _ H4.out).mono ?_
      rintro e x5 ⟨rfl, H5⟩
      clear H4
      obtain ⟨ok, hok⟩ : ∃ ok, (((((false && db) && yb) && hb) && mb) && sb) = ok := ⟨_, rfl⟩
      rw [hok] at H5 HR
      clear hok T1 T2 T3 T4 T5
      go_wp2_with fail
      have hst := H5.out
      refine (wordsD_any p x5 (.inl (CalIs.spares HG.out hst.spares (fun h => h))) (HT.out.below hst.spares.below0)).mono ?_
      rintro e v ⟨rfl, hcal, hs⟩
      have hres := hs.heap hst.res (by omega)
      have hmom := hs.heap hst.mom (by omega)
      have hfine := hs.heap hst.fine (by omega)
      obtain ⟨z, gd, gm, w1, w2, w3, w4, w5⟩ := id hcal
      have n4 := w1.get.2.2.2
      have gmM : gm ≠ w.heap.size + 1 := cells_ne w3 hmom (by decide)
      have gmR : gm ≠ w.heap.size := cells_ne w3 hres (by decide)
      have gdM : gd ≠ w.heap.size + 1 := cells_ne w2 hmom (by decide)
      have gdR : gd ≠ w.heap.size := cells_ne w2 hres (by decide)
      have GG : Hid (CalIs v p 1 0 z (.slice (some ⟨gd, 0, none⟩) 7 7) (.slice (some ⟨gm, 0, none⟩) 12 12) ∧ v.heap[gd]? = some (.cells dayA 9 (0, 0)) ∧ v.heap[gm]? = some (.cells monA 9 (0, 0)) ∧ gd ≠ p ∧ gm ≠ p ∧ gm ≠ w.heap.size ∧ gm ≠ w.heap.size + 1 ∧ gd ≠ w.heap.size ∧ gd ≠ w.heap.size + 1) := Lib.hid ⟨w1, w2, w3, w4, w5, gmR, gmM, gdR, gdM⟩
      have gmv : gm < v.heap.size := (Array.getElem?_eq_some_iff.1 w3).1
      have NM := Lib.hid (names_mon hcal n4)
      have HCAL := Lib.hid hcal
      have HRES := Lib.hid hres
      have HMOM := Lib.hid hmom
      have HFINE := Lib.hid hfine
      have HSV := Lib.hid ((hst.spares.mono (F' := fun b => b = p) (fun _ h => by cases h)).trans hs)
      have HRV : Hid (w.heap.size + 2 < v.heap.size) := Lib.hid (Array.getElem?_eq_some_iff.1 hfine).1
      have GMM := Lib.hid gmM
      have GMV := Lib.hid gmv
      clear hst hs hres hmom hfine w1 w2 w3 w4 w5 hcal gmM gmR gdM gdR gmv H5 hmf h1 h2 h3 hb2 hb5
      go_wp2
      go_loopw [55] (fun i wr => ∃ k : Nat, k ≤ 12 ∧ i = .int .i64 k ∧ Hid (wr.heap[w.heap.size + 1]? = some (.cells (momC yn (monK l k) dn hn mn sn 0) 53 (0, 0))) ∧ Hid (Spares (fun b => b = w.heap.size + 1) v wr)) (fun i _ => 12 - (intOf i).toNat)
      case atStart => exact ⟨0, Nat.zero_le _, rfl, HMOM, Lib.hid (Spares.refl _ _)⟩
      case round =>
        obtain ⟨k, hk, rfl, HM, HS⟩ := hrel
        by_cases hlt : k < 12
        · have x0 := (HS.out.cell (p := ⟨gm, k, none⟩) GMV.out GMM.out).trans (NM.out k (by omega))
          have c1 : wr.cell? ⟨w.heap.size + 1, 1, none⟩ = some (.int .i64 (monK l k)) := by rw [Lib.cell_of_heap HM.out]; rfl
          have fz := Lib.frozen_of_heap HM.out 1
          have hol : (arrD (monL.getD k [])).toList = monL.getD k [] := by rw [Lib.toList_data]; unfold arrD; simp
          obtain ⟨O, hO⟩ : ∃ O, arrD (monL.getD k []) = O := ⟨_, rfl⟩
          rw [hO] at x0 hol
          have i1 : (k : Int) < 12 := by omega
          by_cases heq : monL.getD k [] = l
          · have teq : (O.toList == mo.toList) = true := by rw [HML.out, hol, heq]; exact beq_self_eq_true _
            have HK : Hid (monK l (k + 1) = k) := Lib.hid (by show (if monL.getD k [] = l then k else monK l k) = k; rw [if_pos heq])
            clear hol hO heq
            go_wp2
            go_roundw
            case rel => exact ⟨k + 1, by omega, by go_num, Lib.hid (by rw [HK.out]; exact heap_setD HM.out 1 _), Lib.hid (spares_setD HS.out 1 _)⟩
            case measure => simp [intOf]; omega
          · have teq : (O.toList == mo.toList) = false := by rw [HML.out, hol]; simpa using heq
            have HK : Hid (monK l (k + 1) = monK l k) := Lib.hid (by show (if monL.getD k [] = l then k else monK l k) = _; rw [if_neg heq])
            clear hol hO heq
            go_wp2
            go_roundw
            case rel => exact ⟨k + 1, by omega, by go_num, Lib.hid (by rw [HK.out]; exact HM.out), HS⟩
            case measure => simp [intOf]; omega
        · obtain rfl : k = 12 := by omega
          obtain ⟨mk, hmk⟩ : ∃ mk, monK l 12 = mk := ⟨_, rfl⟩
          rw [hmk] at HM HR
          have hne2 : ¬ w.heap.size + 2 = w.heap.size + 1 := by omega
          have hne0 : ¬ w.heap.size = w.heap.size + 1 := by omega
          have hR := HS.out.heap HRES.out hne0
          have hFn := HS.out.heap HFINE.out hne2
          have m0 : wr.cell? ⟨w.heap.size + 1, 0, none⟩ = some (.int .i64 yn) := by rw [Lib.cell_of_heap HM.out]; rfl
          have m1 : wr.cell? ⟨w.heap.size + 1, 1, none⟩ = some (.int .i64 mk) := by rw [Lib.cell_of_heap HM.out]; rfl
          have m2 : wr.cell? ⟨w.heap.size + 1, 2, none⟩ = some (.int .i64 dn) := by rw [Lib.cell_of_heap HM.out]; rfl
          have m3 : wr.cell? ⟨w.heap.size + 1, 3, none⟩ = some (.int .i64 hn) := by rw [Lib.cell_of_heap HM.out]; rfl
          have m4 : wr.cell? ⟨w.heap.size + 1, 4, none⟩ = some (.int .i64 mn) := by rw [Lib.cell_of_heap HM.out]; rfl
          have m5 : wr.cell? ⟨w.heap.size + 1, 5, none⟩ = some (.int .i64 sn) := by rw [Lib.cell_of_heap HM.out]; rfl
          have m6 : wr.cell? ⟨w.heap.size + 1, 6, none⟩ = some (.int .i64 0) := by rw [Lib.cell_of_heap HM.out]; rfl
          have f0 : wr.cell? ⟨w.heap.size + 2, 0, none⟩ = some (.bool ok) := by rw [Lib.cell_of_heap hFn]; rfl
          have r0 : wr.cell? ⟨w.heap.size, 0, none⟩ = some (.int .i64 0) := by rw [Lib.cell_of_heap hR]; rfl
          have r1 : wr.cell? ⟨w.heap.size, 1, none⟩ = some (.int .i64 0) := by rw [Lib.cell_of_heap hR]; rfl
          have r2 : wr.cell? ⟨w.heap.size, 2, none⟩ = some (.int .i64 0) := by rw [Lib.cell_of_heap hR]; rfl
          have r3 : wr.cell? ⟨w.heap.size, 3, none⟩ = some (.int .i64 0) := by rw [Lib.cell_of_heap hR]; rfl
          have r4 : wr.cell? ⟨w.heap.size, 4, none⟩ = some (.int .i64 0) := by rw [Lib.cell_of_heap hR]; rfl
          have r5 : wr.cell? ⟨w.heap.size, 5, none⟩ = some (.int .i64 0) := by rw [Lib.cell_of_heap hR]; rfl
          have r6 : wr.cell? ⟨w.heap.size, 6, none⟩ = some (.int .i64 0) := by rw [Lib.cell_of_heap hR]; rfl
          have z0 := Lib.frozen_of_heap hR 0
          have z1 := Lib.frozen_of_heap hR 1
          have z2 := Lib.frozen_of_heap hR 2
          have z3 := Lib.frozen_of_heap hR 3
          have z4 := Lib.frozen_of_heap hR 4
          have z5 := Lib.frozen_of_heap hR 5
          have z6 := Lib.frozen_of_heap hR 6
          have HRR := Lib.hid hR
          clear hR hFn hne2 hne0 hmk
          go_wp2
          go_region
          go_wp2
          have hq := mom_written (yn := yn) (mk := mk) (dn := dn) (hn := hn) (mn := mn) (sn := sn) HRR.out
          refine bodyPost_ret (v := .tuple #[.agg (momC yn mk dn hn mn sn 0), .bool ok]) (results_cell_twoD rfl _ _ w.heap.size 53 (momC yn mk dn hn mn sn 0) (0, 0) _ (.bool ok) rfl rfl hq.1 Tryd.underlying53 (by rfl) (by kernel_rfl)) rfl ⟨by rw [HR.out], ?_, ?_⟩
          · obtain ⟨g1, g2, g3, g4, g5, g6, g7, g8, g9⟩ := GG.out
            have hh : ∀ b, b ≠ w.heap.size + 1 → b ≠ w.heap.size → ∀ o, v.heap[b]? = some o → _ := fun b h1 h2 o ho => hq.2.heap (HS.out.heap ho h1) h2
            exact ⟨z, gd, gm, hh p (by omega) (by omega) _ g1, hh gd g9 g8 _ g2, hh gm g7 g6 _ g3, g4, g5⟩
          · exact (HSV.out.trans' HS.out (fun b hb => .inr (by omega))).trans' hq.2 (fun b hb => .inr (by omega))
  · replace q2 : ((b2.toNat : Int) == 58) = false := by simpa using q2
    have HR := HF.out false (by rw [q2]; rfl)
    clear HF
    go_enter Tryd.func16, Tryd.ntmps16
    go_wp2_with fail
    change Calls _ _ _ (((w.alloc (.cells (momC 0 0 0 0 0 0 0) 53)).alloc (.cells (momC 0 0 0 0 0 0 0) 53)).alloc (.cells #[.bool false] 4)) _
    rw [← HX0.out false]
    refine (T1.out _ _ (HST0.out false)).mono ?_
    rintro e x1 ⟨rfl, H1⟩
    clear HST0 HX0 q2 
    go_wp2_with fail
    refine (T2.out _ _ H1.out).mono ?_
    rintro e x2 ⟨rfl, H2⟩
    clear H1
    go_wp2_with fail
    refine (T3.out _ _ H2.out).mono ?_
    rintro e x3 ⟨rfl, H3⟩
    clear H2
    go_wp2_with fail
    refine (T4.out _ _ H3.out).mono ?_
    rintro e x4 ⟨rfl, H4⟩
    clear H3
    go_wp2_with fail
    refine (T5.out _ _ H4.out).mono ?_
    rintro e x5 ⟨rfl, H5⟩
    clear H4
    obtain ⟨ok, hok⟩ : ∃ ok, (((((false && db) && yb) && hb) && mb) && sb) = ok := ⟨_, rfl⟩
    rw [hok] at H5 HR
    clear hok T1 T2 T3 T4 T5
    go_wp2_with fail
    have hst := H5.out
    refine (wordsD_any p x5 (.inl (CalIs.spares HG.out hst.spares (fun h => h))) (HT.out.below hst.spares.below0)).mono ?_
    rintro e v ⟨rfl, hcal, hs⟩
    have hres := hs.heap hst.res (by omega)
    have hmom := hs.heap hst.mom (by omega)
    have hfine := hs.heap hst.fine (by omega)
    obtain ⟨z, gd, gm, w1, w2, w3, w4, w5⟩ := id hcal
    have n4 := w1.get.2.2.2
    have gmM : gm ≠ w.heap.size + 1 := cells_ne w3 hmom (by decide)
    have gmR : gm ≠ w.heap.size := cells_ne w3 hres (by decide)
    have gdM : gd ≠ w.heap.size + 1 := cells_ne w2 hmom (by decide)
    have gdR : gd ≠ w.heap.size := cells_ne w2 hres (by decide)
    have GG : Hid (CalIs v p 1 0 z (.slice (some ⟨gd, 0, none⟩) 7 7) (.slice (some ⟨gm, 0, none⟩) 12 12) ∧ v.heap[gd]? = some (.cells dayA 9 (0, 0)) ∧ v.heap[gm]? = some (.cells monA 9 (0, 0)) ∧ gd ≠ p ∧ gm ≠ p ∧ gm ≠ w.heap.size ∧ gm ≠ w.heap.size + 1 ∧ gd ≠ w.heap.size ∧ gd ≠ w.heap.size + 1) := Lib.hid ⟨w1, w2, w3, w4, w5, gmR, gmM, gdR, gdM⟩
    have gmv : gm < v.heap.size := (Array.getElem?_eq_some_iff.1 w3).1
    have NM := Lib.hid (names_mon hcal n4)
    have HCAL := Lib.hid hcal
    have HRES := Lib.hid hres
    have HMOM := Lib.hid hmom
    have HFINE := Lib.hid hfine
    have HSV := Lib.hid ((hst.spares.mono (F' := fun b => b = p) (fun _ h => by cases h)).trans hs)
    have HRV : Hid (w.heap.size + 2 < v.heap.size) := Lib.hid (Array.getElem?_eq_some_iff.1 hfine).1
    have GMM := Lib.hid gmM
    have GMV := Lib.hid gmv
    clear hst hs hres hmom hfine w1 w2 w3 w4 w5 hcal gmM gmR gdM gdR gmv H5 hmf h1 h2 h3 hb2 hb5
    go_wp2
    go_loopw [55] (fun i wr => ∃ k : Nat, k ≤ 12 ∧ i = .int .i64 k ∧ Hid (wr.heap[w.heap.size + 1]? = some (.cells (momC yn (monK l k) dn hn mn sn 0) 53 (0, 0))) ∧ Hid (Spares (fun b => b = w.heap.size + 1) v wr)) (fun i _ => 12 - (intOf i).toNat)
    case atStart => exact ⟨0, Nat.zero_le _, rfl, HMOM, Lib.hid (Spares.refl _ _)⟩
    case round =>
      obtain ⟨k, hk, rfl, HM, HS⟩ := hrel
      by_cases hlt : k < 12
      · have x0 := (HS.out.cell (p := ⟨gm, k, none⟩) GMV.out GMM.out).trans (NM.out k (by omega))
        have c1 : wr.cell? ⟨w.heap.size + 1, 1, none⟩ = some (.int .i64 (monK l k)) := by rw [Lib.cell_of_heap HM.out]; rfl
        have fz := Lib.frozen_of_heap HM.out 1
        have hol : (arrD (monL.getD k [])).toList = monL.getD k [] := by rw [Lib.toList_data]; unfold arrD; simp
        obtain ⟨O, hO⟩ : ∃ O, arrD (monL.getD k []) = O := ⟨_, rfl⟩
        rw [hO] at x0 hol
        have i1 : (k : Int) < 12 := by omega
        by_cases heq : monL.getD k [] = l
        · have teq : (O.toList == mo.toList) = true := by rw [HML.out, hol, heq]; exact beq_self_eq_true _
          have HK : Hid (monK l (k + 1) = k) := Lib.hid (by show (if monL.getD k [] = l then k else monK l k) = k; rw [if_pos heq])
          clear hol hO heq
          go_wp2
          go_roundw
          case rel => exact ⟨k + 1, by omega, by go_num, Lib.hid (by rw [HK.out]; exact heap_setD HM.out 1 _), Lib.hid (spares_setD HS.out 1 _)⟩
          case measure => simp [intOf]; omega
        · have teq : (O.toList == mo.toList) = false := by rw [HML.out, hol]; simpa using heq
          have HK : Hid (monK l (k + 1) = monK l k) := Lib.hid (by show (if monL.getD k [] = l then k else monK l k) = _; rw [if_neg heq])
          clear hol hO heq
          go_wp2
          go_roundw
          case rel => exact ⟨k + 1, by omega, by go_num, Lib.hid (by rw [HK.out]; exact HM.out), HS⟩
          case measure => simp [intOf]; omega
      · obtain rfl : k = 12 := by omega
        obtain ⟨mk, hmk⟩ : ∃ mk, monK l 12 = mk := ⟨_, rfl⟩
        rw [hmk] at HM HR
        have hne2 : ¬ w.heap.size + 2 = w.heap.size + 1 := by omega
        have hne0 : ¬ w.heap.size = w.heap.size + 1 := by omega
        have hR := HS.out.heap HRES.out hne0
        have hFn := HS.out.heap HFINE.out hne2
        have m0 : wr.cell? ⟨w.heap.size + 1, 0, none⟩ = some (.int .i64 yn) := by rw [Lib.cell_of_heap HM.out]; rfl
        have m1 : wr.cell? ⟨w.heap.size + 1, 1, none⟩ = some (.int .i64 mk) := by rw [Lib.cell_of_heap HM.out]; rfl
        have m2 : wr.cell? ⟨w.heap.size + 1, 2, none⟩ = some (.int .i64 dn) := by rw [Lib.cell_of_heap HM.out]; rfl
        have m3 : wr.cell? ⟨w.heap.size + 1, 3, none⟩ = some (.int .i64 hn) := by rw [Lib.cell_of_heap HM.out]; rfl
        have m4 : wr.cell? ⟨w.heap.size + 1, 4, none⟩ = some (.int .i64 mn) := by rw [Lib.cell_of_heap HM.out]; rfl
        have m5 : wr.cell? ⟨w.heap.size + 1, 5, none⟩ = some (.int .i64 sn) := by rw [Lib.cell_of_heap HM.out]; rfl
        have m6 : wr.cell? ⟨w.heap.size + 1, 6, none⟩ = some (.int .i64 0) := by rw [Lib.cell_of_heap HM.out]; rfl
        have f0 : wr.cell? ⟨w.heap.size + 2, 0, none⟩ = some (.bool ok) := by rw [Lib.cell_of_heap hFn]; rfl
        have r0 : wr.cell? ⟨w.heap.size, 0, none⟩ = some (.int .i64 0) := by rw [Lib.cell_of_heap hR]; rfl
        have r1 : wr.cell? ⟨w.heap.size, 1, none⟩ = some (.int .i64 0) := by rw [Lib.cell_of_heap hR]; rfl
        have r2 : wr.cell? ⟨w.heap.size, 2, none⟩ = some (.int .i64 0) := by rw [Lib.cell_of_heap hR]; rfl
        have r3 : wr.cell? ⟨w.heap.size, 3, none⟩ = some (.int .i64 0) := by rw [Lib.cell_of_heap hR]; rfl
        have r4 : wr.cell? ⟨w.heap.size, 4, none⟩ = some (.int .i64 0) := by rw [Lib.cell_of_heap hR]; rfl
        have r5 : wr.cell? ⟨w.heap.size, 5, none⟩ = some (.int .i64 0) := by rw [Lib.cell_of_heap hR]; rfl
        have r6 : wr.cell? ⟨w.heap.size, 6, none⟩ = some (.int .i64 0) := by rw [Lib.cell_of_heap hR]; rfl
        have z0 := Lib.frozen_of_heap hR 0
        have z1 := Lib.frozen_of_heap hR 1
        have z2 := Lib.frozen_of_heap hR 2
        have z3 := Lib.frozen_of_heap hR 3
        have z4 := Lib.frozen_of_heap hR 4
        have z5 := Lib.frozen_of_heap hR 5
        have z6 := Lib.frozen_of_heap hR 6
        have HRR := Lib.hid hR
        clear hR hFn hne2 hne0 hmk
        go_wp2
        go_region
        go_wp2
        have hq := mom_written (yn := yn) (mk := mk) (dn := dn) (hn := hn) (mn := mn) (sn := sn) HRR.out
        refine bodyPost_ret (v := .tuple #[.agg (momC yn mk dn hn mn sn 0), .bool ok]) (results_cell_twoD rfl _ _ w.heap.size 53 (momC yn mk dn hn mn sn 0) (0, 0) _ (.bool ok) rfl rfl hq.1 Tryd.underlying53 (by rfl) (by kernel_rfl)) rfl ⟨by rw [HR.out], ?_, ?_⟩
        · obtain ⟨g1, g2, g3, g4, g5, g6, g7, g8, g9⟩ := GG.out
          have hh : ∀ b, b ≠ w.heap.size + 1 → b ≠ w.heap.size → ∀ o, v.heap[b]? = some o → _ := fun b h1 h2 o ho => hq.2.heap (HS.out.heap ho h1) h2
          exact ⟨z, gd, gm, hh p (by omega) (by omega) _ g1, hh gd g9 g8 _ g2, hh gm g7 g6 _ g3, g4, g5⟩
        · exact (HSV.out.trans' HS.out (fun b hb => .inr (by omega))).trans' hq.2 (fun b hb => .inr (by omega))
end Go.Proofs.YtfnpncmdeimcbaaDoor
