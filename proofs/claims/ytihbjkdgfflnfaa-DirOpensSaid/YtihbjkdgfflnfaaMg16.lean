/-
  slices.Backward over entries: an iterator that hands on each index and entry, the last one first.
  What a walk from the last entry on collects, by the indices that have come.
  Probe: a range over slices.Backward.
  Delete: a range over slices.Backward that a hit leaves.
  What each law of this layer asks first: two entries of one key.
  A key's bucket and tag, the program's and the document's.
  A key that came in, opened.
  A bucket takes just so many entries.
  Sweeps of all places, and of none.
  The reference's Delete.
-/
import Derived.RangeFuncNested
import Derived.RangeFuncBound
import Derived.RangeFuncCalls
import Derived.RangeFuncLeaves
import Derived.RangeFuncBox
import Derived.Shelf.Abstract
import Derived.Shelf.RegionOpen
import Derived.WalkKit
import Derived.OwnWalkIn
import Derived.TacticsInMore
import Derived.LoopNIn
import Derived.LoopIn
import Derived.Test.YtihbjkdgfflnfaaMg10
import Derived.Test.YtihbjkdgfflnfaaMg15
import Derived.Test.YtihbjkdgfflnfaaMg17
import Derived.Test.YtihbjkdgfflnfaaMg18
import Derived.Test.YtihbjkdgfflnfaaMg20
namespace Go.Proofs.Ytihbjkdgfflnfaa
open Go.RowKit Go.Shelf
attribute [local go_sem] Oper.semAt_some

/-- The indices that have come when k rounds are over. -/
def backI (N : Nat) : (k : Nat) → k ≤ N → List (Fin N)
  | 0, _ => []
  | k + 1, h => backI N k (by omega) ++ [⟨N - 1 - k, by omega⟩]
theorem backI_len (N : Nat) : ∀ (k : Nat) (h : k ≤ N), (backI N k h).length = k
  | 0, _ => rfl
  | k + 1, h => by simp [backI, backI_len N k (by omega)]
/-- What a round that goes on keeps: the iterator's own box, and all below n₀. -/
def BackKeeps (Bs n₀ : Nat) (W W' : World) : Prop := (∀ v, W.cell? ⟨Bs, 0, none⟩ = some v → W'.cell? ⟨Bs, 0, none⟩ = some v) ∧ Below n₀ W W'
theorem BackKeeps.trans {Bs n₀ : Nat} {A B C : World} (h : BackKeeps Bs n₀ A B) (k : BackKeeps Bs n₀ B C) : BackKeeps Bs n₀ A C := ⟨fun v hv => k.1 v (h.1 v hv), h.2.trans k.2⟩
def encB (xs : List Ent) (i : Fin xs.length) : Array Value := #[.int .i64 (i.1 : Int), entV xs[i.1]]
theorem backward_in (F : Fence) (n : Nat) (hf : F.fn 36) (hro : F.round = none) (a : Option Addr) (len cap : Nat) (w : World) :
    CallsIn F n Try.prog 36 #[.slice a len cap] w fun e w' => e = .returned (.func (.func 48) #[] #[.pointer (some ⟨w.heap.size, 0, none⟩)]) ∧ w' = w.alloc (.cells #[.slice a len cap] 38) := by
  refine callsIn_of_wp Try.func36 rfl hf ?_ hro
  simp only [Try.ntmps36, List.size_toArray, List.length_cons, List.length_nil, Nat.reduceAdd, Nat.reduceSub, Array.replicate_succ, Array.replicate_zero, List.push_toArray, List.append_toArray, List.nil_append, List.cons_append]
  gi_wp2
  go_ret
  exact ⟨rfl, rfl⟩
set_option maxRecDepth 100000 in
set_option maxHeartbeats 4000000 in
theorem back1_in (F : Fence) (n : Nat) (hf : F.fn 48) (hro : F.round = none) (hn : 1 ≤ n) (l Bs n₀ g off cap : Nat) (xs : List Ent) (hx : xs.length ≤ 1000000) (hg : g < n₀) (J Jx : List (Fin xs.length) → World → Prop)
    (hY : ∀ pre x W, J pre W → pre.length < xs.length → YieldAt F (n - 1) Try.prog l (encB xs x) W fun e W' =>
      (e = .returned (.bool true) ∧ J (pre ++ [x]) W' ∧ BackKeeps Bs n₀ W W') ∨ (e = .returned (.bool false) ∧ Jx (pre ++ [x]) W'))
    (W : World) (hBs : W.cell? ⟨Bs, 0, none⟩ = some (.slice (some ⟨g, off, none⟩) xs.length cap)) (hc : ∀ k (h : k < xs.length) j, j < 4 → W.cell? ⟨g, off + k * 4 + j, none⟩ = (entCells xs[k])[j]?) (h0 : J [] W) :
    CallsIn F n Try.prog 48 #[.func (.yield l) #[] #[], .pointer (some ⟨Bs, 0, none⟩)] W fun e W' => (∃ v, e = .returned v) ∧
      ((∃ ys, ys = backI xs.length xs.length (Nat.le_refl _) ∧ J ys W') ∨ (∃ pre, (∃ k, ∃ hk : k ≤ xs.length, pre = backI xs.length k hk) ∧ Jx pre W')) := by
  have HC := Lib.hid hc
  have HB := Lib.hid hBs
  have w0 : IntKind.i64.wrap ((xs.length : Int) - 1) = (xs.length : Int) - 1 := by rw [IntKind.wrap_i64]; omega
  clear hc
  refine callsIn_of_wp Try.func48 rfl hf ?_ hro
  simp only [Try.ntmps48, List.size_toArray, List.length_cons, List.length_nil, Nat.reduceAdd, Nat.reduceSub, Array.replicate_succ, Array.replicate_zero, List.push_toArray, List.append_toArray, List.nil_append, List.cons_append]
  gi_wp2
  gi_loopw [3] (fun i wr => ∃ (k m : Nat) (h : k + m = xs.length), i = .int .i64 ((m : Int) - 1) ∧ J (backI xs.length k (by omega)) wr ∧ BackKeeps Bs n₀ W wr)
    (fun i _ => (intOf i + 1).toNat)
  case atStart => exact ⟨0, xs.length, by omega, rfl, h0, fun _ h => h, Below.refl _ _⟩
  case round =>
    obtain ⟨k, m, hkm, rfl, hJs, hkp⟩ := hrel
    cases m with
    | zero =>
      have i0 : ¬ (0 : Int) ≤ (((0 : Nat) : Int) - 1) := by omega
      obtain rfl : k = xs.length := by omega
      gi_wp2
      go_end0
      exact ⟨⟨_, rfl⟩, .inl hJs⟩
    | succ i =>
      rw [show ((i + 1 : Nat) : Int) - 1 = (i : Int) by omega]
      have hi : i < xs.length := by omega
      obtain ⟨fn, tmps, assign, body, hy, hR⟩ := hY _ ⟨i, hi⟩ wr hJs (by rw [backI_len]; omega)
      have cB := hkp.1 _ HB.out
      have cE : ∀ j, j < 4 → wr.cell? ⟨g, off + i * 4 + j, none⟩ = (entCells xs[i])[j]? := fun j hj => (hkp.2.cell (p := ⟨g, off + i * 4 + j, none⟩) hg).trans (HC.out i hi j hj)
      have e0 : wr.cell? ⟨g, off + i * 4, none⟩ = some (.int .u16 xs[i].tag) := cE 0 (by omega)
      have e1 : wr.cell? ⟨g, off + i * 4 + 1, none⟩ = some (.int .u32 xs[i].at_) := cE 1 (by omega)
      have e2 : wr.cell? ⟨g, off + i * 4 + 2, none⟩ = some (.int .u16 xs[i].sec) := cE 2 (by omega)
      have e3 : wr.cell? ⟨g, off + i * 4 + 3, none⟩ = some (.int .u64 xs[i].turn) := cE 3 (by omega)
      clear cE
      unfold encB entV at hy
      dsimp only at hy
      have hsn : backI xs.length (k + 1) (by omega) = backI xs.length k (by omega) ++ [⟨i, hi⟩] := by
        simp only [backI]
        congr 2
        apply Fin.ext
        simp only
        omega
      have w1 : IntKind.i64.wrap ((i : Int) - 1) = (i : Int) - 1 := by rw [IntKind.wrap_i64]; omega
      gi_wp2
      refine hR.mono ?_
      rintro e W3 (⟨rfl, hJ3, hk3⟩ | ⟨rfl, hJx3⟩)
      · gi_wp2
        go_roundw
        case rel => exact ⟨k + 1, i, by omega, rfl, by rw [hsn]; exact hJ3, hkp.trans hk3⟩
        case measure => simp [intOf]
      · gi_wp2
        refine bodyPost_ret (results_none rfl _ _ _) rfl ?_
        exact ⟨⟨_, rfl⟩, .inr ⟨_, ⟨k + 1, by omega, rfl⟩, by rw [hsn]; exact hJx3⟩⟩
/-- What slices.Backward hands back, as an iterator's contract. -/
theorem back_stops (F : Fence) (n : Nat) (hf : F.fn 48) (hro : F.round = none) (hn : 1 ≤ n) (Bs n₀ g off cap : Nat) (xs : List Ent) (hx : xs.length ≤ 1000000) (hg : g < n₀) (w : World) (hlt : Bs < w.heap.size) (hn₀ : n₀ ≤ w.heap.size)
    (hBs : w.cell? ⟨Bs, 0, none⟩ = some (.slice (some ⟨g, off, none⟩) xs.length cap)) (hc : ∀ k (h : k < xs.length) j, j < 4 → w.cell? ⟨g, off + k * 4 + j, none⟩ = (entCells xs[k])[j]?) :
    SeqStopsK F n Try.prog 48 #[.pointer (some ⟨Bs, 0, none⟩)] (encB xs) (BackKeeps Bs n₀) (fun ys => ys = backI xs.length xs.length (Nat.le_refl _)) (fun pre => ∃ k, ∃ hk : k ≤ xs.length, pre = backI xs.length k hk) xs.length w := fun l J Jx W hW _ _ hY h0 =>
  back1_in F n hf hro hn l Bs n₀ g off cap xs hx hg J Jx hY W ((hW.cell (p := ⟨Bs, 0, none⟩) hlt).trans hBs) (fun k h j hj => (hW.cell (p := ⟨g, off + k * 4 + j, none⟩) (by simp only; omega)).trans (hc k h j hj)) h0
theorem backKeeps_t {Bs n₀ : Nat} {A B C : World} (h : BackKeeps Bs n₀ A B) (k : BackKeeps Bs n₀ B C) : BackKeeps Bs n₀ A C := h.trans k
theorem backKeeps_b {Bs n₀ : Nat} {w : World} (hn : n₀ ≤ w.heap.size) (W : World) (l : Nat) (o o' : Obj) (hl : w.heap.size ≤ l) (h : W.heap[l]? = some o) (ho : o.isCells = false) (hw : o.isWalk = false) : BackKeeps Bs n₀ W (W.putObj l o') :=
  ⟨fun v hv => by
    have hne : Bs ≠ l := by
      rintro rfl
      cases o <;> simp [World.cell?, h, Obj.isCells] at hv ho
    exact cell_kept hv (grownBy_putObj' W l o') (fun r e => by cases e; exact ⟨_, h, ho⟩), belowK_b hn W l o o' hl h ho hw⟩
end Go.Proofs.Ytihbjkdgfflnfaa
namespace Go.Proofs.Ytihbjkdgfflnfaa
open Go.RowKit

def coll (T : Nat) (row : List Ent) (pre : List (Fin row.length)) : List Ent := (pre.map fun i => row[i.1]).filter fun e => decide (e.tag = T)
theorem coll_nil (T : Nat) (row : List Ent) : coll T row [] = [] := rfl
theorem coll_hit {T : Nat} {row : List Ent} {pre : List (Fin row.length)} {i : Fin row.length} (h : row[i.1].tag = T) : coll T row (pre ++ [i]) = coll T row pre ++ [row[i.1]] := by
  unfold coll; rw [List.map_append, List.filter_append]; simp [h]
theorem coll_miss {T : Nat} {row : List Ent} {pre : List (Fin row.length)} {i : Fin row.length} (h : row[i.1].tag ≠ T) : coll T row (pre ++ [i]) = coll T row pre := by
  unfold coll; rw [List.map_append, List.filter_append]; simp [h]
theorem coll_len (T : Nat) (row : List Ent) (pre : List (Fin row.length)) : (coll T row pre).length ≤ pre.length := by
  unfold coll
  exact Nat.le_trans (List.length_filter_le _ _) (by simp)
theorem coll_back (T : Nat) (row : List Ent) : ∀ (k : Nat) (h : k ≤ row.length), coll T row (backI row.length k h) ++ probeK T row (row.length - k) = probeF T row
  | 0, _ => by simp [backI, coll, probeF]
  | k + 1, h => by
    have ih := coll_back T row k (by omega)
    have hi : row.length - (k + 1) < row.length := by omega
    have e1 : row.length - k = (row.length - (k + 1)) + 1 := by omega
    have e2 : (⟨row.length - 1 - k, by omega⟩ : Fin row.length) = ⟨row.length - (k + 1), hi⟩ := Fin.ext (by simp only; omega)
    rw [e1] at ih
    simp only [backI]
    rw [e2]
    by_cases ht : row[row.length - (k + 1)].tag = T
    · rw [coll_hit ht, List.append_assoc, ← ih, probeK_hit hi ht]; rfl
    · rw [coll_miss ht, ← ih, probeK_miss hi ht]
theorem coll_all (T : Nat) (row : List Ent) : coll T row (backI row.length row.length (Nat.le_refl _)) = probeF T row := by
  have := coll_back T row row.length (Nat.le_refl _)
  rw [Nat.sub_self] at this
  simpa [probeK] using this
end Go.Proofs.Ytihbjkdgfflnfaa
namespace Go.Proofs.Ytihbjkdgfflnfaa
open Go.RowKit Go.Shelf
attribute [local go_sem] Oper.semAt_some

/-- The load of a whole row, as one step of a region in a round. -/
theorem step_loadrow_in {n l : Nat} {P : Program} {ops : Array Oper} {o : Oper} {a : Act} {w : World} {K : Act → World → Prop} {Q : Exit → Act → World → Prop} {E : Prop} (hgd : o.guard = none) (ty : TypeId) (x : Operand) (ho : o.op = .load ty x) (b off : Nat) (hx : a.eval x = .pointer (some ⟨b, off, none⟩)) (cs : Array Value)
    (hl : (loadVar ty ⟨b, off, none⟩).run P w = .ok (.agg cs) w) (hK : K (a.put o.dst (.agg cs)) w) : if Region.wanted o (yielded ops a.tmps) = true then Oper.wpIn (Fence.wide.inRound l) n P o a w K Q else E := by
  have hw : Region.wanted o (yielded ops a.tmps) = true := by simp [Region.wanted, hgd]
  rw [if_pos hw]
  refine ⟨fun _ _ => trivial, ?_⟩
  have e : o.semAt (Fence.wide.inRound l).round a.eval = execOp a.eval o := Oper.semAt_some l a.eval o (fun c h => by rw [ho] at h; cases h)
  rw [e]
  simp only [execOp, ho, hx, Instr.loadAt, Instr.sureAddr, Sem.run_bind, Sem.run_pure, Result.andThen_ok, hl]
  exact hK
theorem wpListIn_append_fact {F : Fence} {n : Nat} {P : Program} {w : World} {ops : Array Oper} {rest : List Oper} {o : Oper} {a : Act} {Q : Exit → Act → World → Prop} (hgd : o.guard = none) (s x : Operand) (t : TypeId)
    (ho : o.op = .call { callee := .builtin .append, args := #[s, x], argTypes := #[t, t] }) (v u : Value) (hs : a.eval s = v) (hx : a.eval x = u) {v' : Value} {w' : World}
    (hr : (Builtin.append_ #[t, t] o.type #[v, u]).run P w = .ok v' w') (h : wpListIn F n P ops Q rest (a.put o.dst v') w') : wpListIn F n P ops Q (o :: rest) a w := by
  refine wpListIn_plain hgd fun K hK => ?_
  unfold Oper.wpIn
  refine ⟨by simp [Oper.about, ho, resolve, Target.leads, Sem.run_pure], ?_⟩
  rw [Oper.semAt_plain F _ _ (by rw [ho]; intro c hc'; cases hc')]
  simp [execOp, ho, resolve, invoke, builtin, hs, hx, hr, Result.andThen]
  exact hK _ _ h
/-- What holds between two rounds. -/
structure PI (w : World) (base : Nat) (K : List UInt8) (T : Nat) (row : List Ent) (pre : List (Fin row.length)) (W : World) : Prop where
  sz : base ≤ W.heap.size
  sp : Spares nowhere w W
  key : W.heap[w.heap.size]? = some (.cells (bytesV K) 36 (0, 0))
  out : ∃ r, W.heap[w.heap.size + 1]? = some (.cells #[.slice (Row.ad r) (coll T row pre).length r.cap] 38 (0, 0)) ∧ RowAt (fun k => base ≤ k) W r (coll T row pre)
theorem PI.turned {w : World} {base : Nat} {K : List UInt8} {T : Nat} {row : List Ent} {pre : List (Fin row.length)} {A B : World} {q : Option Nat} (h : PI w base K T row pre A) (hg : A.grownBy B q) (hr : ∀ k, q = some k → w.heap.size ≤ k ∧ ∃ o : Obj, A.heap[k]? = some o ∧ o.isCells = false) : PI w base K T row pre B := by
  have hs : Spares (fun k => q = some k) A B := (Spares.refl _ A).grown hg (fun k e => .inl e)
  have hno : ∀ k cs t f, A.heap[k]? = some (.cells cs t f) → ¬ q = some k := fun k cs t f hk e => by
    obtain ⟨_, o, ho, hc⟩ := hr k e
    rw [hk] at ho
    cases ho
    simp [Obj.isCells] at hc
  obtain ⟨r, h1, h2⟩ := h.out
  refine ⟨Nat.le_trans h.sz hg.size, h.sp.trans' hs (fun k e => .inr (hr k e).1), hs.heap h.key (hno _ _ _ _ h.key), r, hs.heap h1 (hno _ _ _ _ h1), h2.spares hs (fun b o e => ?_)⟩
  obtain ⟨cur, t, hb, _⟩ := (h2.room b o e).2
  exact hno _ _ _ _ hb
set_option maxRecDepth 100000 in
set_option maxHeartbeats 4000000 in
theorem probe_any (F : Nat → Prop) (p bk n s : Nat) (R : Nat → Row) (E : List (List Ent)) (K : List UInt8) (w : World) (h : IsDir F p bk n s R E w) (hK : K.length = 32) :
    Calls Try.prog 27 #[.pointer (some ⟨p, 0, none⟩), .agg (bytesV K)] w (ProbePost (atRow E (bktF K n)) (tagF K) w) := by
  have hEn := h.rows.len
  have hn0 := h.n0
  have hn1 := h.n1
  obtain ⟨b, hb⟩ : ∃ b, bktF K n = b := ⟨_, rfl⟩
  have hbn : b < n := by rw [← hb]; exact bktF_lt K n h.n0
  obtain ⟨row, hrow⟩ : ∃ row, atRow E b = row := ⟨_, rfl⟩
  have hrow' : E[b]'(by omega) = row := by rw [← hrow]; unfold atRow; rw [List.getD_eq_getElem?_getD, List.getElem?_eq_getElem (by omega)]; rfl
  have hle : row.length ≤ 16 := by rw [← hrow']; exact Nat.le_trans (h.lens _ (List.getElem_mem _)) h.s1
  obtain ⟨hcp, ⟨g, off⟩, hRa⟩ := h.cap b hbn
  have hgl : g < w.heap.size := ((h.rows.row b (by omega)).room g off hRa).2.lt
  have hcell : ∀ W, Spares nowhere w W → W.cell? ⟨p, 1, none⟩ = some (.slice (some ⟨bk, 0, none⟩) n n) ∧ W.cell? ⟨bk, b, none⟩ = some (.slice (some ⟨g, off, none⟩) row.length s) ∧ ∀ k (hk : k < row.length) j, j < 4 → W.cell? ⟨g, off + k * 4 + j, none⟩ = (entCells row[k])[j]? := fun W hW => by
    have h' := h.spares hW (fun _ _ _ h => h)
    have hc := (h'.rows.cell b (by omega)).1
    have hr := (h'.rows.row b (by omega)).ents g off hRa
    rw [hrow', hcp] at hc
    rw [hc]
    refine ⟨by rw [Lib.cell_of_heap h'.hd]; rfl, by simp [Row.ad, hRa], fun k hk j hj => ?_⟩
    have := hr k (by rw [hrow']; exact hk) j hj
    rw [this]
    simp only [hrow']
  rw [hb, hrow]
  obtain ⟨T, hT⟩ : ∃ T, tagF K = T := ⟨_, rfl⟩
  rw [hT]
  obtain ⟨v, hv⟩ : ∃ v, (w.alloc (.cells (bytesV K) 36)).alloc (.cells #[.slice none 0 0] 38) = v := ⟨_, rfl⟩
  have hs : Spares nowhere w v := by rw [← hv]; exact ((Spares.refl _ w).alloc _).alloc _
  have hvs : v.heap.size = w.heap.size + 2 := by rw [← hv]; simp
  have hkb : v.heap[w.heap.size]? = some (.cells (bytesV K) 36 (0, 0)) := by rw [← hv]; exact (Below.heap_alloc _ _ _ (by simp)).trans (heap_alloc_new w _)
  have hlb : v.heap[w.heap.size + 1]? = some (.cells #[.slice none 0 0] 38 (0, 0)) := by
    rw [← hv]
    have := heap_alloc_new (w.alloc (.cells (bytesV K) 36)) (.cells #[.slice none 0 0] 38)
    simpa using this
  have infoC : (Try.prog.info? 36).map (·.size) = some (Lib.byteCells K).length := by rw [byteCells_len, hK]; kernel_rfl
  have hkr : ∀ W : World, W.heap[w.heap.size]? = some (.cells (bytesV K) 36 (0, 0)) → W.rangeAt w.heap.size 0 (Lib.byteCells K) := fun W hW j u hj => by
    rw [Lib.cell_of_heap hW, Nat.zero_add]; simpa [bytesV] using hj
  have C1 : Hid (∀ x : Kin v, Calls Try.prog 30 #[.pointer (some ⟨p, 0, none⟩), .agg (bytesV K)] x.wd fun e w'' => e = .returned (.int .i64 b) ∧ ∃ y : Kin v, w'' = y.wd) := Lib.hid (fun x => Kin.calls ((bucket_any K p n n _ x.wd hK hn0 hn1 (hcell _ (hs.trans (Below.spares x.below (fun k hk => .inr hk)))).1).mono (by rintro e w' ⟨rfl, hs⟩; exact ⟨by rw [hb], hs.below0⟩)))
  have k0 : ∀ x : Kin v, x.wd.cell? ⟨p, 1, none⟩ = some (.slice (some ⟨bk, 0, none⟩) n n) := fun x => (hcell _ (hs.trans (Below.spares x.below (fun k hk => .inr hk)))).1
  have k1 : ∀ x : Kin v, x.wd.cell? ⟨bk, b, none⟩ = some (.slice (some ⟨g, off, none⟩) row.length s) := fun x => (hcell _ (hs.trans (Below.spares x.below (fun k hk => .inr hk)))).2.1
  have KK : Hid (∀ W, (∃ x : Kin v, W = x.wd) → W.rangeAt w.heap.size 0 (Lib.byteCells K)) := Lib.hid (by rintro W ⟨x, rfl⟩; exact hkr _ ((Below.spares (F := nowhere) x.below (fun k hk => .inr hk)).heap hkb (fun h => h)))
  have HV := Lib.hid hv
  have HVS := Lib.hid hvs
  have HS := Lib.hid hs
  have HC := Lib.hid hcell
  have HI := Lib.hid infoC
  have HKR := Lib.hid hkr
  have HKB := Lib.hid hkb
  have HLB := Lib.hid hlb
  have HHK := Lib.hid hK
  have HT := Lib.hid hT
  clear hv hvs hs hkb hlb h hrow hrow' hb hcell infoC hkr hT hcp hRa hK
  refine (callsIn_wide (n := 9)).1 ?_
  refine callsIn_of_wp_marks Try.func27 rfl trivial ?_ rfl
  simp only [Try.ntmps27, List.size_toArray, List.length_cons, List.length_nil, Nat.reduceAdd, Nat.reduceSub, Array.replicate_succ, Array.replicate_zero, List.push_toArray, List.append_toArray, List.nil_append, List.cons_append]
  refine wpIn_wide.2 ?_
  go_upto_region 2 with (fail)
  rw [HV.out]
  refine wp_region_kin_tail 9 (by kernel_rfl) (by kernel_rfl) ?_
  simp only [List.take_succ_cons, List.take_zero, List.drop_succ_cons, List.drop_zero]
  repeat (first
    | (refine wpQuiet_step (fun K9 hK9 => ?_); refine quiet_if (.agg (bytesV K)) (by rfl) (fun W hW => quiet_load 36 (.tmp 3) rfl w.heap.size 0 rfl (Lib.byteCells K) _ W (KK.out W hW) Try.underlying36 rfl HI.out) ?_; go_simp; refine hK9 _ ?_; clear hK9 K9)
    | go_big_quiet_step ((go_at_call 30; with_reducible exact C1.out _)))
  refine wpQuiet_nil ?_
  intro _ hx
  obtain ⟨x, rfl⟩ := hx
  have HX : Hid (Spares nowhere v x.wd) := Lib.hid (Below.spares x.below (fun k hk => .inr hk))
  clear k0 k1 C1 KK
  go_wp2_with fail
  refine (callsIn_wide.1 (backward_in Fence.wide 1 trivial rfl (some ⟨g, off, none⟩) row.length s x.wd)).mono ?_
  rintro e w' ⟨rfl, rfl⟩
  go_wp2
  obtain ⟨q, hq⟩ : ∃ q, x.wd.heap.size = q := ⟨_, rfl⟩
  obtain ⟨W0, hW0⟩ : ∃ W0, x.wd.alloc (.cells #[.slice (some ⟨g, off, none⟩) row.length s] 38) = W0 := ⟨_, rfl⟩
  have hsz : W0.heap.size = q + 1 := by rw [← hW0, ← hq]; simp
  have hvW : Spares nowhere v W0 := by rw [← hW0]; exact HX.out.alloc _
  have hqg : w.heap.size + 2 ≤ q := by have h1 := HX.out.size; have h2 := HVS.out; omega
  have hBs : W0.cell? ⟨q, 0, none⟩ = some (.slice (some ⟨g, off, none⟩) row.length s) := by
    rw [← hW0, ← hq, Lib.cell_of_heap (heap_alloc_new x.wd _)]; rfl
  have hP0 : PI w (q + 1) K T row [] W0 := ⟨by omega, HS.out.trans hvW, hvW.heap HKB.out (fun h => h), ⟨none, 0⟩, hvW.heap HLB.out (fun h => h), ⟨by simp [coll], fun _ => rfl, fun b o e => by simp at e, fun b o e => by simp at e⟩⟩
  rw [hq, hW0]
  refine (wpIn_wide (n := 9)).1 ?_
  refine wpIn_rangeFunc_ownH (F := Fence.wide) rfl (by omega) (gf := 48) (lb := #[.pointer (some ⟨q, 0, none⟩)]) rfl trivial (enters_of Try.func48 (by kernel_rfl) rfl)
    (back_stops Fence.wide 8 trivial rfl (by omega) q w.heap.size g off s row (by omega) hgl W0 (by omega) (by omega) hBs (HC.out W0 hP0.sp).2.2) backKeeps_t (backKeeps_b (by omega)) (Below.refl _ _) (fun _ => rfl)
    (fun pre W => PI w (q + 1) K T row pre W)
    (fun _ _ _ => False)
    (fun pre A B row' hs hg hr => hs.turned hg (fun k e => ⟨by have := (hr k e).1; omega, (hr k e).2⟩))
    (fun _ _ _ _ _ hs _ _ => hs)
    hP0
    (fun i a' W => ∃ Bx, q < Bx ∧ W.heap[Bx]? = some (.cells #[.int .u16 row[i.1].tag, .int .u32 row[i.1].at_, .int .u16 row[i.1].sec, .int .u64 row[i.1].turn] 41 (0, 0)) ∧ a' = { tmps := #[.pointer (some ⟨p, 0, none⟩), .agg (bytesV K), undef, .pointer (some ⟨w.heap.size, 0, none⟩), .slice none 0 0, .pointer (some ⟨w.heap.size + 1, 0, none⟩), undef, .pointer (some ⟨Bx, 0, none⟩), .pointer (some ⟨p, 0, none⟩), .pointer (some ⟨p, 0, none⟩), .pointer (some ⟨p, 1, none⟩), .slice (some ⟨bk, 0, none⟩) n n, .pointer (some ⟨p, 0, none⟩), .agg (bytesV K), .int .i64 b, .pointer (some ⟨bk, b, none⟩), .slice (some ⟨g, off, none⟩) row.length s, .func (.func 48) #[] #[.pointer (some ⟨q, 0, none⟩)], .int .i64 (i.1 : Int), entV row[i.1], undef, undef, undef, undef, undef, undef, undef, undef, undef, undef], defers := [] })
    ?hAx ?assign ?body ?done ?stop
  case hAx =>
    rintro i a' _ A B row' ⟨Bx, h1, h2, h3⟩ hg hr
    refine ⟨Bx, h1, ?_, h3⟩
    rw [hg.block Bx (Array.getElem?_eq_some_iff.1 h2).1 (fun e => by
      obtain ⟨_, o, ho, hc⟩ := hr Bx e.symm
      rw [h2] at ho
      cases ho
      simp [Obj.isCells] at hc)]
    exact h2
  case assign =>
    rintro l pre i W K9 hi hK9
    simp only [encB, entV]
    gi_wp2
    refine hK9 _ _ ((KeepsOthers.alloc _ _).from _) ⟨fun u hu => (World.cell?_of_block (Below.heap_alloc W _ q (cellB_lt hu))).trans hu, (Below.refl _ W).alloc hi.sp.size _⟩ (hi.turned (World.grownBy_alloc W _ none) (fun k e => by cases e)) ⟨W.heap.size, hi.sz, heap_alloc_new W _, rfl⟩
  case body =>
    rintro l pre i a' W hl1 ⟨rc, hrc⟩ hi ⟨Bx, hBx, hbx, rfl⟩ hlt
    obtain ⟨r, hlo, hro⟩ := hi.out
    obtain ⟨t0, ht0⟩ : ∃ t0, row[i.1].tag = t0 := ⟨_, rfl⟩
    have c0 : W.cell? ⟨Bx, 0, none⟩ = some (.int .u16 t0) := by rw [Lib.cell_of_heap hbx, ← ht0]; rfl
    have hL : (loadVar 36 ⟨w.heap.size, 0, none⟩).run Try.prog W.drew = .ok (.agg (bytesV K)) W.drew := run_loadVar_mid W.drew w.heap.size 0 36 (Lib.byteCells K) _ (fun j v hj => HKR.out W hi.key j v hj) Try.underlying36 rfl HI.out
    have CT : Hid (∀ V, Spares nowhere W V → Calls Try.prog 34 #[.agg (bytesV K)] V fun e w' => e = .returned (.int .u16 (T : Nat)) ∧ Hid (Spares nowhere W w') ∧ w'.cell? ⟨Bx, 0, none⟩ = some (.int .u16 t0)) := Lib.hid (fun V hV => (tag_any K V HHK.out).mono (by
      rintro e w' ⟨rfl, hs⟩
      exact ⟨by rw [HT.out], hV.trans hs, ((hV.trans hs).cell (p := ⟨Bx, 0, none⟩) (cellB_lt c0) (fun h => h)).trans c0⟩))
    have hdr : Spares nowhere W W.drew := (Spares.refl _ _).drew
    have hlen : (coll T row pre).length ≤ 16 := Nat.le_trans (coll_len T row pre) (by omega)
    by_cases ht : t0 = T
    · have j0 : ((t0 : Int) == (T : Int)) = true := by simp [ht]
      have htag : row[i.1].tag = T := ht0.trans ht
      have HH : Hid (∀ wn, Spares nowhere W wn → wn.cell? ⟨w.heap.size + 1, 0, none⟩ = some (.slice (Row.ad r) (coll T row pre).length r.cap) ∧ wn.cell? ⟨Bx, 0, none⟩ = some (.int .u16 row[i.1].tag) ∧ wn.cell? ⟨Bx, 1, none⟩ = some (.int .u32 row[i.1].at_) ∧ wn.cell? ⟨Bx, 2, none⟩ = some (.int .u16 row[i.1].sec) ∧ wn.cell? ⟨Bx, 3, none⟩ = some (.int .u64 row[i.1].turn) ∧
          ∃ (r9 : Row) (w4 : World), (Builtin.append_ #[38, 38] 38 #[.slice (Row.ad r) (coll T row pre).length r.cap, .slice (some ⟨wn.heap.size, 0, none⟩) 1 1]).run Try.prog (wn.alloc (.cells #[.int .u16 row[i.1].tag, .int .u32 row[i.1].at_, .int .u16 row[i.1].sec, .int .u64 row[i.1].turn] 41)) = .ok (.slice (Row.ad r9) ((coll T row pre).length + 1) r9.cap) w4 ∧
            w4.cell? ⟨w.heap.size + 1, 0, none⟩ = some (.slice (Row.ad r) (coll T row pre).length r.cap) ∧ w4.frozen? ⟨w.heap.size + 1, 0, none⟩ = false ∧
            (KeepsFrom W0.heap.size W (w4.setCell ⟨w.heap.size + 1, 0, none⟩ (.slice (Row.ad r9) ((coll T row pre).length + 1) r9.cap)) ∧ BackKeeps q w.heap.size W (w4.setCell ⟨w.heap.size + 1, 0, none⟩ (.slice (Row.ad r9) ((coll T row pre).length + 1) r9.cap)) ∧ PI w (q + 1) K T row (pre ++ [i]) (w4.setCell ⟨w.heap.size + 1, 0, none⟩ (.slice (Row.ad r9) ((coll T row pre).length + 1) r9.cap)))) := Lib.hid (fun wn hs => by
        have hb := hs.heap hbx (fun h => h)
        have hl4 := hs.heap hlo (fun h => h)
        have h0 := hs.alloc (.cells #[.int .u16 row[i.1].tag, .int .u32 row[i.1].at_, .int .u16 row[i.1].sec, .int .u64 row[i.1].turn] 41)
        obtain ⟨r9, w4, hrun, hr9, hsp, _, _⟩ := append_ent (hro.spares h0 (fun _ _ _ h => h)) row[i.1] ⟨wn.heap.size, 0, none⟩ 38 (ent_new wn row[i.1]) (by omega)
        have hrb : ∀ k, (∃ o, r.a = some (k, o)) → q + 1 ≤ k ∧ HasRoom W k 0 := fun k ⟨o, e⟩ => ⟨(hro.room k o e).1, by
          obtain ⟨cur, t, hc, _⟩ := (hro.room k o e).2
          exact ⟨cur, t, hc, Nat.zero_le _⟩⟩
        have hnl : ¬ ∃ o, r.a = some (w.heap.size + 1, o) := fun h => by have := (hrb _ h).1; omega
        have hl5 := hsp.heap (h0.heap hlo (fun h => h)) hnl
        have hS4 : Spares (fun k => k = w.heap.size + 1 ∨ ∃ o, r.a = some (k, o)) W w4 := (h0.mono (fun _ h => h.elim) : Spares (fun k => k = w.heap.size + 1 ∨ ∃ o, r.a = some (k, o)) W _).trans' hsp (fun k e => .inl (.inr e))
        have hS5 := hS4.setCell (p := ⟨w.heap.size + 1, 0, none⟩) (.inl (.inl rfl)) (.slice (Row.ad r9) ((coll T row pre).length + 1) r9.cap)
        have hgl : (w4.setCell ⟨w.heap.size + 1, 0, none⟩ (.slice (Row.ad r9) ((coll T row pre).length + 1) r9.cap)).heap[w.heap.size + 1]? = some (.cells #[.slice (Row.ad r9) ((coll T row pre).length + 1) r9.cap] 38 (0, 0)) := by
          simp [World.setCell, Array.getElem?_modify, hl5]
        have hsz9 : W.heap.size ≤ (wn.alloc (.cells #[.int .u16 row[i.1].tag, .int .u32 row[i.1].at_, .int .u16 row[i.1].sec, .int .u64 row[i.1].turn] 41)).heap.size := h0.size
        have hisz := hi.sz
        have hr9' : RowAt (fun k => q + 1 ≤ k) w4 r9 (coll T row pre ++ [row[i.1]]) := hr9.mono (fun k hk => by
          rcases hk with hk | ⟨rfl, _⟩
          · exact hk
          · omega)
        refine ⟨by rw [Lib.cell_of_heap hl4]; rfl, by rw [Lib.cell_of_heap hb]; rfl, by rw [Lib.cell_of_heap hb]; rfl, by rw [Lib.cell_of_heap hb]; rfl, by rw [Lib.cell_of_heap hb]; rfl, r9, w4, hrun, by rw [Lib.cell_of_heap hl5]; rfl, Lib.frozen_of_heap hl5 0, ⟨hS5.size, fun k o _ hk ho => hS5.heap hk (fun hG => ?_)⟩, ⟨fun u hu => (hS5.cell (p := ⟨q, 0, none⟩) (cellB_lt hu) (fun hG => ?_)).trans hu, hS5.below hi.sp.size (fun k hk hG => ?_)⟩, ⟨Nat.le_trans hi.sz hS5.size, hi.sp.trans' hS5 (fun k hG => .inr ?_), hS5.heap hi.key (fun hG => ?_), r9, ?_, ?_⟩⟩
        · rcases hG with rfl | hG
          · rw [hlo] at hk; cases hk; simp [Obj.isCells] at ho
          · obtain ⟨cur, t, hc, _⟩ := (hrb _ hG).2
            rw [hc] at hk; cases hk; simp [Obj.isCells] at ho
        · rcases hG with hG | hG
          · simp only at hG; omega
          · have := (hrb _ hG).1; simp only at this; omega
        · rcases hG with hG | hG
          · omega
          · have := (hrb _ hG).1; omega
        · rcases hG with hG | hG
          · omega
          · have := (hrb _ hG).1; omega
        · rcases hG with hG | hG
          · omega
          · have := (hrb _ hG).1; omega
        · rw [coll_hit htag, List.length_append, List.length_singleton]; exact hgl
        · rw [coll_hit htag]
          exact hr9'.spares ((Spares.refl (fun k => k = w.heap.size + 1) w4).setCell (p := ⟨w.heap.size + 1, 0, none⟩) (.inl rfl) _) (fun b' o' e h => by have := (hr9'.room b' o' e).1; omega))
      rw [ht0] at HH
      clear hi hbx hlo hro ht0 htag ht
      gi_wp2
      refine wpIn_region_any (by kernel_rfl) ?_
      try (change wpAnyIn _ _ _ _ _ _ _ _ _ (World.drew _))
      refine wpAnyIn_ready (rs := [0, 2]) (by kernel_rfl) (by simp) ?_
      refine AllReadyIn.cons rfl (fun K9 hK9 => ?_) ?_
      · go_simp
        refine hK9 _ _ ?_
        clear hK9 K9
        refine wpAnyIn_ready (rs := [1, 2]) (by kernel_rfl) (by simp) ?_
        refine AllReadyIn.cons rfl (fun K9 hK9 => ?_) ?_
        · go_simp
          refine hK9 _ _ ?_
          clear hK9 K9
          refine wpAnyIn_ready (rs := [2]) (by kernel_rfl) (by simp) ?_
          refine AllReadyIn.cons rfl (fun K9 hK9 => ?_) ?_
          · refine step_loadrow_in rfl 36 (.tmp 3) rfl w.heap.size 0 rfl (bytesV K) hL ?_
            go_simp
            refine hK9 _ _ ?_
            clear hK9 K9
            refine wpAnyIn_ready (rs := [3]) (by kernel_rfl) (by simp) ?_
            refine AllReadyIn.cons rfl (fun K9 hK9 => ?_) ?_
            · go_simp
              refine ⟨trivial, ?_⟩
              refine (CallsIn.inRound l (callsIn_wide.2 (CT.out _ (by assumption)))).mono ?_
              rintro e wn ⟨rfl, hsn, z0⟩
              try go_simp
              refine hK9 _ _ ?_
              clear hK9 K9
              refine wpAnyIn_ready (rs := [4]) (by kernel_rfl) (by simp) ?_
              refine AllReadyIn.cons rfl (fun K9 hK9 => ?_) ?_
              · go_simp
                refine hK9 _ _ ?_
                clear hK9 K9
                refine wpAnyIn_done (by kernel_rfl) ?_ _
                obtain ⟨cl, e0, e1, e2, e3, r9, w4, hrun, c4, f4, hfin⟩ := HH.out wn hsn.out
                gi_wp2_with ((with_reducible show wpListIn _ _ _ _ _ (⟨some 28, _, _, _, _, _⟩ :: _) _ _); refine wpListIn_append_fact rfl (.tmp 25) (.tmp 27) 38 rfl (.slice r.ad (coll T row pre).length r.cap) (.slice (some ⟨wn.heap.size, 0, none⟩) 1 1) rfl rfl hrun ?_)
                exact hfin
              exact AllReadyIn.nil
            exact AllReadyIn.nil
          exact AllReadyIn.nil
        refine AllReadyIn.cons rfl (fun K9 hK9 => ?_) ?_
        · refine step_loadrow_in rfl 36 (.tmp 3) rfl w.heap.size 0 rfl (bytesV K) hL ?_
          go_simp
          refine hK9 _ _ ?_
          clear hK9 K9
          refine wpAnyIn_ready (rs := [1, 3]) (by kernel_rfl) (by simp) ?_
          refine AllReadyIn.cons rfl (fun K9 hK9 => ?_) ?_
          · go_simp
            refine hK9 _ _ ?_
            clear hK9 K9
            refine wpAnyIn_ready (rs := [3]) (by kernel_rfl) (by simp) ?_
            refine AllReadyIn.cons rfl (fun K9 hK9 => ?_) ?_
            · go_simp
              refine ⟨trivial, ?_⟩
              refine (CallsIn.inRound l (callsIn_wide.2 (CT.out _ (by assumption)))).mono ?_
              rintro e wn ⟨rfl, hsn, z0⟩
              try go_simp
              refine hK9 _ _ ?_
              clear hK9 K9
              refine wpAnyIn_ready (rs := [4]) (by kernel_rfl) (by simp) ?_
              refine AllReadyIn.cons rfl (fun K9 hK9 => ?_) ?_
              · go_simp
                refine hK9 _ _ ?_
                clear hK9 K9
                refine wpAnyIn_done (by kernel_rfl) ?_ _
                obtain ⟨cl, e0, e1, e2, e3, r9, w4, hrun, c4, f4, hfin⟩ := HH.out wn hsn.out
                gi_wp2_with ((with_reducible show wpListIn _ _ _ _ _ (⟨some 28, _, _, _, _, _⟩ :: _) _ _); refine wpListIn_append_fact rfl (.tmp 25) (.tmp 27) 38 rfl (.slice r.ad (coll T row pre).length r.cap) (.slice (some ⟨wn.heap.size, 0, none⟩) 1 1) rfl rfl hrun ?_)
                exact hfin
              exact AllReadyIn.nil
            exact AllReadyIn.nil
          refine AllReadyIn.cons rfl (fun K9 hK9 => ?_) ?_
          · go_simp
            refine ⟨trivial, ?_⟩
            refine (CallsIn.inRound l (callsIn_wide.2 (CT.out _ (by assumption)))).mono ?_
            rintro e wn ⟨rfl, hsn, z0⟩
            try go_simp
            refine hK9 _ _ ?_
            clear hK9 K9
            refine wpAnyIn_ready (rs := [1]) (by kernel_rfl) (by simp) ?_
            refine AllReadyIn.cons rfl (fun K9 hK9 => ?_) ?_
            · go_simp
              refine hK9 _ _ ?_
              clear hK9 K9
              refine wpAnyIn_ready (rs := [4]) (by kernel_rfl) (by simp) ?_
              refine AllReadyIn.cons rfl (fun K9 hK9 => ?_) ?_
              · go_simp
                refine hK9 _ _ ?_
                clear hK9 K9
                refine wpAnyIn_done (by kernel_rfl) ?_ _
                obtain ⟨cl, e0, e1, e2, e3, r9, w4, hrun, c4, f4, hfin⟩ := HH.out wn hsn.out
                gi_wp2_with ((with_reducible show wpListIn _ _ _ _ _ (⟨some 28, _, _, _, _, _⟩ :: _) _ _); refine wpListIn_append_fact rfl (.tmp 25) (.tmp 27) 38 rfl (.slice r.ad (coll T row pre).length r.cap) (.slice (some ⟨wn.heap.size, 0, none⟩) 1 1) rfl rfl hrun ?_)
                exact hfin
              exact AllReadyIn.nil
            exact AllReadyIn.nil
          exact AllReadyIn.nil
        exact AllReadyIn.nil
      refine AllReadyIn.cons rfl (fun K9 hK9 => ?_) ?_
      · refine step_loadrow_in rfl 36 (.tmp 3) rfl w.heap.size 0 rfl (bytesV K) hL ?_
        go_simp
        refine hK9 _ _ ?_
        clear hK9 K9
        refine wpAnyIn_ready (rs := [0, 3]) (by kernel_rfl) (by simp) ?_
        refine AllReadyIn.cons rfl (fun K9 hK9 => ?_) ?_
        · go_simp
          refine hK9 _ _ ?_
          clear hK9 K9
          refine wpAnyIn_ready (rs := [1, 3]) (by kernel_rfl) (by simp) ?_
          refine AllReadyIn.cons rfl (fun K9 hK9 => ?_) ?_
          · go_simp
            refine hK9 _ _ ?_
            clear hK9 K9
            refine wpAnyIn_ready (rs := [3]) (by kernel_rfl) (by simp) ?_
            refine AllReadyIn.cons rfl (fun K9 hK9 => ?_) ?_
            · go_simp
              refine ⟨trivial, ?_⟩
              refine (CallsIn.inRound l (callsIn_wide.2 (CT.out _ (by assumption)))).mono ?_
              rintro e wn ⟨rfl, hsn, z0⟩
              try go_simp
              refine hK9 _ _ ?_
              clear hK9 K9
              refine wpAnyIn_ready (rs := [4]) (by kernel_rfl) (by simp) ?_
              refine AllReadyIn.cons rfl (fun K9 hK9 => ?_) ?_
              · go_simp
                refine hK9 _ _ ?_
                clear hK9 K9
                refine wpAnyIn_done (by kernel_rfl) ?_ _
                obtain ⟨cl, e0, e1, e2, e3, r9, w4, hrun, c4, f4, hfin⟩ := HH.out wn hsn.out
                gi_wp2_with ((with_reducible show wpListIn _ _ _ _ _ (⟨some 28, _, _, _, _, _⟩ :: _) _ _); refine wpListIn_append_fact rfl (.tmp 25) (.tmp 27) 38 rfl (.slice r.ad (coll T row pre).length r.cap) (.slice (some ⟨wn.heap.size, 0, none⟩) 1 1) rfl rfl hrun ?_)
                exact hfin
              exact AllReadyIn.nil
            exact AllReadyIn.nil
          refine AllReadyIn.cons rfl (fun K9 hK9 => ?_) ?_
          · go_simp
            refine ⟨trivial, ?_⟩
            refine (CallsIn.inRound l (callsIn_wide.2 (CT.out _ (by assumption)))).mono ?_
            rintro e wn ⟨rfl, hsn, z0⟩
            try go_simp
            refine hK9 _ _ ?_
            clear hK9 K9
            refine wpAnyIn_ready (rs := [1]) (by kernel_rfl) (by simp) ?_
            refine AllReadyIn.cons rfl (fun K9 hK9 => ?_) ?_
            · go_simp
              refine hK9 _ _ ?_
              clear hK9 K9
              refine wpAnyIn_ready (rs := [4]) (by kernel_rfl) (by simp) ?_
              refine AllReadyIn.cons rfl (fun K9 hK9 => ?_) ?_
              · go_simp
                refine hK9 _ _ ?_
                clear hK9 K9
                refine wpAnyIn_done (by kernel_rfl) ?_ _
                obtain ⟨cl, e0, e1, e2, e3, r9, w4, hrun, c4, f4, hfin⟩ := HH.out wn hsn.out
                gi_wp2_with ((with_reducible show wpListIn _ _ _ _ _ (⟨some 28, _, _, _, _, _⟩ :: _) _ _); refine wpListIn_append_fact rfl (.tmp 25) (.tmp 27) 38 rfl (.slice r.ad (coll T row pre).length r.cap) (.slice (some ⟨wn.heap.size, 0, none⟩) 1 1) rfl rfl hrun ?_)
                exact hfin
              exact AllReadyIn.nil
            exact AllReadyIn.nil
          exact AllReadyIn.nil
        refine AllReadyIn.cons rfl (fun K9 hK9 => ?_) ?_
        · go_simp
          refine ⟨trivial, ?_⟩
          refine (CallsIn.inRound l (callsIn_wide.2 (CT.out _ (by assumption)))).mono ?_
          rintro e wn ⟨rfl, hsn, z0⟩
          try go_simp
          refine hK9 _ _ ?_
          clear hK9 K9
          refine wpAnyIn_ready (rs := [0]) (by kernel_rfl) (by simp) ?_
          refine AllReadyIn.cons rfl (fun K9 hK9 => ?_) ?_
          · go_simp
            refine hK9 _ _ ?_
            clear hK9 K9
            refine wpAnyIn_ready (rs := [1]) (by kernel_rfl) (by simp) ?_
            refine AllReadyIn.cons rfl (fun K9 hK9 => ?_) ?_
            · go_simp
              refine hK9 _ _ ?_
              clear hK9 K9
              refine wpAnyIn_ready (rs := [4]) (by kernel_rfl) (by simp) ?_
              refine AllReadyIn.cons rfl (fun K9 hK9 => ?_) ?_
              · go_simp
                refine hK9 _ _ ?_
                clear hK9 K9
                refine wpAnyIn_done (by kernel_rfl) ?_ _
                obtain ⟨cl, e0, e1, e2, e3, r9, w4, hrun, c4, f4, hfin⟩ := HH.out wn hsn.out
                gi_wp2_with ((with_reducible show wpListIn _ _ _ _ _ (⟨some 28, _, _, _, _, _⟩ :: _) _ _); refine wpListIn_append_fact rfl (.tmp 25) (.tmp 27) 38 rfl (.slice r.ad (coll T row pre).length r.cap) (.slice (some ⟨wn.heap.size, 0, none⟩) 1 1) rfl rfl hrun ?_)
                exact hfin
              exact AllReadyIn.nil
            exact AllReadyIn.nil
          exact AllReadyIn.nil
        exact AllReadyIn.nil
      exact AllReadyIn.nil
    · have j0 : ((t0 : Int) == (T : Int)) = false := by simp; omega
      have htag : row[i.1].tag ≠ T := fun e => ht (ht0.symm.trans e)
      have HM : Hid (∀ wn, Spares nowhere W wn → KeepsFrom W0.heap.size W wn ∧ BackKeeps q w.heap.size W wn ∧ PI w (q + 1) K T row (pre ++ [i]) wn) := Lib.hid (fun wn hs =>
        ⟨⟨hs.size, fun k o _ hk _ => hs.heap hk (fun h => h)⟩, ⟨fun u hu => (hs.cell (p := ⟨q, 0, none⟩) (cellB_lt hu) (fun h => h)).trans hu, hs.below0.mono hi.sp.size⟩,
          ⟨Nat.le_trans hi.sz hs.size, hi.sp.trans hs, hs.heap hi.key (fun h => h), r, by rw [coll_miss htag]; exact hs.heap hlo (fun h => h), by rw [coll_miss htag]; exact hro.spares hs (fun _ _ _ h => h)⟩⟩)
      clear hi hbx hlo hro ht0 htag ht
      gi_wp2
      refine wpIn_region_any (by kernel_rfl) ?_
      try (change wpAnyIn _ _ _ _ _ _ _ _ _ (World.drew _))
      refine wpAnyIn_ready (rs := [0, 2]) (by kernel_rfl) (by simp) ?_
      refine AllReadyIn.cons rfl (fun K9 hK9 => ?_) ?_
      · go_simp
        refine hK9 _ _ ?_
        clear hK9 K9
        refine wpAnyIn_ready (rs := [1, 2]) (by kernel_rfl) (by simp) ?_
        refine AllReadyIn.cons rfl (fun K9 hK9 => ?_) ?_
        · go_simp
          refine hK9 _ _ ?_
          clear hK9 K9
          refine wpAnyIn_ready (rs := [2]) (by kernel_rfl) (by simp) ?_
          refine AllReadyIn.cons rfl (fun K9 hK9 => ?_) ?_
          · refine step_loadrow_in rfl 36 (.tmp 3) rfl w.heap.size 0 rfl (bytesV K) hL ?_
            go_simp
            refine hK9 _ _ ?_
            clear hK9 K9
            refine wpAnyIn_ready (rs := [3]) (by kernel_rfl) (by simp) ?_
            refine AllReadyIn.cons rfl (fun K9 hK9 => ?_) ?_
            · go_simp
              refine ⟨trivial, ?_⟩
              refine (CallsIn.inRound l (callsIn_wide.2 (CT.out _ (by assumption)))).mono ?_
              rintro e wn ⟨rfl, hsn, z0⟩
              try go_simp
              refine hK9 _ _ ?_
              clear hK9 K9
              refine wpAnyIn_ready (rs := [4]) (by kernel_rfl) (by simp) ?_
              refine AllReadyIn.cons rfl (fun K9 hK9 => ?_) ?_
              · go_simp
                refine hK9 _ _ ?_
                clear hK9 K9
                refine wpAnyIn_done (by kernel_rfl) ?_ _
                have hfin := HM.out wn hsn.out
                gi_wp2
                exact hfin
              exact AllReadyIn.nil
            exact AllReadyIn.nil
          exact AllReadyIn.nil
        refine AllReadyIn.cons rfl (fun K9 hK9 => ?_) ?_
        · refine step_loadrow_in rfl 36 (.tmp 3) rfl w.heap.size 0 rfl (bytesV K) hL ?_
          go_simp
          refine hK9 _ _ ?_
          clear hK9 K9
          refine wpAnyIn_ready (rs := [1, 3]) (by kernel_rfl) (by simp) ?_
          refine AllReadyIn.cons rfl (fun K9 hK9 => ?_) ?_
          · go_simp
            refine hK9 _ _ ?_
            clear hK9 K9
            refine wpAnyIn_ready (rs := [3]) (by kernel_rfl) (by simp) ?_
            refine AllReadyIn.cons rfl (fun K9 hK9 => ?_) ?_
            · go_simp
              refine ⟨trivial, ?_⟩
              refine (CallsIn.inRound l (callsIn_wide.2 (CT.out _ (by assumption)))).mono ?_
              rintro e wn ⟨rfl, hsn, z0⟩
              try go_simp
              refine hK9 _ _ ?_
              clear hK9 K9
              refine wpAnyIn_ready (rs := [4]) (by kernel_rfl) (by simp) ?_
              refine AllReadyIn.cons rfl (fun K9 hK9 => ?_) ?_
              · go_simp
                refine hK9 _ _ ?_
                clear hK9 K9
                refine wpAnyIn_done (by kernel_rfl) ?_ _
                have hfin := HM.out wn hsn.out
                gi_wp2
                exact hfin
              exact AllReadyIn.nil
            exact AllReadyIn.nil
          refine AllReadyIn.cons rfl (fun K9 hK9 => ?_) ?_
          · go_simp
            refine ⟨trivial, ?_⟩
            refine (CallsIn.inRound l (callsIn_wide.2 (CT.out _ (by assumption)))).mono ?_
            rintro e wn ⟨rfl, hsn, z0⟩
            try go_simp
            refine hK9 _ _ ?_
            clear hK9 K9
            refine wpAnyIn_ready (rs := [1]) (by kernel_rfl) (by simp) ?_
            refine AllReadyIn.cons rfl (fun K9 hK9 => ?_) ?_
            · go_simp
              refine hK9 _ _ ?_
              clear hK9 K9
              refine wpAnyIn_ready (rs := [4]) (by kernel_rfl) (by simp) ?_
              refine AllReadyIn.cons rfl (fun K9 hK9 => ?_) ?_
              · go_simp
                refine hK9 _ _ ?_
                clear hK9 K9
                refine wpAnyIn_done (by kernel_rfl) ?_ _
                have hfin := HM.out wn hsn.out
                gi_wp2
                exact hfin
              exact AllReadyIn.nil
            exact AllReadyIn.nil
          exact AllReadyIn.nil
        exact AllReadyIn.nil
      refine AllReadyIn.cons rfl (fun K9 hK9 => ?_) ?_
      · refine step_loadrow_in rfl 36 (.tmp 3) rfl w.heap.size 0 rfl (bytesV K) hL ?_
        go_simp
        refine hK9 _ _ ?_
        clear hK9 K9
        refine wpAnyIn_ready (rs := [0, 3]) (by kernel_rfl) (by simp) ?_
        refine AllReadyIn.cons rfl (fun K9 hK9 => ?_) ?_
        · go_simp
          refine hK9 _ _ ?_
          clear hK9 K9
          refine wpAnyIn_ready (rs := [1, 3]) (by kernel_rfl) (by simp) ?_
          refine AllReadyIn.cons rfl (fun K9 hK9 => ?_) ?_
          · go_simp
            refine hK9 _ _ ?_
            clear hK9 K9
            refine wpAnyIn_ready (rs := [3]) (by kernel_rfl) (by simp) ?_
            refine AllReadyIn.cons rfl (fun K9 hK9 => ?_) ?_
            · go_simp
              refine ⟨trivial, ?_⟩
              refine (CallsIn.inRound l (callsIn_wide.2 (CT.out _ (by assumption)))).mono ?_
              rintro e wn ⟨rfl, hsn, z0⟩
              try go_simp
              refine hK9 _ _ ?_
              clear hK9 K9
              refine wpAnyIn_ready (rs := [4]) (by kernel_rfl) (by simp) ?_
              refine AllReadyIn.cons rfl (fun K9 hK9 => ?_) ?_
              · go_simp
                refine hK9 _ _ ?_
                clear hK9 K9
                refine wpAnyIn_done (by kernel_rfl) ?_ _
                have hfin := HM.out wn hsn.out
                gi_wp2
                exact hfin
              exact AllReadyIn.nil
            exact AllReadyIn.nil
          refine AllReadyIn.cons rfl (fun K9 hK9 => ?_) ?_
          · go_simp
            refine ⟨trivial, ?_⟩
            refine (CallsIn.inRound l (callsIn_wide.2 (CT.out _ (by assumption)))).mono ?_
            rintro e wn ⟨rfl, hsn, z0⟩
            try go_simp
            refine hK9 _ _ ?_
            clear hK9 K9
            refine wpAnyIn_ready (rs := [1]) (by kernel_rfl) (by simp) ?_
            refine AllReadyIn.cons rfl (fun K9 hK9 => ?_) ?_
            · go_simp
              refine hK9 _ _ ?_
              clear hK9 K9
              refine wpAnyIn_ready (rs := [4]) (by kernel_rfl) (by simp) ?_
              refine AllReadyIn.cons rfl (fun K9 hK9 => ?_) ?_
              · go_simp
                refine hK9 _ _ ?_
                clear hK9 K9
                refine wpAnyIn_done (by kernel_rfl) ?_ _
                have hfin := HM.out wn hsn.out
                gi_wp2
                exact hfin
              exact AllReadyIn.nil
            exact AllReadyIn.nil
          exact AllReadyIn.nil
        refine AllReadyIn.cons rfl (fun K9 hK9 => ?_) ?_
        · go_simp
          refine ⟨trivial, ?_⟩
          refine (CallsIn.inRound l (callsIn_wide.2 (CT.out _ (by assumption)))).mono ?_
          rintro e wn ⟨rfl, hsn, z0⟩
          try go_simp
          refine hK9 _ _ ?_
          clear hK9 K9
          refine wpAnyIn_ready (rs := [0]) (by kernel_rfl) (by simp) ?_
          refine AllReadyIn.cons rfl (fun K9 hK9 => ?_) ?_
          · go_simp
            refine hK9 _ _ ?_
            clear hK9 K9
            refine wpAnyIn_ready (rs := [1]) (by kernel_rfl) (by simp) ?_
            refine AllReadyIn.cons rfl (fun K9 hK9 => ?_) ?_
            · go_simp
              refine hK9 _ _ ?_
              clear hK9 K9
              refine wpAnyIn_ready (rs := [4]) (by kernel_rfl) (by simp) ?_
              refine AllReadyIn.cons rfl (fun K9 hK9 => ?_) ?_
              · go_simp
                refine hK9 _ _ ?_
                clear hK9 K9
                refine wpAnyIn_done (by kernel_rfl) ?_ _
                have hfin := HM.out wn hsn.out
                gi_wp2
                exact hfin
              exact AllReadyIn.nil
            exact AllReadyIn.nil
          exact AllReadyIn.nil
        exact AllReadyIn.nil
      exact AllReadyIn.nil
  case done =>
    rintro D ys W hD rfl hi hD2
    obtain ⟨r, hl, hr⟩ := hi.out
    rw [coll_all] at hl hr
    have cl : W.cell? ⟨w.heap.size + 1, 0, none⟩ = some (.slice (Row.ad r) (probeF T row).length r.cap) := by rw [Lib.cell_of_heap hl]; rfl
    go_wp2
    refine ⟨by simp, .inl ⟨_, _, rfl, run_takeDeferred hD2, ?_⟩⟩
    have hs2 : Spares (fun k => some D = some k) W (W.putObj D (.deferred none)) := (Spares.refl _ W).grown (grownBy_putObj' W D (.deferred none)) (fun k e => .inl e)
    refine ⟨_, results_tmp rfl _ _ _, r, rfl, (hr.spares hs2 (fun b' o e h2 => ?_)).mono (fun k hk => by omega), hi.sp.trans' hs2 (fun k e => .inr (by cases e; omega))⟩
    obtain ⟨cur, t, hb, _⟩ := (hr.room b' o e).2
    cases h2
    rw [hD2] at hb
    cases hb
  case stop =>
    rintro D c pre W _ _ h _
    exact h.elim
end Go.Proofs.Ytihbjkdgfflnfaa
namespace Go.Proofs.Ytihbjkdgfflnfaa
open Go.RowKit Go.Shelf
attribute [local go_sem] Oper.semAt_some

theorem hit_back (T A : Nat) (row : List Ent) : ∀ (k : Nat) (h : k ≤ row.length), (∀ i ∈ backI row.length k h, ¬ (row[i.1].tag = T ∧ row[i.1].at_ = A)) → hitK T A row (row.length - k) = hitF T A row
  | 0, _, _ => by simp [hitF]
  | k + 1, h, hm => by
    have hi : row.length - (k + 1) < row.length := by omega
    have e1 : row.length - k = (row.length - (k + 1)) + 1 := by omega
    have e2 : (⟨row.length - 1 - k, by omega⟩ : Fin row.length) = ⟨row.length - (k + 1), hi⟩ := Fin.ext (by simp only; omega)
    have ih := hit_back T A row k (by omega) (fun i hi => hm i (by simp only [backI]; exact List.mem_append_left _ hi))
    rw [e1, hitK_miss hi] at ih
    · exact ih
    · have := hm ⟨row.length - (k + 1), hi⟩ (by simp only [backI]; rw [e2]; simp)
      exact this
theorem hit_found (T A : Nat) (row : List Ent) (k : Nat) (h : k + 1 ≤ row.length) (pre : List (Fin row.length)) (i : Fin row.length) (he : pre ++ [i] = backI row.length (k + 1) h) (hm : ∀ j ∈ pre, ¬ (row[j.1].tag = T ∧ row[j.1].at_ = A)) (hi : row[i.1].tag = T ∧ row[i.1].at_ = A) : hitF T A row = some i.1 := by
  simp only [backI] at he
  obtain ⟨e1, e2⟩ := List.append_inj' he rfl
  injection e2 with e2
  subst e1
  have h1 := hit_back T A row k (by omega) hm
  have hv : i.1 = row.length - 1 - k := by rw [e2]
  rw [← h1, show row.length - k = i.1 + 1 by omega]
  exact hitK_hit i.2 hi
theorem hit_none (T A : Nat) (row : List Ent) (hm : ∀ i ∈ backI row.length row.length (Nat.le_refl _), ¬ (row[i.1].tag = T ∧ row[i.1].at_ = A)) : hitF T A row = none := by
  have := hit_back T A row row.length (Nat.le_refl _) hm
  rw [← this, Nat.sub_self]
  rfl
def DelPost (F : Nat → Prop) (p bk n s : Nat) (R : Nat → Row) (E : List (List Ent)) (b T A : Nat) (w : World) (e : Ending) (w' : World) : Prop :=
  e = .returned (.bool (hitF T A (atRow E b)).isSome) ∧ Spares F w w' ∧ IsDir F p bk n s R (E.set b (delF T A (atRow E b))) w'
/-- What holds between two rounds. -/
structure DI (w : World) (base q7 : Nat) (K : List UInt8) (T A bk b : Nat) (row : List Ent) (pre : List (Fin row.length)) (W : World) : Prop where
  sz : base ≤ W.heap.size
  sp : Spares nowhere w W
  key : W.heap[w.heap.size]? = some (.cells (bytesV K) 36 (0, 0))
  at_ : W.heap[w.heap.size + 1]? = some (.cells #[.int .u32 A] 31 (0, 0))
  res : W.heap[w.heap.size + 2]? = some (.cells #[.bool false] 4 (0, 0))
  ptr : W.heap[q7]? = some (.cells #[.pointer (some ⟨bk, b, none⟩)] 71 (0, 0))
  miss : ∀ i ∈ pre, ¬ (row[i.1].tag = T ∧ row[i.1].at_ = A)
theorem kept_of {A B : World} {q : Option Nat} {k : Nat} {cs : Array Value} {t : TypeId} {f : Nat × Nat} (hg : A.grownBy B q) (hr : ∀ k, q = some k → ∃ o : Obj, A.heap[k]? = some o ∧ o.isCells = false) (hk : A.heap[k]? = some (.cells cs t f)) : B.heap[k]? = some (.cells cs t f) := by
  rw [hg.block k (Array.getElem?_eq_some_iff.1 hk).1 (fun e => by
    obtain ⟨o, ho, hc⟩ := hr k e.symm
    rw [hk] at ho
    cases ho
    simp [Obj.isCells] at hc)]
  exact hk
theorem DI.turned {w : World} {base q7 : Nat} {K : List UInt8} {T A bk b : Nat} {row : List Ent} {pre : List (Fin row.length)} {X Y : World} {q : Option Nat} (h : DI w base q7 K T A bk b row pre X) (hg : X.grownBy Y q) (hr : ∀ k, q = some k → w.heap.size ≤ k ∧ ∃ o : Obj, X.heap[k]? = some o ∧ o.isCells = false) : DI w base q7 K T A bk b row pre Y := by
  have hs : Spares (fun k => q = some k) X Y := (Spares.refl _ X).grown hg (fun k e => .inl e)
  have hr' := fun k e => (hr k e).2
  exact ⟨Nat.le_trans h.sz hg.size, h.sp.trans' hs (fun k e => .inr (hr k e).1), kept_of hg hr' h.key, kept_of hg hr' h.at_, kept_of hg hr' h.res, kept_of hg hr' h.ptr, h.miss⟩
/-- How a hit leaves the loop. -/
def DX (F : Nat → Prop) (p bk n s : Nat) (R : Nat → Row) (E : List (List Ent)) (w : World) (b T A : Nat) (row : List Ent) (pre : List (Fin row.length)) (W : World) : Prop :=
  (∃ pre' i, pre = pre' ++ [i] ∧ (∀ j ∈ pre', ¬ (row[j.1].tag = T ∧ row[j.1].at_ = A)) ∧ (row[i.1].tag = T ∧ row[i.1].at_ = A) ∧ IsDir F p bk n s R (E.set b (row.eraseIdx i.1)) W) ∧ Spares F w W ∧ W.heap[w.heap.size + 2]? = some (.cells #[.bool true] 4 (0, 0))
theorem DX.turned {F : Nat → Prop} {p bk n s : Nat} {R : Nat → Row} {E : List (List Ent)} {w : World} {b T A : Nat} {row : List Ent} {pre : List (Fin row.length)} {X Y : World} {q : Option Nat} {B : Nat} (h : DX F p bk n s R E w b T A row pre X) (hF : ∀ b, F b → b < w.heap.size) (hB : w.heap.size ≤ B) (hg : X.grownBy Y q) (hr : ∀ k, q = some k → B ≤ k ∧ ∃ o : Obj, X.heap[k]? = some o ∧ o.isCells = false) : DX F p bk n s R E w b T A row pre Y := by
  have hs : Spares (fun k => q = some k) X Y := (Spares.refl _ X).grown hg (fun k e => .inl e)
  obtain ⟨⟨pre', i, e, hm, hi, hD⟩, hsp, hres⟩ := h
  exact ⟨⟨pre', i, e, hm, hi, hD.spares hs (fun k hk _ e => by have := hF k hk; have := (hr k e).1; omega)⟩, hsp.trans' hs (fun k e => .inr (by have := (hr k e).1; omega)), kept_of hg (fun k e => (hr k e).2) hres⟩
theorem DI.stays {w : World} {base q7 : Nat} {K : List UInt8} {T A bk b : Nat} {row : List Ent} {pre : List (Fin row.length)} {X Y : World} (h : DI w base q7 K T A bk b row pre X) (hs : Spares nowhere X Y) {i : Fin row.length} (hi : ¬ (row[i.1].tag = T ∧ row[i.1].at_ = A)) : DI w base q7 K T A bk b row (pre ++ [i]) Y :=
  ⟨Nat.le_trans h.sz hs.size, h.sp.trans' hs (fun _ h => h.elim), hs.heap h.key (fun h => h), hs.heap h.at_ (fun h => h), hs.heap h.res (fun h => h), hs.heap h.ptr (fun h => h), fun j hj => by
    rcases List.mem_append.1 hj with hj | hj
    · exact h.miss j hj
    · rw [List.mem_singleton.1 hj]; exact hi⟩
theorem round_kept {B q n₀ : Nat} {X Y : World} (hs : Spares nowhere X Y) (hn : n₀ ≤ X.heap.size) : KeepsFrom B X Y ∧ BackKeeps q n₀ X Y :=
  ⟨⟨hs.size, fun _ _ _ hk _ => hs.heap hk (fun h => h)⟩, fun _ hu => (hs.cell (p := ⟨q, 0, none⟩) (cellB_lt hu) (fun h => h)).trans hu, hs.below hn (fun _ _ h => h)⟩
/-- The world behind slices.Delete. -/
def delW (g off i : Nat) (row : List Ent) (V : World) : World := (V.drew.setCells g (off + i * 4) (rowCells (row.drop (i + 1)))).setCells g (off + (row.length - 1) * 4) (rowCells (List.replicate 1 Ent.zero))
theorem DI.hit {F : Nat → Prop} {p bk n s : Nat} {R : Nat → Row} {E : List (List Ent)} {w : World} {base q7 : Nat} {K : List UInt8} {T A b : Nat} {row : List Ent} {pre : List (Fin row.length)} {W V : World} {g off : Nat} (h : DI w base q7 K T A bk b row pre W) (hD : IsDir F p bk n s R E w) (hF : ∀ b, F b → b < w.heap.size)
    (hb : b < n) (hrow : ∀ hE : b < E.length, E[b] = row) (hra : (R b).a = some (g, off)) (hbase : w.heap.size + 3 < base) (h7 : w.heap.size + 3 ≤ q7) (hs : Spares nowhere W V) (i : Fin row.length) (hi : row[i.1].tag = T ∧ row[i.1].at_ = A) :
    (delW g off i.1 row V).cell? ⟨q7, 0, none⟩ = some (.pointer (some ⟨bk, b, none⟩)) ∧ (delW g off i.1 row V).cell? ⟨bk, b, none⟩ = some (.slice (some ⟨g, off, none⟩) row.length s) ∧ (delW g off i.1 row V).frozen? ⟨bk, b, none⟩ = false ∧
    ((delW g off i.1 row V).setCell ⟨bk, b, none⟩ (.slice (some ⟨g, off, none⟩) (row.length - 1) s)).cell? ⟨w.heap.size + 1 + 1, 0, none⟩ = some (.bool false) ∧ ((delW g off i.1 row V).setCell ⟨bk, b, none⟩ (.slice (some ⟨g, off, none⟩) (row.length - 1) s)).frozen? ⟨w.heap.size + 1 + 1, 0, none⟩ = false ∧
    KeepsFrom base W (((delW g off i.1 row V).setCell ⟨bk, b, none⟩ (.slice (some ⟨g, off, none⟩) (row.length - 1) s)).setCell ⟨w.heap.size + 1 + 1, 0, none⟩ (.bool true)) ∧
    DX F p bk n s R E w b T A row (pre ++ [i]) (((delW g off i.1 row V).setCell ⟨bk, b, none⟩ (.slice (some ⟨g, off, none⟩) (row.length - 1) s)).setCell ⟨w.heap.size + 1 + 1, 0, none⟩ (.bool true)) := by
  have hEn := hD.rows.len
  have hE : b < E.length := by omega
  have hwV : Spares nowhere w V := h.sp.trans' hs (fun _ h => h.elim)
  have hDV := hD.spares hwV (fun _ _ _ h => h)
  have hrV := hDV.rows.row b hE
  rw [hrow hE] at hrV
  have hcap := (hD.cap b hb).1
  have hgF : F g := (hrV.room g off hra).1
  have hgl := hF g hgF
  have hgbk := hD.rows.off b hb g off hra
  have hbl := hF bk hD.rows.inF
  obtain ⟨wn, hwn⟩ : ∃ wn, delW g off i.1 row V = wn := ⟨_, rfl⟩
  have hsn : Spares (fun k => k = g) V wn := by
    rw [← hwn]; exact spares_cells _ _ (spares_cells _ _ (Spares.refl _ _).drew)
  have her : RowAt F wn (R b) (row.eraseIdx i.1) := by rw [← hwn]; exact hrV.erased hra i.2
  have hl1 : (row.eraseIdx i.1).length = row.length - 1 := by rw [List.length_eraseIdx, if_pos i.2]
  have hle := hrV.le
  have hil := i.2
  have hrest : ∀ F2 r2 l2, RowAt F2 V r2 l2 → r2.apart (R b) → RowAt F2 wn r2 l2 := fun F2 r2 l2 h2 ha => by
    rw [← hwn]
    unfold delW
    have l1 := rowCells_len (row.drop (i.1 + 1))
    rw [List.length_drop] at l1
    have l2' := rowCells_len (List.replicate 1 Ent.zero)
    rw [List.length_replicate] at l2'
    refine ((h2.spares (Spares.refl nowhere V).drew (fun _ _ _ h => h)).sets g _ _ (fun b' o' e => ?_)).sets g _ _ (fun b' o' e => ?_)
    · have := ha b' o' g off e hra
      rw [l1]; omega
    · have := ha b' o' g off e hra
      rw [l2']; omega
  have hok : ∀ e ∈ row.eraseIdx i.1, e.ok := fun e he => hD.rows.ok row (by rw [← hrow hE]; exact List.getElem_mem hE) e (List.mem_of_mem_eraseIdx he)
  have hD4 := turn_dir hDV hb hra her hsn hrest hok
  rw [hl1] at hD4
  rw [hwn]
  obtain ⟨W4, hW4⟩ : ∃ W4, wn.setCell ⟨bk, b, none⟩ (.slice (some ⟨g, off, none⟩) (row.length - 1) s) = W4 := ⟨_, rfl⟩
  rw [hW4] at hD4 ⊢
  have hs4 : Spares (fun k => k = bk ∨ k = g) V W4 := by
    rw [← hW4]; exact (hsn.mono (fun k e => .inl (.inr e))).setCell (p := ⟨bk, b, none⟩) (.inl (.inl rfl)) _
  have hWV4 : Spares (fun k => k = bk ∨ k = g) W W4 := (hs.mono (fun _ h => h.elim)).trans hs4
  obtain ⟨W5, hW5⟩ : ∃ W5, W4.setCell ⟨w.heap.size + 1 + 1, 0, none⟩ (.bool true) = W5 := ⟨_, rfl⟩
  have hr4 : W4.heap[w.heap.size + 2]? = some (.cells #[.bool false] 4 (0, 0)) := hWV4.heap h.res (by intro h; rcases h with h | h <;> omega)
  have hr5 : W5.heap[w.heap.size + 2]? = some (.cells #[.bool true] 4 (0, 0)) := by
    rw [← hW5]; simp [World.setCell, Array.getElem?_modify, hr4]
  have hs5 : Spares (fun k => k = bk ∨ k = g ∨ k = w.heap.size + 2) W W5 := by
    rw [← hW5]; exact (hWV4.mono (fun k e => .inl (e.elim .inl (fun h => .inr (.inl h))))).setCell (p := ⟨w.heap.size + 1 + 1, 0, none⟩) (.inl (.inr (.inr rfl))) _
  have hsp4 : Spares (fun k => k = w.heap.size + 2) W4 W5 := by
    rw [← hW5]; exact Spares.setCell (F := fun k => k = w.heap.size + 2) (Spares.refl _ _) (p := ⟨w.heap.size + 1 + 1, 0, none⟩) (.inl rfl) _
  have hbsl : V.cell? ⟨bk, b, none⟩ = some (.slice (some ⟨g, off, none⟩) row.length s) := by
    have := (hDV.rows.cell b hE).1
    rw [this, hrow hE, hcap]
    simp [Row.ad, hra]
  obtain ⟨cur, hg, _, _⟩ := hDV.rows.blk
  have hp7 : wn.heap[q7]? = some (.cells #[.pointer (some ⟨bk, b, none⟩)] 71 (0, 0)) := hsn.heap (hs.heap h.ptr (fun h => h)) (by omega)
  rw [hW5]
  refine ⟨by rw [Lib.cell_of_heap hp7]; rfl, (hsn.cell (p := ⟨bk, b, none⟩) (cellB_lt hbsl) (fun e => hgbk e.symm)).trans hbsl, Lib.frozen_of_heap ((hsn.block bk hDV.rows.lt (fun e => hgbk e.symm)).trans hg) b, by rw [Lib.cell_of_heap hr4]; rfl, Lib.frozen_of_heap hr4 0, ⟨hs5.size, fun k o hk hko _ => hs5.heap hko (by omega)⟩, ⟨pre, i, rfl, h.miss, hi, hD4.spares hsp4 (fun k hk _ e => by have := hF k hk; omega)⟩, ?_, hr5⟩
  exact (h.sp.mono (fun _ h => h.elim) : Spares F w W).trans' hs5 (fun k hk => by
    rcases hk with rfl | rfl | rfl
    · exact .inl hD.rows.inF
    · exact .inl hgF
    · exact .inr (by omega))
theorem results_del {w : World} {p : Nat} {b : Bool} (tmps : Array Value) (h6 : tmps.getD 6 undef = .pointer (some ⟨p, 0, none⟩)) (hp : w.cell? ⟨p, 0, none⟩ = some (.bool b)) :
    (results Try.f18 tmps).run Try.prog w = .ok (.bool b) w := by
  have h6' : tmps[6]?.getD undef = .pointer (some ⟨p, 0, none⟩) := by simpa using h6
  simp [results, Try.results18, h6', asAddr, go_sem, hp]
set_option maxRecDepth 100000 in
set_option maxHeartbeats 4000000 in
theorem delete_any (F : Nat → Prop) (p bk n s : Nat) (R : Nat → Row) (E : List (List Ent)) (K : List UInt8) (A : Nat) (w : World) (h : IsDir F p bk n s R E w) (hF : ∀ b, F b → b < w.heap.size) (hK : K.length = 32) :
    Calls Try.prog 18 #[.pointer (some ⟨p, 0, none⟩), .agg (bytesV K), .int .u32 A] w (DelPost F p bk n s R E (bktF K n) (tagF K) A w) := by
  have hEn := h.rows.len
  have hn0 := h.n0
  have hn1 := h.n1
  obtain ⟨b, hb⟩ : ∃ b, bktF K n = b := ⟨_, rfl⟩
  have hbn : b < n := by rw [← hb]; exact bktF_lt K n h.n0
  obtain ⟨row, hrow⟩ : ∃ row, atRow E b = row := ⟨_, rfl⟩
  have hrow' : E[b]'(by omega) = row := by rw [← hrow]; unfold atRow; rw [List.getD_eq_getElem?_getD, List.getElem?_eq_getElem (by omega)]; rfl
  have hle : row.length ≤ 16 := by rw [← hrow']; exact Nat.le_trans (h.lens _ (List.getElem_mem _)) h.s1
  obtain ⟨hcp, ⟨g, off⟩, hRa⟩ := h.cap b hbn
  have hgl : g < w.heap.size := ((h.rows.row b (by omega)).room g off hRa).2.lt
  have hcell : ∀ W, Spares nowhere w W → W.cell? ⟨p, 1, none⟩ = some (.slice (some ⟨bk, 0, none⟩) n n) ∧ W.cell? ⟨bk, b, none⟩ = some (.slice (some ⟨g, off, none⟩) row.length s) ∧ ∀ k (hk : k < row.length) j, j < 4 → W.cell? ⟨g, off + k * 4 + j, none⟩ = (entCells row[k])[j]? := fun W hW => by
    have h' := h.spares hW (fun _ _ _ h => h)
    have hc := (h'.rows.cell b (by omega)).1
    have hr := (h'.rows.row b (by omega)).ents g off hRa
    rw [hrow', hcp] at hc
    rw [hc]
    refine ⟨by rw [Lib.cell_of_heap h'.hd]; rfl, by simp [Row.ad, hRa], fun k hk j hj => ?_⟩
    have := hr k (by rw [hrow']; exact hk) j hj
    rw [this]
    simp only [hrow']
  rw [hb]
  unfold DelPost
  simp only [hrow]
  obtain ⟨T, hT⟩ : ∃ T, tagF K = T := ⟨_, rfl⟩
  rw [hT]
  obtain ⟨v, hv⟩ : ∃ v, ((w.alloc (.cells (bytesV K) 36)).alloc (.cells #[.int .u32 A] 31)).alloc (.cells #[.bool false] 4) = v := ⟨_, rfl⟩
  have hs : Spares nowhere w v := by rw [← hv]; exact (((Spares.refl _ w).alloc _).alloc _).alloc _
  have hvs : v.heap.size = w.heap.size + 3 := by rw [← hv]; simp
  have hkb : v.heap[w.heap.size]? = some (.cells (bytesV K) 36 (0, 0)) := by rw [← hv]; exact (Below.heap_alloc _ _ _ (by simp; omega)).trans ((Below.heap_alloc _ _ _ (by simp)).trans (heap_alloc_new w _))
  have hab : v.heap[w.heap.size + 1]? = some (.cells #[.int .u32 A] 31 (0, 0)) := by
    rw [← hv]
    have := heap_alloc_new (w.alloc (.cells (bytesV K) 36)) (.cells #[.int .u32 A] 31)
    exact (Below.heap_alloc _ _ _ (by simp)).trans (by simpa using this)
  have hrb : v.heap[w.heap.size + 2]? = some (.cells #[.bool false] 4 (0, 0)) := by
    rw [← hv]
    have := heap_alloc_new ((w.alloc (.cells (bytesV K) 36)).alloc (.cells #[.int .u32 A] 31)) (.cells #[.bool false] 4)
    simpa using this
  have infoC : (Try.prog.info? 36).map (·.size) = some (Lib.byteCells K).length := by rw [byteCells_len, hK]; kernel_rfl
  have hkr : ∀ W : World, W.heap[w.heap.size]? = some (.cells (bytesV K) 36 (0, 0)) → W.rangeAt w.heap.size 0 (Lib.byteCells K) := fun W hW j u hj => by
    rw [Lib.cell_of_heap hW, Nat.zero_add]; simpa [bytesV] using hj
  have HV := Lib.hid hv
  have HVS := Lib.hid hvs
  have HS := Lib.hid hs
  have HC := Lib.hid hcell
  have HI := Lib.hid infoC
  have HKR := Lib.hid hkr
  have HKB := Lib.hid hkb
  have HAB := Lib.hid hab
  have HRB := Lib.hid hrb
  have HHK := Lib.hid hK
  have HT := Lib.hid hT
  have HD := Lib.hid h
  have HF := Lib.hid hF
  have HROW := Lib.hid hrow'
  have HRA := Lib.hid hRa
  have HCP := Lib.hid hcp
  have HB := Lib.hid hb
  clear hv hvs hs hkb hab hrb h hrow hrow' hb hcell infoC hkr hT hcp hRa hK hF
  refine (callsIn_wide (n := 9)).1 ?_
  refine callsIn_of_wp_marks Try.func18 rfl trivial ?_ rfl
  simp only [Try.ntmps18, List.size_toArray, List.length_cons, List.length_nil, Nat.reduceAdd, Nat.reduceSub, Array.replicate_succ, Array.replicate_zero, List.push_toArray, List.append_toArray, List.nil_append, List.cons_append]
  refine wpIn_wide.2 ?_
  go_upto_region 1 with (fail)
  rw [HV.out]
  have SD : Hid (Spares nowhere v v.drew) := Lib.hid (Spares.refl _ _).drew
  have SDA : Hid (Spares nowhere v (v.alloc (.cells #[.pointer none] 71)).drew) := Lib.hid ((Spares.refl _ _).alloc _).drew
  have HNA : Hid ((v.alloc (.cells #[.pointer none] 71)).drew.heap[v.heap.size]? = some (.cells #[.pointer none] 71 (0, 0))) := Lib.hid (heap_alloc_new v _)
  have HKEEP : Hid (∀ W, Spares nowhere v W → W.cell? ⟨p, 1, none⟩ = some (.slice (some ⟨bk, 0, none⟩) n n) ∧ W.rangeAt w.heap.size 0 (Lib.byteCells K)) := Lib.hid (fun W hW => ⟨(HC.out W (HS.out.trans hW)).1, HKR.out W (hW.heap HKB.out (fun h => h))⟩)
  have CT : Hid (∀ V, Hid (Spares nowhere v V) → Calls Try.prog 30 #[.pointer (some ⟨p, 0, none⟩), .agg (bytesV K)] V fun e w' => e = .returned (.int .i64 b) ∧ Hid (Spares nowhere v w') ∧ Hid (Spares nowhere V w')) := Lib.hid (fun V hV => (bucket_any K p n n _ V HHK.out hn0 hn1 (HC.out V (HS.out.trans hV.out)).1).mono (by rintro e w' ⟨rfl, hs⟩; exact ⟨by rw [HB.out], hV.out.trans hs, hs⟩))
  -- GEN1
  refine wp_mono (Q := fun e a' W1 => e = .normal ∧ ∃ q7, v.heap.size ≤ q7 ∧ a' = ⟨#[.pointer (some ⟨p, 0, none⟩), .agg (bytesV K), .int .u32 A, undef, .pointer (some ⟨w.heap.size, 0, none⟩), .pointer (some ⟨w.heap.size + 1, 0, none⟩), .pointer (some ⟨w.heap.size + 1 + 1, 0, none⟩), .pointer (some ⟨q7, 0, none⟩), undef, undef, .pointer (some ⟨p, 0, none⟩), .pointer (some ⟨p, 0, none⟩), .pointer (some ⟨p, 1, none⟩), .slice (some ⟨bk, 0, none⟩) n n, .pointer (some ⟨p, 0, none⟩), .agg (bytesV K), .int .i64 b, .pointer (some ⟨bk, b, none⟩), undef, undef, undef, undef, undef, undef, undef, undef, undef, undef, undef, undef, undef, undef, undef, undef, undef, undef, undef, undef, undef, undef, undef, undef, undef, undef], []⟩ ∧ Spares nowhere v W1 ∧ W1.heap[q7]? = some (.cells #[.pointer (some ⟨bk, b, none⟩)] 71 (0, 0))) ?_ ?_
  · refine wp_region_held_drew (S := fun w' => w'.cell? ⟨p, 1, none⟩ = some (.slice (some ⟨bk, 0, none⟩) n n) ∧ w'.rangeAt w.heap.size 0 (Lib.byteCells K)) (by kernel_rfl) (HKEEP.out _ SD.out) (fun hS0 => ?_)
    refine wpAnyH_take (i := 0) (v := ?_) rfl (by kernel_rfl) (by kernel_rfl) (by kernel_rfl) (fun _ _ _ h => nomatch h.1) (Or.inl ⟨by rfl, ?_⟩) (by assumption) ?_
    rotate_left
    · intro w9 hS9
      obtain ⟨hS8, _⟩ := hS9
      go_simp
      try with_reducible rfl
    simp only [List.getElem_toArray, List.getElem_cons_zero, Act.put, List.setIfInBounds_toArray, List.set_cons_succ, List.set_cons_zero]
    refine wpAnyH_take (i := 1) (v := ?_) rfl (by kernel_rfl) (by kernel_rfl) (by kernel_rfl) (fun _ _ _ h => nomatch h.1) (Or.inl ⟨by rfl, ?_⟩) (by assumption) ?_
    rotate_left
    · intro w9 hS9
      obtain ⟨hS8, _⟩ := hS9
      go_simp
      try with_reducible rfl
    simp only [List.getElem_toArray, List.getElem_cons_succ, List.getElem_cons_zero, Act.put, List.setIfInBounds_toArray, List.set_cons_succ, List.set_cons_zero]
    refine wpAnyH_take (i := 2) (v := ?_) rfl (by kernel_rfl) (by kernel_rfl) (by kernel_rfl) (fun _ _ _ h => nomatch h.1) (Or.inl ⟨by rfl, ?_⟩) (by assumption) ?_
    rotate_left
    · intro w9 hS9
      obtain ⟨hS8, _⟩ := hS9
      go_simp
      try with_reducible rfl
    simp only [List.getElem_toArray, List.getElem_cons_succ, List.getElem_cons_zero, Act.put, List.setIfInBounds_toArray, List.set_cons_succ, List.set_cons_zero]
    refine wpAnyH_take (i := 3) (v := ?_) rfl (by kernel_rfl) (by kernel_rfl) (by kernel_rfl) (fun _ _ _ h => nomatch h.1) (Or.inl ⟨by rfl, ?_⟩) (by assumption) ?_
    rotate_left
    · intro w9 hS9
      obtain ⟨hS8, _⟩ := hS9
      go_simp
      try with_reducible rfl
    simp only [List.getElem_toArray, List.getElem_cons_succ, List.getElem_cons_zero, Act.put, List.setIfInBounds_toArray, List.set_cons_succ, List.set_cons_zero]
    refine wpAnyH_take (i := 4) (v := ?_) rfl (by kernel_rfl) (by kernel_rfl) (by kernel_rfl) (fun _ _ _ h => nomatch h.1) (Or.inl ⟨by rfl, ?_⟩) (by assumption) ?_
    rotate_left
    · intro w9 hS9
      obtain ⟨hS8, _⟩ := hS9
      go_simp
      try with_reducible rfl
    simp only [List.getElem_toArray, List.getElem_cons_succ, List.getElem_cons_zero, Act.put, List.setIfInBounds_toArray, List.set_cons_succ, List.set_cons_zero]
    refine wpAnyH_take (i := 5) (v := .agg (bytesV K)) rfl (by kernel_rfl) (by kernel_rfl) (by kernel_rfl) (fun _ _ _ h => nomatch h.1) (yieldsIf_load_mid (by rfl) 36 (.tmp 4) rfl w.heap.size 0 rfl (Lib.byteCells K) _ (fun w9 hS9 => hS9.2) Try.underlying36 rfl HI.out) (by assumption) ?_
    simp only [List.getElem_toArray, List.getElem_cons_succ, List.getElem_cons_zero, Act.put, List.setIfInBounds_toArray, List.set_cons_succ, List.set_cons_zero]
    refine wpAnyH_ready (rs := [6, 8]) (by kernel_rfl) (by simp) ?_
    refine AllReadyH.cons rfl (fun K9 hK9 => ?_) ?_
    · go_simp
      go_at_call 30
      with_reducible refine Calls.mono (CT.out _ (by first | exact SD | exact SDA)) ?_
      rintro e wn ⟨rfl, hsv, hsn⟩
      try have z0 := hsn.out.heap HNA.out (fun h => h)
      try have z1 : wn.cell? ⟨v.heap.size, 0, none⟩ = some (.pointer none) := by rw [Lib.cell_of_heap z0]; rfl
      try have z2 := Lib.frozen_of_heap z0 0
      try go_simp
      refine hK9.out _ _ ?_ (fun hS9 => ?_)
      · first
          | exact HKEEP.out _ SD.out
          | exact HKEEP.out _ SDA.out
          | exact HKEEP.out _ hsv.out
          | exact HKEEP.out _ (hsv.out.alloc _)
          | exact HKEEP.out _ ((hsv.out.alloc _).setCell (p := ⟨wn.heap.size, 0, none⟩) (.inr hsv.out.size) _)
          | exact HKEEP.out _ (hsv.out.setCell (p := ⟨v.heap.size, 0, none⟩) (.inr (Nat.le_refl _)) _)
      clear hK9 K9
      refine wpAnyH_ready (rs := [7, 8]) (by kernel_rfl) (by simp) ?_
      refine AllReadyH.cons rfl (fun K9 hK9 => ?_) ?_
      · go_simp
        refine hK9.out _ _ ?_ (fun hS9 => ?_)
        · first
            | exact HKEEP.out _ SD.out
            | exact HKEEP.out _ SDA.out
            | exact HKEEP.out _ hsv.out
            | exact HKEEP.out _ (hsv.out.alloc _)
            | exact HKEEP.out _ ((hsv.out.alloc _).setCell (p := ⟨wn.heap.size, 0, none⟩) (.inr hsv.out.size) _)
            | exact HKEEP.out _ (hsv.out.setCell (p := ⟨v.heap.size, 0, none⟩) (.inr (Nat.le_refl _)) _)
        clear hK9 K9
        refine wpAnyH_ready (rs := [8]) (by kernel_rfl) (by simp) ?_
        refine AllReadyH.cons rfl (fun K9 hK9 => ?_) ?_
        · go_simp
          refine hK9.out _ _ ?_ (fun hS9 => ?_)
          · first
              | exact HKEEP.out _ SD.out
              | exact HKEEP.out _ SDA.out
              | exact HKEEP.out _ hsv.out
              | exact HKEEP.out _ (hsv.out.alloc _)
              | exact HKEEP.out _ ((hsv.out.alloc _).setCell (p := ⟨wn.heap.size, 0, none⟩) (.inr hsv.out.size) _)
              | exact HKEEP.out _ (hsv.out.setCell (p := ⟨v.heap.size, 0, none⟩) (.inr (Nat.le_refl _)) _)
          clear hK9 K9
          refine wpAnyH_ready (rs := [9]) (by kernel_rfl) (by simp) ?_
          refine AllReadyH.cons rfl (fun K9 hK9 => ?_) ?_
          · go_simp
            refine hK9.out _ _ ?_ (fun hS9 => ?_)
            · first
                | exact HKEEP.out _ SD.out
                | exact HKEEP.out _ SDA.out
                | exact HKEEP.out _ hsv.out
                | exact HKEEP.out _ (hsv.out.alloc _)
                | exact HKEEP.out _ ((hsv.out.alloc _).setCell (p := ⟨wn.heap.size, 0, none⟩) (.inr hsv.out.size) _)
                | exact HKEEP.out _ (hsv.out.setCell (p := ⟨v.heap.size, 0, none⟩) (.inr (Nat.le_refl _)) _)
            clear hK9 K9
            refine wpAnyH_done (by kernel_rfl) ?_ _
            first
              | exact ⟨rfl, _, hsv.out.size, rfl, hsv.out.alloc _, heap_alloc_new wn _⟩
              | exact ⟨rfl, _, Nat.le_refl _, rfl, hsv.out.setCell (p := ⟨v.heap.size, 0, none⟩) (.inr (Nat.le_refl _)) _, by simp [World.setCell, Array.getElem?_modify, z0]⟩
          exact AllReadyH.nil
        exact AllReadyH.nil
      refine AllReadyH.cons rfl (fun K9 hK9 => ?_) ?_
      · go_simp
        refine hK9.out _ _ ?_ (fun hS9 => ?_)
        · first
            | exact HKEEP.out _ SD.out
            | exact HKEEP.out _ SDA.out
            | exact HKEEP.out _ hsv.out
            | exact HKEEP.out _ (hsv.out.alloc _)
            | exact HKEEP.out _ ((hsv.out.alloc _).setCell (p := ⟨wn.heap.size, 0, none⟩) (.inr hsv.out.size) _)
            | exact HKEEP.out _ (hsv.out.setCell (p := ⟨v.heap.size, 0, none⟩) (.inr (Nat.le_refl _)) _)
        clear hK9 K9
        refine wpAnyH_ready (rs := [7]) (by kernel_rfl) (by simp) ?_
        refine AllReadyH.cons rfl (fun K9 hK9 => ?_) ?_
        · go_simp
          refine hK9.out _ _ ?_ (fun hS9 => ?_)
          · first
              | exact HKEEP.out _ SD.out
              | exact HKEEP.out _ SDA.out
              | exact HKEEP.out _ hsv.out
              | exact HKEEP.out _ (hsv.out.alloc _)
              | exact HKEEP.out _ ((hsv.out.alloc _).setCell (p := ⟨wn.heap.size, 0, none⟩) (.inr hsv.out.size) _)
              | exact HKEEP.out _ (hsv.out.setCell (p := ⟨v.heap.size, 0, none⟩) (.inr (Nat.le_refl _)) _)
          clear hK9 K9
          refine wpAnyH_ready (rs := [9]) (by kernel_rfl) (by simp) ?_
          refine AllReadyH.cons rfl (fun K9 hK9 => ?_) ?_
          · go_simp
            refine hK9.out _ _ ?_ (fun hS9 => ?_)
            · first
                | exact HKEEP.out _ SD.out
                | exact HKEEP.out _ SDA.out
                | exact HKEEP.out _ hsv.out
                | exact HKEEP.out _ (hsv.out.alloc _)
                | exact HKEEP.out _ ((hsv.out.alloc _).setCell (p := ⟨wn.heap.size, 0, none⟩) (.inr hsv.out.size) _)
                | exact HKEEP.out _ (hsv.out.setCell (p := ⟨v.heap.size, 0, none⟩) (.inr (Nat.le_refl _)) _)
            clear hK9 K9
            refine wpAnyH_done (by kernel_rfl) ?_ _
            first
              | exact ⟨rfl, _, hsv.out.size, rfl, hsv.out.alloc _, heap_alloc_new wn _⟩
              | exact ⟨rfl, _, Nat.le_refl _, rfl, hsv.out.setCell (p := ⟨v.heap.size, 0, none⟩) (.inr (Nat.le_refl _)) _, by simp [World.setCell, Array.getElem?_modify, z0]⟩
          exact AllReadyH.nil
        exact AllReadyH.nil
      exact AllReadyH.nil
    refine AllReadyH.cons rfl (fun K9 hK9 => ?_) ?_
    · go_simp
      refine hK9.out _ _ ?_ (fun hS9 => ?_)
      · first
          | exact HKEEP.out _ SD.out
          | exact HKEEP.out _ SDA.out
          | exact HKEEP.out _ hsv.out
          | exact HKEEP.out _ (hsv.out.alloc _)
          | exact HKEEP.out _ ((hsv.out.alloc _).setCell (p := ⟨wn.heap.size, 0, none⟩) (.inr hsv.out.size) _)
          | exact HKEEP.out _ (hsv.out.setCell (p := ⟨v.heap.size, 0, none⟩) (.inr (Nat.le_refl _)) _)
      clear hK9 K9
      refine wpAnyH_ready (rs := [6]) (by kernel_rfl) (by simp) ?_
      refine AllReadyH.cons rfl (fun K9 hK9 => ?_) ?_
      · go_simp
        go_at_call 30
        with_reducible refine Calls.mono (CT.out _ (by first | exact SD | exact SDA)) ?_
        rintro e wn ⟨rfl, hsv, hsn⟩
        try have z0 := hsn.out.heap HNA.out (fun h => h)
        try have z1 : wn.cell? ⟨v.heap.size, 0, none⟩ = some (.pointer none) := by rw [Lib.cell_of_heap z0]; rfl
        try have z2 := Lib.frozen_of_heap z0 0
        try go_simp
        refine hK9.out _ _ ?_ (fun hS9 => ?_)
        · first
            | exact HKEEP.out _ SD.out
            | exact HKEEP.out _ SDA.out
            | exact HKEEP.out _ hsv.out
            | exact HKEEP.out _ (hsv.out.alloc _)
            | exact HKEEP.out _ ((hsv.out.alloc _).setCell (p := ⟨wn.heap.size, 0, none⟩) (.inr hsv.out.size) _)
            | exact HKEEP.out _ (hsv.out.setCell (p := ⟨v.heap.size, 0, none⟩) (.inr (Nat.le_refl _)) _)
        clear hK9 K9
        refine wpAnyH_ready (rs := [7]) (by kernel_rfl) (by simp) ?_
        refine AllReadyH.cons rfl (fun K9 hK9 => ?_) ?_
        · go_simp
          refine hK9.out _ _ ?_ (fun hS9 => ?_)
          · first
              | exact HKEEP.out _ SD.out
              | exact HKEEP.out _ SDA.out
              | exact HKEEP.out _ hsv.out
              | exact HKEEP.out _ (hsv.out.alloc _)
              | exact HKEEP.out _ ((hsv.out.alloc _).setCell (p := ⟨wn.heap.size, 0, none⟩) (.inr hsv.out.size) _)
              | exact HKEEP.out _ (hsv.out.setCell (p := ⟨v.heap.size, 0, none⟩) (.inr (Nat.le_refl _)) _)
          clear hK9 K9
          refine wpAnyH_ready (rs := [9]) (by kernel_rfl) (by simp) ?_
          refine AllReadyH.cons rfl (fun K9 hK9 => ?_) ?_
          · go_simp
            refine hK9.out _ _ ?_ (fun hS9 => ?_)
            · first
                | exact HKEEP.out _ SD.out
                | exact HKEEP.out _ SDA.out
                | exact HKEEP.out _ hsv.out
                | exact HKEEP.out _ (hsv.out.alloc _)
                | exact HKEEP.out _ ((hsv.out.alloc _).setCell (p := ⟨wn.heap.size, 0, none⟩) (.inr hsv.out.size) _)
                | exact HKEEP.out _ (hsv.out.setCell (p := ⟨v.heap.size, 0, none⟩) (.inr (Nat.le_refl _)) _)
            clear hK9 K9
            refine wpAnyH_done (by kernel_rfl) ?_ _
            first
              | exact ⟨rfl, _, hsv.out.size, rfl, hsv.out.alloc _, heap_alloc_new wn _⟩
              | exact ⟨rfl, _, Nat.le_refl _, rfl, hsv.out.setCell (p := ⟨v.heap.size, 0, none⟩) (.inr (Nat.le_refl _)) _, by simp [World.setCell, Array.getElem?_modify, z0]⟩
          exact AllReadyH.nil
        exact AllReadyH.nil
      exact AllReadyH.nil
    exact AllReadyH.nil
  -- GEN1 END
  rintro e a' W1 ⟨rfl, q7, hq7, rfl, hW1, hp7⟩
  have k7 : W1.cell? ⟨q7, 0, none⟩ = some (.pointer (some ⟨bk, b, none⟩)) := by rw [Lib.cell_of_heap hp7]; rfl
  have kb := (HC.out W1 (HS.out.trans hW1)).2.1
  go_wp2_with fail
  refine (callsIn_wide.1 (backward_in Fence.wide 1 trivial rfl (some ⟨g, off, none⟩) row.length s W1)).mono ?_
  rintro e w' ⟨rfl, rfl⟩
  go_wp2
  obtain ⟨q, hq⟩ : ∃ q, W1.heap.size = q := ⟨_, rfl⟩
  obtain ⟨W0, hW0⟩ : ∃ W0, W1.alloc (.cells #[.slice (some ⟨g, off, none⟩) row.length s] 38) = W0 := ⟨_, rfl⟩
  have hsz : W0.heap.size = q + 1 := by rw [← hW0, ← hq]; simp
  have hvW : Spares nowhere v W0 := by rw [← hW0]; exact hW1.alloc _
  have hq7q : q7 < q := by rw [← hq]; exact (Array.getElem?_eq_some_iff.1 hp7).1
  have hqg : w.heap.size + 3 ≤ q7 := by have h2 := HVS.out; omega
  have hBs : W0.cell? ⟨q, 0, none⟩ = some (.slice (some ⟨g, off, none⟩) row.length s) := by
    rw [← hW0, ← hq, Lib.cell_of_heap (heap_alloc_new W1 _)]; rfl
  have hp7' : W0.heap[q7]? = some (.cells #[.pointer (some ⟨bk, b, none⟩)] 71 (0, 0)) := by
    rw [← hW0]; exact (Below.heap_alloc _ _ _ (by omega)).trans hp7
  have hP0 : DI w (q + 1) q7 K T A bk b row [] W0 := ⟨by omega, HS.out.trans hvW, hvW.heap HKB.out (fun h => h), hvW.heap HAB.out (fun h => h), hvW.heap HRB.out (fun h => h), hp7', fun i hi => by cases hi⟩
  rw [hq, hW0]
  refine (wpIn_wide (n := 9)).1 ?_
  refine wpIn_rangeFunc_ownH (F := Fence.wide) rfl (by omega) (gf := 48) (lb := #[.pointer (some ⟨q, 0, none⟩)]) rfl trivial (enters_of Try.func48 (by kernel_rfl) rfl)
    (back_stops Fence.wide 8 trivial rfl (by omega) q w.heap.size g off s row (by omega) hgl W0 (by omega) (by omega) hBs (HC.out W0 hP0.sp).2.2) backKeeps_t (backKeeps_b (by omega)) (Below.refl _ _) (fun _ => rfl)
    (fun pre W => DI w (q + 1) q7 K T A bk b row pre W)
    (fun c pre W => c = .ret ∧ DX F p bk n s R E w b T A row pre W)
    (fun pre X Y row' hs hg hr => hs.turned hg (fun k e => ⟨by have := (hr k e).1; omega, (hr k e).2⟩))
    (fun c pre X Y row' hs hg hr => ⟨hs.1, hs.2.turned HF.out (B := W0.heap.size) (by omega) hg hr⟩)
    hP0
    (fun i a' W => ∃ Bx, q < Bx ∧ W.heap[Bx]? = some (.cells #[.int .u16 row[i.1].tag, .int .u32 row[i.1].at_, .int .u16 row[i.1].sec, .int .u64 row[i.1].turn] 41 (0, 0)) ∧ a' = { tmps := #[.pointer (some ⟨p, 0, none⟩), .agg (bytesV K), .int .u32 A, undef, .pointer (some ⟨w.heap.size, 0, none⟩), .pointer (some ⟨w.heap.size + 1, 0, none⟩), .pointer (some ⟨w.heap.size + 1 + 1, 0, none⟩), .pointer (some ⟨q7, 0, none⟩), .int .i64 (i.1 : Int), .pointer (some ⟨Bx, 0, none⟩), .pointer (some ⟨p, 0, none⟩), .pointer (some ⟨p, 0, none⟩), .pointer (some ⟨p, 1, none⟩), .slice (some ⟨bk, 0, none⟩) n n, .pointer (some ⟨p, 0, none⟩), .agg (bytesV K), .int .i64 b, .pointer (some ⟨bk, b, none⟩), .pointer (some ⟨bk, b, none⟩), .pointer (some ⟨bk, b, none⟩), .slice (some ⟨g, off, none⟩) row.length s, .func (.func 48) #[] #[.pointer (some ⟨q, 0, none⟩)], .int .i64 (i.1 : Int), entV row[i.1], undef, undef, undef, undef, undef, undef, undef, undef, undef, undef, undef, undef, undef, undef, undef, undef, undef, undef, undef, undef], defers := [] })
    ?hAx ?assign ?body ?done ?stop
  case hAx =>
    rintro i a' _ X Y row' ⟨Bx, h1, h2, h3⟩ hg hr
    exact ⟨Bx, h1, kept_of hg (fun k e => (hr k e).2) h2, h3⟩
  case assign =>
    rintro l pre i W K9 hi hK9
    simp only [encB, entV]
    gi_wp2
    refine hK9 _ _ ((KeepsOthers.alloc _ _).from _) ⟨fun u hu => (World.cell?_of_block (Below.heap_alloc W _ q (cellB_lt hu))).trans hu, (Below.refl _ W).alloc hi.sp.size _⟩ (hi.turned (World.grownBy_alloc W _ none) (fun k e => by cases e)) ⟨W.heap.size, hi.sz, heap_alloc_new W _, rfl⟩
  case body =>
    rintro l pre i a' W hl1 ⟨rc, hrc⟩ hi ⟨Bx, hBx, hbx, rfl⟩ hlt
    obtain ⟨t0, ht0⟩ : ∃ t0, row[i.1].tag = t0 := ⟨_, rfl⟩
    obtain ⟨a0, ha0⟩ : ∃ a0, row[i.1].at_ = a0 := ⟨_, rfl⟩
    have d0 : ∀ x : Kin W, x.wd.cell? ⟨Bx, 0, none⟩ = some (.int .u16 t0) := fun x => Kin.cell x (by rw [Lib.cell_of_heap hbx, ← ht0]; rfl)
    have d1 : ∀ x : Kin W, x.wd.cell? ⟨Bx, 1, none⟩ = some (.int .u32 a0) := fun x => Kin.cell x (by rw [Lib.cell_of_heap hbx, ← ha0]; rfl)
    have d2 : ∀ x : Kin W, x.wd.cell? ⟨w.heap.size + 1, 0, none⟩ = some (.int .u32 A) := fun x => Kin.cell x (by rw [Lib.cell_of_heap hi.at_]; rfl)
    have KW : Hid (∀ V, (∃ x : Kin W, V = x.wd) → V.rangeAt w.heap.size 0 (Lib.byteCells K)) := Lib.hid (by rintro V ⟨x, rfl⟩; exact HKR.out _ ((Below.spares (F := nowhere) x.below (fun k hk => .inr hk)).heap hi.key (fun h => h)))
    have CK : Hid (∀ x : Kin W, Calls Try.prog 34 #[.agg (bytesV K)] x.wd fun e w'' => e = .returned (.int .u16 (T : Nat)) ∧ ∃ y : Kin W, w'' = y.wd) := Lib.hid (fun x => Kin.calls ((tag_any K x.wd HHK.out).mono (by rintro e w' ⟨rfl, hs⟩; exact ⟨by rw [HT.out], hs.below0⟩)))
    have HI6 := Lib.hid hi
    have HT0 := Lib.hid ht0
    have HA0 := Lib.hid ha0
    have HRC := Lib.hid hrc
    clear hi ht0 ha0 hbx hrc
    gi_wp2
    by_cases ht : t0 = T
    · have j0 : ((t0 : Int) == (T : Int)) = true := by simp [ht]
      by_cases ha : a0 = A
      · have j1 : ((a0 : Int) == (A : Int)) = true := by simp [ha]
        refine wpIn_region_kin (by kernel_rfl) (by kernel_rfl) (by kernel_rfl) ?_
        repeat (first
          | (refine wpQuiet_step (fun K9 hK9 => ?_); refine quiet_if (.agg (bytesV K)) (by rfl) (fun V hV => quiet_load 36 (.tmp 4) rfl w.heap.size 0 rfl (Lib.byteCells K) _ V (KW.out V hV) Try.underlying36 rfl HI.out) ?_; go_simp; refine hK9 _ ?_; clear hK9 K9)
          | go_big_quiet_step ((go_at_call 34; with_reducible exact CK.out _)))
        refine wpQuiet_nil ?_
        intro _ hx
        obtain ⟨x, rfl⟩ := hx
        have HX : Hid (Spares nowhere W x.wd) := Lib.hid (Below.spares x.below (fun k hk => .inr hk))
        clear d0 d1 d2 CK KW
        -- GEN2
        have hs0 : Spares nowhere W x.wd.drew := HX.out.drew
        have k7 : x.wd.drew.cell? ⟨q7, 0, none⟩ = some (.pointer (some ⟨bk, b, none⟩)) := by rw [Lib.cell_of_heap (hs0.heap HI6.out.ptr (fun h => h))]; rfl
        have kb := (HC.out _ (HI6.out.sp.trans hs0)).2.1
        have CD : Hid (∀ V, Spares nowhere W V → Calls Try.prog 37 #[.slice (some ⟨g, off, none⟩) row.length s, .int .i64 (i.1 : Nat), .int .i64 ((i.1 : Int) + 1)] V fun e wn => e = .returned (.slice (some ⟨g, off, none⟩) (row.length - 1) s) ∧
            wn.cell? ⟨q7, 0, none⟩ = some (.pointer (some ⟨bk, b, none⟩)) ∧ wn.cell? ⟨bk, b, none⟩ = some (.slice (some ⟨g, off, none⟩) row.length s) ∧ wn.frozen? ⟨bk, b, none⟩ = false ∧ Hid ((wn.setCell ⟨bk, b, none⟩ (.slice (some ⟨g, off, none⟩) (row.length - 1) s)).cell? ⟨w.heap.size + 1 + 1, 0, none⟩ = some (.bool false) ∧ (wn.setCell ⟨bk, b, none⟩ (.slice (some ⟨g, off, none⟩) (row.length - 1) s)).frozen? ⟨w.heap.size + 1 + 1, 0, none⟩ = false ∧
              ownPostG W0.heap.size (BackKeeps q w.heap.size) (fun pre W => DI w (q + 1) q7 K T A bk b row pre W) (fun c pre W => c = .ret ∧ DX F p bk n s R E w b T A row pre W) (pre ++ [i]) W .ret ⟨#[], []⟩ ((wn.setCell ⟨bk, b, none⟩ (.slice (some ⟨g, off, none⟩) (row.length - 1) s)).setCell ⟨w.heap.size + 1 + 1, 0, none⟩ (.bool true)))) := Lib.hid (fun V hV => by
          have hDV := HD.out.spares (HI6.out.sp.trans hV) (fun _ _ _ h => h)
          have hrV := hDV.rows.row b (by omega)
          rw [HROW.out] at hrV
          have hrm := (hrV.room g off HRA.out).2
          rw [HCP.out] at hrm
          have hlc := hrV.le
          rw [HCP.out] at hlc
          have hs16 := HD.out.s1
          refine (delete1_any g off s i.1 row V (by omega) hlc i.2 hrm (fun k hk j hj => hrV.ents g off HRA.out k hk j hj)).mono ?_
          rintro e wn ⟨rfl, hwn⟩
          obtain ⟨g1, g2, g3, g4, g5, g6, g7⟩ := HI6.out.hit HD.out HF.out hbn (fun _ => HROW.out) HRA.out (by omega) hqg hV i ⟨by rw [HT0.out]; exact ht, by rw [HA0.out]; exact ha⟩
          change wn = delW g off i.1 row V at hwn
          rw [← hwn] at g1 g2 g3 g4 g5 g6 g7
          rw [hsz]
          exact ⟨rfl, g1, g2, g3, Lib.hid ⟨g4, g5, g6, rfl, g7⟩⟩)
        have wi : IntKind.i64.wrap ((i.1 : Int) + 1) = (i.1 : Int) + 1 := by have := i.2; rw [IntKind.wrap_i64]; omega
        gi_wp2
        refine wpIn_region_round (by kernel_rfl) (by kernel_rfl) ?_
        refine wpAnyIn_take (i := 4) (v := ?_) rfl rfl (by kernel_rfl) (by kernel_rfl) (by kernel_rfl) (fun _ _ _ h => h) ⟨Or.inl ⟨by rfl, ?_⟩, fun _ => rfl⟩ ?_
        rotate_left
        · intro w9
          go_simp
          try with_reducible rfl
        simp only [List.getElem_toArray, List.getElem_cons_succ, List.getElem_cons_zero, Act.put, List.setIfInBounds_toArray, List.set_cons_succ, List.set_cons_zero]
        refine wpAnyIn_take (i := 5) (v := ?_) rfl rfl (by kernel_rfl) (by kernel_rfl) (by kernel_rfl) (fun _ _ _ h => h) ⟨Or.inl ⟨by rfl, ?_⟩, fun _ => rfl⟩ ?_
        rotate_left
        · intro w9
          go_simp
          try with_reducible rfl
        simp only [List.getElem_toArray, List.getElem_cons_succ, List.getElem_cons_zero, Act.put, List.setIfInBounds_toArray, List.set_cons_succ, List.set_cons_zero]
        refine wpAnyIn_take (i := 6) (v := ?_) rfl rfl (by kernel_rfl) (by kernel_rfl) (by kernel_rfl) (fun _ _ _ h => h) ⟨Or.inl ⟨by rfl, ?_⟩, fun _ => rfl⟩ ?_
        rotate_left
        · intro w9
          go_simp
          try with_reducible rfl
        simp only [List.getElem_toArray, List.getElem_cons_succ, List.getElem_cons_zero, Act.put, List.setIfInBounds_toArray, List.set_cons_succ, List.set_cons_zero]
        refine wpAnyIn_ready (rs := [0, 1]) (by kernel_rfl) (by simp) ?_
        refine AllReadyIn.cons rfl (fun K9 hK9 => ?_) ?_
        · go_simp
          refine hK9 _ _ ?_
          clear hK9 K9
          refine wpAnyIn_ready (rs := [1]) (by kernel_rfl) (by simp) ?_
          refine AllReadyIn.cons rfl (fun K9 hK9 => ?_) ?_
          · go_simp
            refine hK9 _ _ ?_
            clear hK9 K9
            refine wpAnyIn_take (i := 2) (v := ?_) rfl rfl (by kernel_rfl) (by kernel_rfl) (by kernel_rfl) (fun _ _ _ h => h) ⟨Or.inl ⟨by rfl, ?_⟩, fun _ => rfl⟩ ?_
            rotate_left
            · intro w9
              go_simp
              try with_reducible rfl
            simp only [List.getElem_toArray, List.getElem_cons_succ, List.getElem_cons_zero, Act.put, List.setIfInBounds_toArray, List.set_cons_succ, List.set_cons_zero]
            refine wpAnyIn_ready (rs := [3]) (by kernel_rfl) (by simp) ?_
            refine AllReadyIn.cons rfl (fun K9 hK9 => ?_) ?_
            · go_simp
              refine hK9 _ _ ?_
              clear hK9 K9
              refine wpAnyIn_ready (rs := [7]) (by kernel_rfl) (by simp) ?_
              refine AllReadyIn.cons rfl (fun K9 hK9 => ?_) ?_
              · go_simp
                refine ⟨trivial, ?_⟩
                refine (callsIn_wide.2 (CD.out _ (by assumption))).mono ?_
                rintro e wn ⟨rfl, z0, z1, z2, HFIN⟩
                try go_simp
                refine hK9 _ _ ?_
                clear hK9 K9
                refine wpAnyIn_ready (rs := [8]) (by kernel_rfl) (by simp) ?_
                refine AllReadyIn.cons rfl (fun K9 hK9 => ?_) ?_
                · go_simp
                  refine hK9 _ _ ?_
                  clear hK9 K9
                  refine wpAnyIn_ready (rs := [9]) (by kernel_rfl) (by simp) ?_
                  refine AllReadyIn.cons rfl (fun K9 hK9 => ?_) ?_
                  · go_simp
                    refine hK9 _ _ ?_
                    clear hK9 K9
                    refine wpAnyIn_done (by kernel_rfl) ?_ _
                    obtain ⟨z5, z6, hfin⟩ := HFIN.out
                    gi_wp2
                    exact hfin
                  exact AllReadyIn.nil
                exact AllReadyIn.nil
              exact AllReadyIn.nil
            exact AllReadyIn.nil
          exact AllReadyIn.nil
        refine AllReadyIn.cons rfl (fun K9 hK9 => ?_) ?_
        · go_simp
          refine hK9 _ _ ?_
          clear hK9 K9
          refine wpAnyIn_take (i := 2) (v := ?_) rfl rfl (by kernel_rfl) (by kernel_rfl) (by kernel_rfl) (fun _ _ _ h => h) ⟨Or.inl ⟨by rfl, ?_⟩, fun _ => rfl⟩ ?_
          rotate_left
          · intro w9
            go_simp
            try with_reducible rfl
          simp only [List.getElem_toArray, List.getElem_cons_succ, List.getElem_cons_zero, Act.put, List.setIfInBounds_toArray, List.set_cons_succ, List.set_cons_zero]
          refine wpAnyIn_ready (rs := [0, 3]) (by kernel_rfl) (by simp) ?_
          refine AllReadyIn.cons rfl (fun K9 hK9 => ?_) ?_
          · go_simp
            refine hK9 _ _ ?_
            clear hK9 K9
            refine wpAnyIn_ready (rs := [3]) (by kernel_rfl) (by simp) ?_
            refine AllReadyIn.cons rfl (fun K9 hK9 => ?_) ?_
            · go_simp
              refine hK9 _ _ ?_
              clear hK9 K9
              refine wpAnyIn_ready (rs := [7]) (by kernel_rfl) (by simp) ?_
              refine AllReadyIn.cons rfl (fun K9 hK9 => ?_) ?_
              · go_simp
                refine ⟨trivial, ?_⟩
                refine (callsIn_wide.2 (CD.out _ (by assumption))).mono ?_
                rintro e wn ⟨rfl, z0, z1, z2, HFIN⟩
                try go_simp
                refine hK9 _ _ ?_
                clear hK9 K9
                refine wpAnyIn_ready (rs := [8]) (by kernel_rfl) (by simp) ?_
                refine AllReadyIn.cons rfl (fun K9 hK9 => ?_) ?_
                · go_simp
                  refine hK9 _ _ ?_
                  clear hK9 K9
                  refine wpAnyIn_ready (rs := [9]) (by kernel_rfl) (by simp) ?_
                  refine AllReadyIn.cons rfl (fun K9 hK9 => ?_) ?_
                  · go_simp
                    refine hK9 _ _ ?_
                    clear hK9 K9
                    refine wpAnyIn_done (by kernel_rfl) ?_ _
                    obtain ⟨z5, z6, hfin⟩ := HFIN.out
                    gi_wp2
                    exact hfin
                  exact AllReadyIn.nil
                exact AllReadyIn.nil
              exact AllReadyIn.nil
            exact AllReadyIn.nil
          refine AllReadyIn.cons rfl (fun K9 hK9 => ?_) ?_
          · go_simp
            refine hK9 _ _ ?_
            clear hK9 K9
            refine wpAnyIn_ready (rs := [0, 7]) (by kernel_rfl) (by simp) ?_
            refine AllReadyIn.cons rfl (fun K9 hK9 => ?_) ?_
            · go_simp
              refine hK9 _ _ ?_
              clear hK9 K9
              refine wpAnyIn_ready (rs := [7]) (by kernel_rfl) (by simp) ?_
              refine AllReadyIn.cons rfl (fun K9 hK9 => ?_) ?_
              · go_simp
                refine ⟨trivial, ?_⟩
                refine (callsIn_wide.2 (CD.out _ (by assumption))).mono ?_
                rintro e wn ⟨rfl, z0, z1, z2, HFIN⟩
                try go_simp
                refine hK9 _ _ ?_
                clear hK9 K9
                refine wpAnyIn_ready (rs := [8]) (by kernel_rfl) (by simp) ?_
                refine AllReadyIn.cons rfl (fun K9 hK9 => ?_) ?_
                · go_simp
                  refine hK9 _ _ ?_
                  clear hK9 K9
                  refine wpAnyIn_ready (rs := [9]) (by kernel_rfl) (by simp) ?_
                  refine AllReadyIn.cons rfl (fun K9 hK9 => ?_) ?_
                  · go_simp
                    refine hK9 _ _ ?_
                    clear hK9 K9
                    refine wpAnyIn_done (by kernel_rfl) ?_ _
                    obtain ⟨z5, z6, hfin⟩ := HFIN.out
                    gi_wp2
                    exact hfin
                  exact AllReadyIn.nil
                exact AllReadyIn.nil
              exact AllReadyIn.nil
            refine AllReadyIn.cons rfl (fun K9 hK9 => ?_) ?_
            · go_simp
              refine ⟨trivial, ?_⟩
              refine (callsIn_wide.2 (CD.out _ (by assumption))).mono ?_
              rintro e wn ⟨rfl, z0, z1, z2, HFIN⟩
              try go_simp
              refine hK9 _ _ ?_
              clear hK9 K9
              refine wpAnyIn_ready (rs := [0]) (by kernel_rfl) (by simp) ?_
              refine AllReadyIn.cons rfl (fun K9 hK9 => ?_) ?_
              · go_simp
                refine hK9 _ _ ?_
                clear hK9 K9
                refine wpAnyIn_ready (rs := [8]) (by kernel_rfl) (by simp) ?_
                refine AllReadyIn.cons rfl (fun K9 hK9 => ?_) ?_
                · go_simp
                  refine hK9 _ _ ?_
                  clear hK9 K9
                  refine wpAnyIn_ready (rs := [9]) (by kernel_rfl) (by simp) ?_
                  refine AllReadyIn.cons rfl (fun K9 hK9 => ?_) ?_
                  · go_simp
                    refine hK9 _ _ ?_
                    clear hK9 K9
                    refine wpAnyIn_done (by kernel_rfl) ?_ _
                    obtain ⟨z5, z6, hfin⟩ := HFIN.out
                    gi_wp2
                    exact hfin
                  exact AllReadyIn.nil
                exact AllReadyIn.nil
              exact AllReadyIn.nil
            exact AllReadyIn.nil
          exact AllReadyIn.nil
        exact AllReadyIn.nil
        -- GEN2 END
      · have j1 : ((a0 : Int) == (A : Int)) = false := by simp; omega
        refine wpIn_region_kin (by kernel_rfl) (by kernel_rfl) (by kernel_rfl) ?_
        repeat (first
          | (refine wpQuiet_step (fun K9 hK9 => ?_); refine quiet_if (.agg (bytesV K)) (by rfl) (fun V hV => quiet_load 36 (.tmp 4) rfl w.heap.size 0 rfl (Lib.byteCells K) _ V (KW.out V hV) Try.underlying36 rfl HI.out) ?_; go_simp; refine hK9 _ ?_; clear hK9 K9)
          | go_big_quiet_step ((go_at_call 34; with_reducible exact CK.out _)))
        refine wpQuiet_nil ?_
        intro _ hx
        obtain ⟨x, rfl⟩ := hx
        have HX : Hid (Spares nowhere W x.wd) := Lib.hid (Below.spares x.below (fun k hk => .inr hk))
        clear d0 d1 d2 CK KW
        gi_wp2
        have hm := round_kept (B := W0.heap.size) (q := q) HX.out HI6.out.sp.size
        exact ⟨hm.1, hm.2, HI6.out.stays HX.out (by rw [HT0.out, HA0.out]; exact fun h => ha h.2)⟩
    · have j0 : ((t0 : Int) == (T : Int)) = false := by simp; omega
      refine wpIn_region_kin (by kernel_rfl) (by kernel_rfl) (by kernel_rfl) ?_
      repeat (first
        | (refine wpQuiet_step (fun K9 hK9 => ?_); refine quiet_if (.agg (bytesV K)) (by rfl) (fun V hV => quiet_load 36 (.tmp 4) rfl w.heap.size 0 rfl (Lib.byteCells K) _ V (KW.out V hV) Try.underlying36 rfl HI.out) ?_; go_simp; refine hK9 _ ?_; clear hK9 K9)
        | go_big_quiet_step ((go_at_call 34; with_reducible exact CK.out _)))
      refine wpQuiet_nil ?_
      intro _ hx
      obtain ⟨x, rfl⟩ := hx
      have HX : Hid (Spares nowhere W x.wd) := Lib.hid (Below.spares x.below (fun k hk => .inr hk))
      clear d0 d1 d2 CK KW
      gi_wp2
      have hm := round_kept (B := W0.heap.size) (q := q) HX.out HI6.out.sp.size
      exact ⟨hm.1, hm.2, HI6.out.stays HX.out (by rw [HT0.out, HA0.out]; exact fun h => ht h.1)⟩
  case done =>
    rintro D ys W hD hys hi hD2
    subst hys
    have hn1 := hit_none T A row hi.miss
    have f6 : W.cell? ⟨w.heap.size + 1 + 1, 0, none⟩ = some (.bool false) := by rw [Lib.cell_of_heap hi.res]; rfl
    have f7 : W.frozen? ⟨w.heap.size + 1 + 1, 0, none⟩ = false := Lib.frozen_of_heap hi.res 0
    go_wp2
    have hD3 : (W.setCell ⟨w.heap.size + 1 + 1, 0, none⟩ (.bool false)).heap[D]? = some (.deferred (some [])) := (Below.heap_setCell W _ _ D (by simp only; omega)).trans hD2
    refine ⟨by simp, .inl ⟨_, _, rfl, run_takeDeferred hD3, ?_⟩⟩
    have hs1 : Spares nowhere w (W.setCell ⟨w.heap.size + 1 + 1, 0, none⟩ (.bool false)) := hi.sp.setCell (p := ⟨w.heap.size + 1 + 1, 0, none⟩) (.inr (by simp only; omega)) _
    have hs2 := hs1.trans' (F' := fun k => some D = some k) ((Spares.refl _ _).grown (grownBy_putObj' (W.setCell ⟨w.heap.size + 1 + 1, 0, none⟩ (.bool false)) D (.deferred none)) (fun k e => .inl e)) (fun k e => .inr (by cases e; omega))
    refine ⟨_, results_del (b := false) _ rfl ?_, ?_, hs2.mono (fun _ h => h.elim), ?_⟩
    · have hr9 : (W.setCell ⟨w.heap.size + 1 + 1, 0, none⟩ (.bool false)).heap[w.heap.size + 1 + 1]? = some (.cells #[.bool false] 4 (0, 0)) := by
        simp [World.setCell, Array.getElem?_modify, hi.res]
      rw [Lib.cell_of_heap (kept_of (grownBy_putObj' _ D (.deferred none)) (fun k e => by cases e; exact ⟨_, hD3, rfl⟩) hr9)]; rfl
    · rw [hn1]; rfl
    · unfold delF
      rw [hn1]
      have e : E.set b row = E := by
        have hr9 := HROW.out
        rw [← hr9, List.set_getElem_self]
      simp only [e]
      exact HD.out.spares hs2 (fun _ _ _ h => h)
  case stop =>
    rintro D c pre W hD ⟨k, hk, hpre⟩ ⟨rfl, hX⟩ hD2
    obtain ⟨⟨pre', i, hpe, hm, hh, hDD⟩, hsp, hres⟩ := hX
    obtain ⟨k', rfl⟩ : ∃ k', k = k' + 1 := by
      cases k with
      | zero => simp only [backI] at hpre; rw [hpre] at hpe; simp at hpe
      | succ k' => exact ⟨k', rfl⟩
    have hfd := hit_found T A row k' hk pre' i (by rw [← hpe, hpre]) hm hh
    refine (wpIn_wide (n := 9)).2 ?_
    go_wp2
    refine ⟨by simp, .inl ⟨_, _, rfl, run_takeDeferred hD2, ?_⟩⟩
    have hs2 : Spares (fun k => some D = some k) W (W.putObj D (.deferred none)) := (Spares.refl _ W).grown (grownBy_putObj' W D (.deferred none)) (fun k e => .inl e)
    refine ⟨_, results_del (b := true) _ rfl ?_, ?_, hsp.trans' hs2 (fun k e => .inr (by cases e; omega)), ?_⟩
    · rw [Lib.cell_of_heap (kept_of (grownBy_putObj' W D (.deferred none)) (fun k e => by cases e; exact ⟨_, hD2, rfl⟩) hres)]; rfl
    · rw [hfd]; rfl
    · unfold delF
      rw [hfd]
      exact hDD.spares hs2 (fun k hk _ e => by have := HF.out k hk; cases e; omega)
end Go.Proofs.Ytihbjkdgfflnfaa
namespace Go.Proofs.Ytihbjkdgfflnfaa
open Go.RowKit

/-- A key stored into a new variable. -/
def keyZ (w : World) : World := w.alloc (.cells (bytesV (List.replicate 32 0)) 36)
theorem keyZ_there (w : World) (K : List UInt8) (hK : K.length = 32) : (keyZ w).there w.heap.size 0 (bytesV K).size :=
  there_of (heap_alloc_new w _) 0 _ (by rw [bytesV_size, bytesV_size, hK]; simp)
theorem keyZ_heap (w : World) (K : List UInt8) (hK : K.length = 32) : ((keyZ w).setCells w.heap.size 0 (bytesV K).toList).heap[w.heap.size]? = some (.cells (bytesV K) 36 (0, 0)) := by
  have := heap_setCells (g := w.heap.size) (t := 36) (Lib.byteCells K) [] (Lib.byteCells (List.replicate 32 0)) [] (keyZ w) (by rw [List.append_nil]; exact heap_alloc_new w _) (by rw [byteCells_len, byteCells_len, hK]; simp)
  rw [List.append_nil] at this
  exact this
theorem keyZ_spares (w : World) (K : List UInt8) : Spares nowhere w ((keyZ w).setCells w.heap.size 0 (bytesV K).toList) :=
  ((Spares.refl nowhere w).alloc _).trans' (F' := fun b => b = w.heap.size) (spares_cells _ _ (Spares.refl _ _)) (fun b hb => .inr (by omega))
theorem keyInfo (K : List UInt8) (hK : K.length = 32) : (Try.prog.info? 36).map (·.size) = some (bytesV K).size := by rw [bytesV_size, hK]; exact infoKey
theorem kn_b : bktF (keyF 1) 3 = 1 := by rfl
theorem kn_t : tagF (keyF 1) = 0 := by rfl
def knE1 : List (List Ent) := [[], [⟨0, 5, 2, 1⟩], []]
def knE2 : List (List Ent) := [[], [⟨0, 5, 2, 1⟩, ⟨0, 9, 2, 2⟩], []]
def knE3 : List (List Ent) := [[], [⟨0, 9, 2, 2⟩], []]
theorem kn_e1 : insF 4 (List.replicate 3 []) 1 ⟨0, 5, 2, 1⟩ = knE1 ∧ insE 4 (atRow (List.replicate 3 []) 1) 2 1 = 0 := ⟨by rfl, by rfl⟩
theorem kn_e2 : insF 4 knE1 1 ⟨0, 9, 2, 2⟩ = knE2 ∧ insE 4 (atRow knE1 1) 2 2 = 0 := ⟨by rfl, by rfl⟩
theorem kn_pr : probeF 0 (atRow knE2 1) = [⟨0, 9, 2, 2⟩, ⟨0, 5, 2, 1⟩] := by rfl
theorem kn_l2 : lenF knE2 = 2 := by rfl
theorem kn_d : hitF 0 5 (atRow knE2 1) = some 0 := by rfl
theorem kn_e3 : knE2.set 1 (delF 0 5 (atRow knE2 1)) = knE3 := by rfl
theorem kn_p : goneN 9 10 3 knE3 = 1 := by rfl
theorem kn_e4 : lenF (sweepF 9 10 3 knE3) = 0 := by rfl
set_option maxRecDepth 100000 in
set_option maxHeartbeats 4000000 in
theorem known_any (w : World) : Calls Try.prog 9 #[] w fun e w' => e = .returned (.bool true) ∧ Spares nowhere w w' := by
  have hKK : (keyF 1).length = 32 := keyF_len 1
  obtain ⟨K, hK⟩ : ∃ K, keyF 1 = K := ⟨_, rfl⟩
  have kb := kn_b
  have kt := kn_t
  rw [hK] at hKK kb kt
  have HKB := Lib.hid kb
  have HKT := Lib.hid kt
  have HKL := Lib.hid hKK
  have CK : Hid (∀ w : World, Calls Try.prog 14 #[.int .u16 1] w fun e w' => e = .returned (.agg (bytesV K)) ∧ Spares nowhere w w') := Lib.hid (fun w => by
    have := key_any 1 w (by omega)
    rw [hK] at this
    exact this)
  clear kb kt hKK hK
  go_enter Try.func9, Try.ntmps9
  go_wp2_with fail
  refine (new_any 3 4 3 4 _ (by decide) (by decide)).mono ?_
  rintro e w1 ⟨F, p, bk, R, rfl, hD, hs1, hF, hF2⟩
  go_wp2_with fail
  refine (CK.out _).mono ?_
  rintro e w2 ⟨rfl, hs2⟩
  have HD := Lib.hid hD
  have HS1 := Lib.hid hs1
  have HS2 := Lib.hid hs2
  have HF1 := Lib.hid hF
  have HF2 := Lib.hid hF2
  clear hD hs1 hs2 hF hF2
  have HTH := Lib.hid (keyZ_there w2 K HKL.out)
  have HIK := Lib.hid (keyInfo K HKL.out)
  go_upto_region 5 with ((with_reducible show wpList _ _ _ (⟨none, .store 36 _ _, _, _, _, _⟩ :: _) _ _); refine wpList_store_mid rfl 36 (.tmp 2) (.tmp 9) rfl w2.heap.size 0 (bytesV K) rfl rfl HTH.out HIK.out (bytesV_one _) ?_)
  obtain ⟨w3, hw3⟩ : ∃ w3, (keyZ w2).setCells w2.heap.size 0 (bytesV K).toList = w3 := ⟨_, rfl⟩
  have hkh := keyZ_heap w2 K HKL.out
  have hks := keyZ_spares w2 K
  rw [hw3] at hkh hks
  have HW3 := Lib.hid hw3
  have HKS := Lib.hid hks
  have HKH := Lib.hid hkh
  clear hw3 hks hkh
  have HS0 : Hid (Spares F w3 w3.drew) := Lib.hid (Spares.refl _ _).drew
  have HNF : Hid (¬ F w2.heap.size) := Lib.hid (fun h => by have := HF2.out _ h; have := HS2.out.size; omega)
  have HFL : Hid (∀ b, F b → b < w3.heap.size) := Lib.hid (fun b h => by have := HF2.out _ h; have := HS2.out.size; have := HKS.out.size; omega)
  have HKEEP : Hid (∀ V, Spares F w3 V → V.rangeAt w2.heap.size 0 (Lib.byteCells K)) := Lib.hid (fun V hV j u hj => by
    rw [Lib.cell_of_heap (hV.heap HKH.out HNF.out), Nat.zero_add]; simpa [bytesV] using hj)
  have CI1 : Hid (Calls Try.prog 16 #[.pointer (some ⟨p, 0, none⟩), .agg (bytesV K), .int .u32 5, .int .u16 2, .int .u64 1] w3.drew fun e w' => e = .returned (.int .i64 0) ∧ Hid (Spares F w3 w') ∧ Hid (∃ R, IsDir F p bk 3 4 R knE1 w')) := Lib.hid (by
    have := insert_any F p bk 3 4 R (List.replicate 3 []) K 5 2 1 w3.drew (HD.out.spares ((HS2.out.trans HKS.out).drew) (fun _ _ _ h => h)) (fun b h => HFL.out b h) HKL.out (by omega) (by omega) (by omega)
    rw [HKB.out, HKT.out] at this
    refine this.mono ?_
    rintro e w' ⟨rfl, h1, h2⟩
    rw [kn_e1.1] at h2
    exact ⟨by simp only [kn_e1.2]; rfl, Lib.hid (HS0.out.trans h1), Lib.hid h2⟩)
  have CI2 : Hid (∀ V, Hid (Spares F w3 V) → Hid (∃ R, IsDir F p bk 3 4 R knE1 V) → Calls Try.prog 16 #[.pointer (some ⟨p, 0, none⟩), .agg (bytesV K), .int .u32 9, .int .u16 2, .int .u64 2] V fun e w' => e = .returned (.int .i64 0) ∧ Hid (Spares F w3 w') ∧ Hid (∃ R, IsDir F p bk 3 4 R knE2 w')) := Lib.hid (fun V hV hI => by
    obtain ⟨R', hR'⟩ := hI.out
    have := insert_any F p bk 3 4 R' knE1 K 9 2 2 V hR' (fun b h => Nat.lt_of_lt_of_le (HFL.out b h) hV.out.size) HKL.out (by omega) (by omega) (by omega)
    rw [HKB.out, HKT.out] at this
    refine this.mono ?_
    rintro e w' ⟨rfl, h1, h2⟩
    rw [kn_e2.1] at h2
    exact ⟨by simp only [kn_e2.2]; rfl, Lib.hid (hV.out.trans h1), Lib.hid h2⟩)
  change Code.wp _ _ _ _ ((keyZ w2).setCells w2.heap.size 0 (bytesV K).toList)
  rw [HW3.out]
  simp only [Act.put]
  -- GEN
  refine wp_mono (Q := fun e a' W => e = .normal ∧ a' = ⟨#[.bool false, .pointer (some ⟨p, 0, none⟩), .pointer (some ⟨w2.heap.size, 0, none⟩), .int .i64 0, .int .i64 0, undef, .pointer (some ⟨p, 0, none⟩), .pointer (some ⟨p, 0, none⟩), .bool false, .agg (bytesV K), .pointer (some ⟨p, 0, none⟩), .agg (bytesV K), .int .i64 0, .pointer (some ⟨p, 0, none⟩), .agg (bytesV K), .int .i64 0, undef, undef, undef, undef, undef, undef, undef, undef, undef, undef, undef, undef, undef, undef, undef, undef, undef, undef, undef, undef, undef, undef, undef, undef, undef, undef, undef, undef, undef, undef, undef, undef, undef, undef, undef, undef, undef, undef, undef, undef, undef, undef, undef, undef, undef, undef, undef, undef, undef, undef], []⟩ ∧ Spares F w3 W ∧ ∃ R, IsDir F p bk 3 4 R knE2 W) ?_ ?_
  · refine wp_region_held_drew (S := fun w' => w'.rangeAt w2.heap.size 0 (Lib.byteCells K)) (by kernel_rfl) (HKEEP.out _ HS0.out) (fun hS0 => ?_)
    refine wpAnyH_take (i := 0) (v := ?_) rfl (by kernel_rfl) (by kernel_rfl) (by kernel_rfl) (fun _ _ _ h => nomatch h.1) (Or.inl ⟨by rfl, ?_⟩) (by assumption) ?_
    rotate_left
    · intro w9 hS9
      skip
      go_simp
      try with_reducible rfl
    simp only [List.getElem_toArray, List.getElem_cons_zero, Act.put, List.setIfInBounds_toArray, List.set_cons_succ, List.set_cons_zero]
    refine wpAnyH_take (i := 1) (v := .agg (bytesV K)) rfl (by kernel_rfl) (by kernel_rfl) (by kernel_rfl) (fun _ _ _ h => nomatch h.1) (yieldsIf_load_mid (by rfl) 36 (.tmp 2) rfl w2.heap.size 0 rfl (Lib.byteCells K) _ (fun w9 hS9 => hS9) Try.underlying36 rfl HIK.out) (by assumption) ?_
    simp only [List.getElem_toArray, List.getElem_cons_succ, List.getElem_cons_zero, Act.put, List.setIfInBounds_toArray, List.set_cons_succ, List.set_cons_zero]
    refine wpAnyH_take (i := 3) (v := ?_) rfl (by kernel_rfl) (by kernel_rfl) (by kernel_rfl) (fun _ _ _ h => nomatch h.1) (Or.inl ⟨by rfl, ?_⟩) (by assumption) ?_
    rotate_left
    · intro w9 hS9
      skip
      go_simp
      try with_reducible rfl
    simp only [List.getElem_toArray, List.getElem_cons_succ, List.getElem_cons_zero, Act.put, List.setIfInBounds_toArray, List.set_cons_succ, List.set_cons_zero]
    refine wpAnyH_take (i := 4) (v := .agg (bytesV K)) rfl (by kernel_rfl) (by kernel_rfl) (by kernel_rfl) (fun _ _ _ h => nomatch h.1) (yieldsIf_load_mid (by rfl) 36 (.tmp 2) rfl w2.heap.size 0 rfl (Lib.byteCells K) _ (fun w9 hS9 => hS9) Try.underlying36 rfl HIK.out) (by assumption) ?_
    simp only [List.getElem_toArray, List.getElem_cons_succ, List.getElem_cons_zero, Act.put, List.setIfInBounds_toArray, List.set_cons_succ, List.set_cons_zero]
    refine wpAnyH_ready (rs := [2]) (by kernel_rfl) (by simp) ?_
    refine AllReadyH.cons rfl (fun K9 hK9 => ?_) ?_
    · go_simp
      go_at_call 16
      with_reducible refine Calls.mono CI1.out ?_
      rintro e v1 ⟨rfl, hv1, hd1⟩
      try go_simp
      refine hK9.out _ _ ?_ (fun hS9 => ?_)
      · first
          | exact HKEEP.out _ hv2.out
          | exact HKEEP.out _ hv1.out
      clear hK9 K9
      refine wpAnyH_ready (rs := [5]) (by kernel_rfl) (by simp) ?_
      refine AllReadyH.cons rfl (fun K9 hK9 => ?_) ?_
      · go_simp
        go_at_call 16
        with_reducible refine Calls.mono (CI2.out v1 hv1 hd1) ?_
        rintro e v2 ⟨rfl, hv2, hd2⟩
        try go_simp
        refine hK9.out _ _ ?_ (fun hS9 => ?_)
        · first
            | exact HKEEP.out _ hv2.out
            | exact HKEEP.out _ hv1.out
        clear hK9 K9
        refine wpAnyH_ready (rs := [6]) (by kernel_rfl) (by simp) ?_
        refine AllReadyH.cons rfl (fun K9 hK9 => ?_) ?_
        · go_simp
          refine hK9.out _ _ ?_ (fun hS9 => ?_)
          · first
              | exact HKEEP.out _ hv2.out
              | exact HKEEP.out _ hv1.out
          clear hK9 K9
          refine wpAnyH_ready (rs := [7]) (by kernel_rfl) (by simp) ?_
          refine AllReadyH.cons rfl (fun K9 hK9 => ?_) ?_
          · go_simp
            refine hK9.out _ _ ?_ (fun hS9 => ?_)
            · first
                | exact HKEEP.out _ hv2.out
                | exact HKEEP.out _ hv1.out
            clear hK9 K9
            refine wpAnyH_done (by kernel_rfl) ?_ _
            exact ⟨rfl, rfl, hv2.out, hd2.out⟩
          exact AllReadyH.nil
        exact AllReadyH.nil
      exact AllReadyH.nil
    exact AllReadyH.nil
  -- GEN END
  rintro e a' w4 ⟨rfl, rfl, hv4, R4, hR4⟩
  have HR4 := Lib.hid hR4
  clear hR4 HD CI1 CI2 CK HTH
  go_wp2_with ((with_reducible show wpList _ _ _ (⟨_, .load 36 (.tmp 2), _, _, _, _⟩ :: _) _ _); refine wpList_load_midG (by rfl) 36 (.tmp 2) rfl w2.heap.size 0 rfl (Lib.byteCells K) _ (HKEEP.out _ (by assumption)) Try.underlying36 rfl HIK.out ?_)
  refine (probe_any F p bk 3 4 R4 knE2 K w4 HR4.out HKL.out).mono ?_
  rintro e w5 ⟨r, rfl, hr5, hs5⟩
  rw [HKB.out, HKT.out, kn_pr] at hr5 ⊢
  have hv5 : Spares F w3 w5 := hv4.trans' hs5 (fun _ h => h.elim)
  have HR5 := Lib.hid (HR4.out.spares hs5 (fun _ _ _ h => h))
  have hrl := hr5.le
  obtain ⟨pb, po, hra⟩ : ∃ pb po, r.a = some (pb, po) := by
    cases h : r.a with
    | none => have := hr5.nil h; simp only [List.length_cons] at hrl; omega
    | some x => exact ⟨x.1, x.2, rfl⟩
  have c9 : w5.cell? ⟨pb, po + 1, none⟩ = some (.int .u32 9) := hr5.ents pb po hra 0 (by simp) 1 (by omega)
  have had : r.ad = some ⟨pb, po, none⟩ := by unfold Row.ad; rw [hra]; rfl
  rw [had]
  obtain ⟨rc, hrc⟩ : ∃ rc, r.cap = rc := ⟨_, rfl⟩
  rw [hrc]
  have hpb : pb < w5.heap.size := (hr5.room pb po hra).2.lt
  clear hr5 hs5 hv4 hrl had hra hrc HR4
  simp only [List.length_cons, List.length_nil]
  go_wp2_with ((with_reducible show wpList _ _ _ (⟨_, .load 36 (.tmp 2), _, _, _, _⟩ :: _) _ _); refine wpList_load_midG (by rfl) 36 (.tmp 2) rfl w2.heap.size 0 rfl (Lib.byteCells K) _ (HKEEP.out _ (by assumption)) Try.underlying36 rfl HIK.out ?_)
  have c1 : w5.cell? ⟨p, 1, none⟩ = some (.slice (some ⟨bk, 0, none⟩) 3 3) := by rw [Lib.cell_of_heap HR5.out.hd]; rfl
  refine (bucket_any K p 3 3 _ w5 HKL.out (by omega) (by omega) c1).mono ?_
  rintro e w6 ⟨rfl, hs6⟩
  rw [HKB.out]
  have hv6 : Spares F w3 w6 := hv5.trans' hs6 (fun _ h => h.elim)
  have HR6 := Lib.hid (HR5.out.spares hs6 (fun _ _ _ h => h))
  clear HR5 hv5 hs6 c9 c1
  go_wp2_with ((with_reducible show wpList _ _ _ (⟨_, .load 36 (.tmp 2), _, _, _, _⟩ :: _) _ _); refine wpList_load_midG (by rfl) 36 (.tmp 2) rfl w2.heap.size 0 rfl (Lib.byteCells K) _ (HKEEP.out _ (by assumption)) Try.underlying36 rfl HIK.out ?_)
  refine (tag_any K w6 HKL.out).mono ?_
  rintro e w7 ⟨rfl, hs7⟩
  rw [HKT.out]
  have hv7 : Spares F w3 w7 := hv6.trans' hs7 (fun _ h => h.elim)
  have HR7 := Lib.hid (HR6.out.spares hs7 (fun _ _ _ h => h))
  clear HR6 hv6 hs7
  go_wp2_with ((with_reducible show wpList _ _ _ (⟨_, .load 36 (.tmp 2), _, _, _, _⟩ :: _) _ _); refine wpList_load_midG (by rfl) 36 (.tmp 2) rfl w2.heap.size 0 rfl (Lib.byteCells K) _ (HKEEP.out _ (by assumption)) Try.underlying36 rfl HIK.out ?_)
  refine (len_any F p bk 3 4 R4 knE2 w7 HR7.out).mono ?_
  rintro e w8 ⟨rfl, hw8⟩
  replace hw8 := hw8.symm
  subst hw8
  rw [kn_l2]
  go_wp2_with ((with_reducible show wpList _ _ _ (⟨_, .load 36 (.tmp 2), _, _, _, _⟩ :: _) _ _); refine wpList_load_midG (by rfl) 36 (.tmp 2) rfl w2.heap.size 0 rfl (Lib.byteCells K) _ (HKEEP.out _ (by assumption)) Try.underlying36 rfl HIK.out ?_)
  have hFl7 : ∀ b, F b → b < w7.heap.size := fun b h => Nat.lt_of_lt_of_le (HFL.out b h) hv7.size
  refine (delete_any F p bk 3 4 R4 knE2 K 5 w7 HR7.out hFl7 HKL.out).mono ?_
  rintro e w8 ⟨rfl, hs8, hR8⟩
  rw [HKB.out, HKT.out] at hR8 ⊢
  rw [kn_e3] at hR8
  rw [kn_d]
  have hv8 : Spares F w3 w8 := hv7.trans hs8
  have HR8 := Lib.hid hR8
  clear HR7 hv7 hs8 hR8 hFl7
  simp only [Option.isSome_some]
  go_wp2_with ((with_reducible show wpList _ _ _ (⟨_, .load 36 (.tmp 2), _, _, _, _⟩ :: _) _ _); refine wpList_load_midG (by rfl) 36 (.tmp 2) rfl w2.heap.size 0 rfl (Lib.byteCells K) _ (HKEEP.out _ (by assumption)) Try.underlying36 rfl HIK.out ?_)
  have hFl8 : ∀ b, F b → b < w8.heap.size := fun b h => Nat.lt_of_lt_of_le (HFL.out b h) hv8.size
  refine (purge_any F p bk 3 4 R4 knE3 9 10 3 w8 HR8.out hFl8 (by omega)).mono ?_
  rintro e w9 ⟨rfl, hs9, hR9⟩
  rw [kn_p]
  have hv9 : Spares F w3 w9 := hv8.trans hs9
  have HR9 := Lib.hid hR9
  clear HR8 hv8 hs9 hR9 hFl8
  go_wp2_with ((with_reducible show wpList _ _ _ (⟨_, .load 36 (.tmp 2), _, _, _, _⟩ :: _) _ _); refine wpList_load_midG (by rfl) 36 (.tmp 2) rfl w2.heap.size 0 rfl (Lib.byteCells K) _ (HKEEP.out _ (by assumption)) Try.underlying36 rfl HIK.out ?_)
  refine (len_any F p bk 3 4 R4 _ w9 HR9.out).mono ?_
  rintro e w10 ⟨rfl, hw10⟩
  replace hw10 := hw10.symm
  subst hw10
  rw [kn_e4]
  go_wp2
  go_ret
  exact ⟨rfl, ((HS1.out.trans HS2.out).trans HKS.out).trans' hv9 (fun b h => .inr (HF1.out b h))⟩
end Go.Proofs.Ytihbjkdgfflnfaa
namespace Go.Proofs.Ytihbjkdgfflnfaa
open Go.RowKit

set_option maxRecDepth 100000 in
set_option maxHeartbeats 4000000 in
theorem dirKeys_any (K : List UInt8) (nb : Int) (w : World) (hK : K.length = 32) (hnb : -9223372036854775808 ≤ nb ∧ nb ≤ 9223372036854775807) :
    Calls Try.prog 5 #[.agg (bytesV K), .int .i64 nb] w fun e w' => e = .returned (.bool true) ∧ Spares nowhere w w' := by
  obtain ⟨v, hv⟩ : ∃ v, w.alloc (.cells (bytesV K) 36) = v := ⟨_, rfl⟩
  have HV := Lib.hid hv
  have hs : Spares nowhere w v := by rw [← hv]; exact (Spares.refl _ w).alloc _
  have hkb : v.heap[w.heap.size]? = some (.cells (bytesV K) 36 (0, 0)) := by rw [← hv]; exact heap_alloc_new w _
  have HS := Lib.hid hs
  have HKB := Lib.hid hkb
  have HKL := Lib.hid hK
  have HIK := Lib.hid (keyInfo K hK)
  have HNB := Lib.hid hnb
  clear hv hs hkb hK hnb
  go_enter Try.func5, Try.ntmps5
  go_upto_region 1 with (fail)
  rw [HV.out]
  go_wp2_with fail
  refine (known_any v).mono ?_
  rintro e v0 ⟨rfl, hs0⟩
  have HS1 := Lib.hid (HS.out.trans hs0)
  have HKB1 := Lib.hid (hs0.heap HKB.out (fun h => h))
  clear hs0
  go_wp2_with fail
  refine (place_any nb 5000 v0 (by omega) (by omega) HNB.out).mono ?_
  rintro e v1 ⟨⟨m, hm, rfl⟩, hv1⟩
  subst hv1
  obtain ⟨n, hn⟩ : ∃ n : Nat, min (max (m : Int) 1) 4096 = (n : Int) := ⟨min (max m 1) 4096, by omega⟩
  have hn0 : 0 < n := by omega
  have hn1 : n ≤ 4096 := by omega
  obtain ⟨T, hT⟩ : ∃ T, tagF K = T := ⟨_, rfl⟩
  obtain ⟨b, hb⟩ : ∃ b, bktF K n = b := ⟨_, rfl⟩
  have HW1 := HS1
  have HS0 : Hid (Spares nowhere v0 v0.drew) := Lib.hid (Spares.refl _ _).drew
  have HKEEP : Hid (∀ V, Spares nowhere v0 V → V.rangeAt w.heap.size 0 (Lib.byteCells K)) := Lib.hid (fun V hV j u hj => by
    rw [Lib.cell_of_heap (hV.heap HKB1.out (fun h => h)), Nat.zero_add]; simpa [bytesV] using hj)
  have CT : Hid (∀ V, Hid (Spares nowhere v0 V) → Calls Try.prog 34 #[.agg (bytesV K)] V fun e w' => e = .returned (.int .u16 (T : Nat)) ∧ Hid (Spares nowhere v0 w')) := Lib.hid (fun V hV => (tag_any K V HKL.out).mono (by rintro e w' ⟨rfl, h⟩; exact ⟨by rw [hT], Lib.hid (hV.out.trans h)⟩))
  have CRT : Hid (∀ V, Hid (Spares nowhere v0 V) → Calls Try.prog 35 #[.agg (bytesV K)] V fun e w' => e = .returned (.int .u16 (T : Nat)) ∧ Hid (Spares nowhere v0 w')) := Lib.hid (fun V hV => (refTag_any K V HKL.out).mono (by rintro e w' ⟨rfl, h⟩; exact ⟨by rw [hT], Lib.hid (hV.out.trans h)⟩))
  have CN : Hid (∀ V, Hid (Spares nowhere v0 V) → Calls Try.prog 12 #[.int .i64 m, .int .i64 1] V fun e w' => ∃ p a, e = .returned (.pointer (some ⟨p, 0, none⟩)) ∧ Hid (Spares nowhere v0 w') ∧ Hid (w'.cell? ⟨p, 1, none⟩ = some (.slice a n n))) := Lib.hid (fun V hV => (new_any m 1 n 1 V hn (by decide)).mono (by
    rintro e w' ⟨F, p, bk, R, rfl, hD, h, _, _⟩
    exact ⟨p, some ⟨bk, 0, none⟩, rfl, Lib.hid (hV.out.trans h), Lib.hid (by rw [Lib.cell_of_heap hD.hd]; rfl)⟩))
  have CRN : Hid (∀ V, Hid (Spares nowhere v0 V) → Calls Try.prog 13 #[.int .i64 m, .int .i64 1] V fun e w' => ∃ p a, e = .returned (.pointer (some ⟨p, 0, none⟩)) ∧ Hid (Spares nowhere v0 w') ∧ Hid (w'.cell? ⟨p, 0, none⟩ = some (.slice a n n))) := Lib.hid (fun V hV => (refNew_any m 1 n 1 V hn (by decide)).mono (by
    rintro e w' ⟨F, p, bk, R, rfl, hD, h, _, _⟩
    exact ⟨p, some ⟨bk, 0, none⟩, rfl, Lib.hid (hV.out.trans h), Lib.hid (by rw [Lib.cell_of_heap hD.hd]; rfl)⟩))
  have CB : Hid (∀ V p a, Hid (Spares nowhere v0 V) → Hid (V.cell? ⟨p, 1, none⟩ = some (.slice a n n)) → Calls Try.prog 30 #[.pointer (some ⟨p, 0, none⟩), .agg (bytesV K)] V fun e w' => e = .returned (.int .i64 (b : Nat)) ∧ Hid (Spares nowhere v0 w')) := Lib.hid (fun V p a hV hc => (bucket_any K p n n a V HKL.out hn0 hn1 hc.out).mono (by rintro e w' ⟨rfl, h⟩; exact ⟨by rw [hb], Lib.hid (hV.out.trans h)⟩))
  have CRB : Hid (∀ V p a, Hid (Spares nowhere v0 V) → Hid (V.cell? ⟨p, 0, none⟩ = some (.slice a n n)) → Calls Try.prog 31 #[.pointer (some ⟨p, 0, none⟩), .agg (bytesV K)] V fun e w' => e = .returned (.int .i64 (b : Nat)) ∧ Hid (Spares nowhere v0 w')) := Lib.hid (fun V p a hV hc => (refBucket_any K p n n a V HKL.out hn0 hn1 hc.out).mono (by rintro e w' ⟨rfl, h⟩; exact ⟨by rw [hb], Lib.hid (hV.out.trans h)⟩))
  have j0 : ((T : Int) == (T : Int)) = true := by simp
  have j1 : ((b : Int) == (b : Int)) = true := by simp
  clear hn hT hb hm
  go_upto_region 4 with (fail)
  -- GEN
  refine wp_region_held_drew (S := fun w' => w'.rangeAt w.heap.size 0 (Lib.byteCells K)) (by kernel_rfl) (HKEEP.out _ HS0.out) (fun hS0 => ?_)
  refine wpAnyH_take (i := 0) (v := .agg (bytesV K)) rfl (by kernel_rfl) (by kernel_rfl) (by kernel_rfl) (fun _ _ _ h => h) (yieldsIf_load_mid (by rfl) 36 (.tmp 2) rfl w.heap.size 0 rfl (Lib.byteCells K) _ (fun w9 hS9 => hS9) Try.underlying36 rfl HIK.out) (by assumption) ?_
  simp only [List.getElem_toArray, List.getElem_cons_zero, Act.put, List.setIfInBounds_toArray, List.set_cons_succ, List.set_cons_zero]
  refine wpAnyH_take (i := 2) (v := .agg (bytesV K)) rfl (by kernel_rfl) (by kernel_rfl) (by kernel_rfl) (fun _ _ _ h => h) (yieldsIf_load_mid (by rfl) 36 (.tmp 2) rfl w.heap.size 0 rfl (Lib.byteCells K) _ (fun w9 hS9 => hS9) Try.underlying36 rfl HIK.out) (by assumption) ?_
  simp only [List.getElem_toArray, List.getElem_cons_succ, List.getElem_cons_zero, Act.put, List.setIfInBounds_toArray, List.set_cons_succ, List.set_cons_zero]
  refine wpAnyH_ready (rs := [1]) (by kernel_rfl) (by simp) ?_
  refine AllReadyH.cons rfl (fun K9 hK9 => ?_) ?_
  · go_simp
    go_at_call 34
    with_reducible refine Calls.mono (CT.out _ HS0) ?_
    rintro e v1 ⟨rfl, hv1⟩
    try go_simp
    refine hK9.out _ _ ?_ (fun hS9 => ?_)
    · exact HKEEP.out _ hv1.out
    clear hK9 K9
    refine wpAnyH_ready (rs := [3]) (by kernel_rfl) (by simp) ?_
    refine AllReadyH.cons rfl (fun K9 hK9 => ?_) ?_
    · go_simp
      go_at_call 35
      with_reducible refine Calls.mono (CRT.out _ hv1) ?_
      rintro e v2 ⟨rfl, hv2⟩
      try go_simp
      refine hK9.out _ _ ?_ (fun hS9 => ?_)
      · exact HKEEP.out _ hv2.out
      clear hK9 K9
      refine wpAnyH_take (i := 4) (v := ?_) rfl (by kernel_rfl) (by kernel_rfl) (by kernel_rfl) (fun _ _ _ h => h) (Or.inl ⟨by rfl, ?_⟩) (by assumption) ?_
      rotate_left
      · intro w9 hS9
        skip
        go_simp
        try with_reducible rfl
      simp only [List.getElem_toArray, List.getElem_cons_succ, List.getElem_cons_zero, Act.put, List.setIfInBounds_toArray, List.set_cons_succ, List.set_cons_zero]
      refine wpAnyH_take (i := 5) (v := ?_) rfl (by kernel_rfl) (by kernel_rfl) (by kernel_rfl) (fun _ _ _ h => h) (Or.inl ⟨by rfl, ?_⟩) (by assumption) ?_
      rotate_left
      · intro w9 hS9
        skip
        go_simp
        try with_reducible rfl
      simp only [List.getElem_toArray, List.getElem_cons_succ, List.getElem_cons_zero, Act.put, List.setIfInBounds_toArray, List.set_cons_succ, List.set_cons_zero]
      refine wpAnyH_take (i := 6) (v := ?_) rfl (by kernel_rfl) (by kernel_rfl) (by kernel_rfl) (fun _ _ _ h => h) (Or.inl ⟨by rfl, ?_⟩) (by assumption) ?_
      rotate_left
      · intro w9 hS9
        skip
        go_simp
        try with_reducible rfl
      simp only [List.getElem_toArray, List.getElem_cons_succ, List.getElem_cons_zero, Act.put, List.setIfInBounds_toArray, List.set_cons_succ, List.set_cons_zero]
      refine wpAnyH_take (i := 8) (v := .agg (bytesV K)) rfl (by kernel_rfl) (by kernel_rfl) (by kernel_rfl) (fun _ _ _ h => h) (yieldsIf_load_mid (by rfl) 36 (.tmp 2) rfl w.heap.size 0 rfl (Lib.byteCells K) _ (fun w9 hS9 => hS9) Try.underlying36 rfl HIK.out) (by assumption) ?_
      simp only [List.getElem_toArray, List.getElem_cons_succ, List.getElem_cons_zero, Act.put, List.setIfInBounds_toArray, List.set_cons_succ, List.set_cons_zero]
      refine wpAnyH_take (i := 10) (v := ?_) rfl (by kernel_rfl) (by kernel_rfl) (by kernel_rfl) (fun _ _ _ h => h) (Or.inl ⟨by rfl, ?_⟩) (by assumption) ?_
      rotate_left
      · intro w9 hS9
        skip
        go_simp
        try with_reducible rfl
      simp only [List.getElem_toArray, List.getElem_cons_succ, List.getElem_cons_zero, Act.put, List.setIfInBounds_toArray, List.set_cons_succ, List.set_cons_zero]
      refine wpAnyH_take (i := 12) (v := .agg (bytesV K)) rfl (by kernel_rfl) (by kernel_rfl) (by kernel_rfl) (fun _ _ _ h => h) (yieldsIf_load_mid (by rfl) 36 (.tmp 2) rfl w.heap.size 0 rfl (Lib.byteCells K) _ (fun w9 hS9 => hS9) Try.underlying36 rfl HIK.out) (by assumption) ?_
      simp only [List.getElem_toArray, List.getElem_cons_succ, List.getElem_cons_zero, Act.put, List.setIfInBounds_toArray, List.set_cons_succ, List.set_cons_zero]
      refine wpAnyH_ready (rs := [7]) (by kernel_rfl) (by simp) ?_
      refine AllReadyH.cons rfl (fun K9 hK9 => ?_) ?_
      · go_simp
        go_at_call 12
        with_reducible refine Calls.mono (CN.out _ hv2) ?_
        rintro e v3 ⟨p, a, rfl, hv3, hc3⟩
        try go_simp
        refine hK9.out _ _ ?_ (fun hS9 => ?_)
        · exact HKEEP.out _ hv3.out
        clear hK9 K9
        refine wpAnyH_ready (rs := [9]) (by kernel_rfl) (by simp) ?_
        refine AllReadyH.cons rfl (fun K9 hK9 => ?_) ?_
        · go_simp
          go_at_call 30
          with_reducible refine Calls.mono (CB.out _ p a hv3 hc3) ?_
          rintro e v4 ⟨rfl, hv4⟩
          try go_simp
          refine hK9.out _ _ ?_ (fun hS9 => ?_)
          · exact HKEEP.out _ hv4.out
          clear hK9 K9
          refine wpAnyH_ready (rs := [11]) (by kernel_rfl) (by simp) ?_
          refine AllReadyH.cons rfl (fun K9 hK9 => ?_) ?_
          · go_simp
            go_at_call 13
            with_reducible refine Calls.mono (CRN.out _ hv4) ?_
            rintro e v5 ⟨p', a', rfl, hv5, hc5⟩
            try go_simp
            refine hK9.out _ _ ?_ (fun hS9 => ?_)
            · exact HKEEP.out _ hv5.out
            clear hK9 K9
            refine wpAnyH_ready (rs := [13]) (by kernel_rfl) (by simp) ?_
            refine AllReadyH.cons rfl (fun K9 hK9 => ?_) ?_
            · go_simp
              go_at_call 31
              with_reducible refine Calls.mono (CRB.out _ p' a' hv5 hc5) ?_
              rintro e v6 ⟨rfl, hv6⟩
              try go_simp
              refine hK9.out _ _ ?_ (fun hS9 => ?_)
              · exact HKEEP.out _ hv6.out
              clear hK9 K9
              refine wpAnyH_take (i := 14) (v := ?_) rfl (by kernel_rfl) (by kernel_rfl) (by kernel_rfl) (fun _ _ _ h => h) (Or.inl ⟨by rfl, ?_⟩) (by assumption) ?_
              rotate_left
              · intro w9 hS9
                skip
                go_simp
                try with_reducible rfl
              simp only [List.getElem_toArray, List.getElem_cons_succ, List.getElem_cons_zero, Act.put, List.setIfInBounds_toArray, List.set_cons_succ, List.set_cons_zero]
              refine wpAnyH_take (i := 15) (v := ?_) rfl (by kernel_rfl) (by kernel_rfl) (by kernel_rfl) (fun _ _ _ h => h) (Or.inl ⟨by rfl, ?_⟩) (by assumption) ?_
              rotate_left
              · intro w9 hS9
                skip
                go_simp
                try with_reducible rfl
              simp only [List.getElem_toArray, List.getElem_cons_succ, List.getElem_cons_zero, Act.put, List.setIfInBounds_toArray, List.set_cons_succ, List.set_cons_zero]
              refine wpAnyH_take (i := 16) (v := ?_) rfl (by kernel_rfl) (by kernel_rfl) (by kernel_rfl) (fun _ _ _ h => h) (Or.inl ⟨by rfl, ?_⟩) (by assumption) ?_
              rotate_left
              · intro w9 hS9
                skip
                go_simp
                try with_reducible rfl
              simp only [List.getElem_toArray, List.getElem_cons_succ, List.getElem_cons_zero, Act.put, List.setIfInBounds_toArray, List.set_cons_succ, List.set_cons_zero]
              refine wpAnyH_done (by kernel_rfl) ?_ _
              go_wp2
              go_ret
              exact ⟨rfl, HW1.out.trans hv6.out⟩
            exact AllReadyH.nil
          exact AllReadyH.nil
        exact AllReadyH.nil
      exact AllReadyH.nil
    exact AllReadyH.nil
  exact AllReadyH.nil
  -- GEN END
end Go.Proofs.Ytihbjkdgfflnfaa
namespace Go.Proofs.Ytihbjkdgfflnfaa
open Go.RowKit
open Go.WideShapes Go.ChangeAt

set_option maxRecDepth 100000
theorem i64_fits {z : Int} (h : (Lit.int IntKind.i64 z).wf = true) : -9223372036854775808 ≤ z ∧ z ≤ 9223372036854775807 := by
  simp [Lit.wf] at h
  have e1 : IntKind.i64.min = -9223372036854775808 := by decide
  rw [e1] at h
  omega
theorem wide_array {P : Program} {w : World} {r : Reach} {base : Nat} {t e : TypeId} {m : Nat} {v : Value} (ht : P.underlying t = some (.array m e)) (h : Value.okWide P w r base t v) : ∃ cs, v = .agg cs ∧ cs.size = P.cellsOf t := by
  simp only [Value.okWide, ht] at h
  obtain ⟨cs, h1, h2, _⟩ := h
  exact ⟨cs, h1, h2⟩
theorem key_open {H : Type} {W : World} {enc : TypeId × Value → H} {v : Value} {d : DataW H} {p : List MemPlace} {r : Reach} {b0 : Nat} (hv : Value.okWide Try.prog W r b0 36 v) (h : DataW.Trod enc Try.prog W 0 (fun _ => true) true 36 v d p) :
    ∃ X : List UInt8, X.length = 32 ∧ v = .agg (bytesV X) := by
  obtain ⟨cs, rfl, hsz⟩ := wide_array Try.underlying36 hv
  obtain ⟨fuel, hf⟩ := h
  obtain ⟨X, hX, e⟩ := byteArr_open (m := 32) Try.underlying36 (by kernel_rfl) hf
  refine ⟨X, hX, ?_⟩
  have e' : cs.toList = Lib.byteCells X := by simpa [Value.cells] using e
  unfold bytesV
  rw [← e']
end Go.Proofs.Ytihbjkdgfflnfaa
namespace Go.Proofs.Ytihbjkdgfflnfaa
open Go.RowKit

def fullR (T j : Nat) : List Ent := (List.range j).map fun x => ⟨T, x, 1, 1⟩
def fullE (b T s k : Nat) : List (List Ent) := (List.replicate 7 []).set b (fullR T (min k s))
theorem fullR_len (T j : Nat) : (fullR T j).length = j := by simp [fullR]
theorem atRow_set {E : List (List Ent)} {b : Nat} (h : b < E.length) (r : List Ent) : atRow (E.set b r) b = r := by
  unfold atRow; rw [List.getD_eq_getElem?_getD, List.getElem?_set_self h]; rfl
theorem atRow_set_ne {E : List (List Ent)} {b c : Nat} (h : b ≠ c) (r : List Ent) : atRow (E.set b r) c = atRow E c := by
  unfold atRow; rw [List.getD_eq_getElem?_getD, List.getD_eq_getElem?_getD, List.getElem?_set_ne h]
theorem atRow_rep (n c : Nat) : atRow (List.replicate n []) c = [] := by
  unfold atRow; rw [List.getD_eq_getElem?_getD, List.getElem?_replicate]; split <;> rfl
theorem fullE_row (b T s k : Nat) (hb : b < 7) : atRow (fullE b T s k) b = fullR T (min k s) := atRow_set (by simpa using hb) _
theorem fullE_zero (b T s : Nat) (_hb : b < 7) : fullE b T s 0 = List.replicate 7 [] := by
  unfold fullE fullR
  rw [Nat.zero_min, List.range_zero, List.map_nil]
  apply List.ext_getElem
  · simp
  · intro i h1 h2
    by_cases e : b = i
    · subst e; rw [List.getElem_set_self, List.getElem_replicate]
    · rw [List.getElem_set_ne e]
theorem full_ins (b T s k : Nat) (hb : b < 7) : insE s (atRow (fullE b T s k) b) 1 1 = (if k < s then 0 else 50) ∧ insF s (fullE b T s k) b ⟨T, k, 1, 1⟩ = fullE b T s (k + 1) := by
  have h1 : insE s (atRow (fullE b T s k) b) 1 1 = (if k < s then 0 else 50) := by
    rw [fullE_row b T s k hb]
    unfold insE
    rw [if_neg (by omega), fullR_len]
    by_cases h : k < s
    · rw [if_pos h, if_neg (by omega)]
    · rw [if_neg h, if_pos (by omega)]
  refine ⟨h1, ?_⟩
  unfold insF
  simp only [h1]
  by_cases h : k < s
  · simp only [if_pos h, if_true]
    unfold addF
    rw [fullE_row b T s k hb]
    unfold fullE
    rw [List.set_set]
    congr 1
    rw [show min (k + 1) s = min k s + 1 by omega, show min k s = k by omega]
    simp [fullR, List.range_succ]
  · simp only [if_neg h]
    rw [if_neg (by omega)]
    unfold fullE
    rw [show min (k + 1) s = min k s by omega]
theorem lenF_set {E : List (List Ent)} {b : Nat} (h : b < E.length) (r : List Ent) : lenF (E.set b r) + (atRow E b).length = lenF E + r.length := by
  induction E generalizing b with
  | nil => simp at h
  | cons x E ih =>
    cases b with
    | zero => simp [lenF, atRow]; omega
    | succ b =>
      have := ih (b := b) (by simpa using h)
      simp only [lenF, atRow, List.set_cons_succ, List.map_cons, List.sum_cons, List.getD_cons_succ] at this ⊢
      omega
theorem lenF_rep (n : Nat) : lenF (List.replicate n []) = 0 := by
  unfold lenF; induction n with
  | zero => rfl
  | succ n ih => rw [List.replicate_succ, List.map_cons, List.sum_cons, ih]; rfl
theorem full_hitK (T s : Nat) : ∀ k, k ≤ s → 0 < k → hitK T 0 (fullR T s) k = some 0
  | 0, _, h => absurd h (Nat.lt_irrefl 0)
  | k + 1, hk, _ => by
    have hkl : k < (fullR T s).length := by rw [fullR_len]; omega
    have he : (fullR T s)[k] = ⟨T, k, 1, 1⟩ := by simp [fullR]
    by_cases h0 : k = 0
    · subst h0
      exact hitK_hit hkl (by rw [he]; exact ⟨rfl, rfl⟩)
    · rw [hitK_miss hkl (by rw [he]; exact fun h => h0 h.2)]
      exact full_hitK T s k (by omega) (by omega)
theorem full_hit (T s : Nat) (hs : 0 < s) : hitF T 0 (fullR T s) = some 0 := by
  unfold hitF; rw [fullR_len]; exact full_hitK T s s (Nat.le_refl _) hs
set_option maxRecDepth 100000 in
theorem key_b (k : Nat) : bktF (keyF k) 7 = k % 7 := by
  have h : ofBE ((keyF k).take 4) = k % 7 := by
    unfold keyF
    simp only [List.take_succ_cons, List.take_zero, ofBE, List.foldl_cons, List.foldl_nil]
    have : (UInt8.ofNat (k % 7)).toNat = k % 7 := by rw [UInt8.toNat_ofNat']; omega
    rw [this]
    show ((0 * 256 + 0) * 256 + 0) * 256 + 0 + _ = _
    omega
  unfold bktF
  rw [h]
  omega
set_option maxRecDepth 100000 in
set_option maxHeartbeats 4000000 in
theorem dirFull_any (sl nn k : Nat) (w : World) (hsl : sl < 256) (hnn : nn < 256) (hk : k < 65536) :
    Calls Try.prog 6 #[.int .u8 sl, .int .u8 nn, .int .u16 k] w fun e w' => e = .returned (.bool true) ∧ Spares nowhere w w' := by
  obtain ⟨a, ha⟩ : ∃ a : Nat, sl % 20 = a := ⟨_, rfl⟩
  obtain ⟨N, hN⟩ : ∃ N : Nat, nn % 24 = N := ⟨_, rfl⟩
  have hsa : (sl : Int) % 20 = (a : Int) := by omega
  have hnN : (nn : Int) % 24 = (N : Int) := by omega
  have hN24 : N < 24 := by omega
  have ha20 : a < 20 := by omega
  clear ha hN
  obtain ⟨s, hs⟩ : ∃ s : Nat, min (max (a : Int) 1) 16 = (s : Int) := ⟨min (max a 1) 16, by omega⟩
  have hs0 : 0 < s := by omega
  have hs16 : s ≤ 16 := by omega
  obtain ⟨K, hK⟩ : ∃ K, keyF k = K := ⟨_, rfl⟩
  have hKL : K.length = 32 := by rw [← hK]; exact keyF_len k
  obtain ⟨b, hb⟩ : ∃ b, bktF K 7 = b := ⟨_, rfl⟩
  have hb7 : b < 7 := by rw [← hb]; exact bktF_lt K 7 (by omega)
  obtain ⟨T, hT⟩ : ∃ T, tagF K = T := ⟨_, rfl⟩
  have CK : Hid (∀ w : World, Calls Try.prog 14 #[.int .u16 k] w fun e w' => e = .returned (.agg (bytesV K)) ∧ Spares nowhere w w') := Lib.hid (fun w => by
    have := key_any k w hk
    rw [hK] at this
    exact this)
  go_enter Try.func6, Try.ntmps6
  go_wp2_with fail
  refine (known_any w).mono ?_
  rintro e v0 ⟨rfl, hs0⟩
  go_wp2_with fail
  refine (new_any 7 a 7 s v0 (by decide) hs).mono ?_
  rintro e w1 ⟨F, p, bk, R, rfl, hD, hs1, hF, hF2⟩
  rw [← fullE_zero b T s hb7] at hD
  have HD := Lib.hid hD
  have HS1 := Lib.hid (hs0.trans hs1)
  have HFW : Hid (∀ b, F b → w.heap.size ≤ b) := Lib.hid (fun b h => by have := hF b h; have := hs0.size; omega)
  have HF2 := Lib.hid hF2
  clear hD hs0 hs1 hF hF2
  have CI : Hid (∀ i W, i < 24 → Hid (Spares F w1 W) → Hid (∃ R, IsDir F p bk 7 s R (fullE b T s i) W) → Calls Try.prog 16 #[.pointer (some ⟨p, 0, none⟩), .agg (bytesV K), .int .u32 (i : Nat), .int .u16 1, .int .u64 1] W fun e w' => e = .returned (.int .i64 (if i < s then 0 else 50)) ∧ Hid (Spares F w1 w') ∧ Hid (∃ R, IsDir F p bk 7 s R (fullE b T s (i + 1)) w')) := Lib.hid (fun i W hi hW hI => by
    obtain ⟨R', hR'⟩ := hI.out
    have := insert_any F p bk 7 s R' _ K i 1 1 W hR' (fun b h => Nat.lt_of_lt_of_le (HF2.out b h) hW.out.size) hKL (by omega) (by omega) (by omega)
    rw [hb, hT] at this
    refine this.mono ?_
    rintro e w' ⟨rfl, h1, h2⟩
    rw [(full_ins b T s i hb7).2] at h2
    exact ⟨by simp only [(full_ins b T s i hb7).1]; split <;> rfl, Lib.hid (hW.out.trans h1), Lib.hid h2⟩)
  have HK := Lib.hid hK
  have HB := Lib.hid hb
  have HT := Lib.hid hT
  have HKL := Lib.hid hKL
  clear hK hb hT hKL
  go_wp2_with (rw [hs])
  clear hsa hs
  go_loopw [9] (fun i wr => ∃ q : Nat, q ≤ N ∧ i = .int .i64 q ∧ Hid (∃ R, IsDir F p bk 7 s R (fullE b T s q) wr) ∧ Hid (Spares F w1 wr)) (fun i _ => N - (intOf i).toNat)
  case atStart => exact ⟨0, by omega, rfl, Lib.hid ⟨R, HD.out⟩, Lib.hid (Spares.refl _ _)⟩
  case round =>
    obtain ⟨q, hq, rfl, HI, HW⟩ := hrel
    by_cases hlt : q < N
    · have u0 : IntKind.u32.wrap (q : Int) = (q : Int) := by rw [IntKind.wrap_u32]; omega
      have u1 : IntKind.i64.wrap ((q : Int) + 1) = (q : Int) + 1 := by rw [IntKind.wrap_i64]; omega
      go_wp2_with fail
      refine (CK.out wr).mono ?_
      rintro e w2 ⟨rfl, hs2⟩
      go_wp2_with fail
      refine (CI.out q w2 (by omega) (Lib.hid (HW.out.trans' hs2 (fun _ h => h.elim))) (Lib.hid ?_)).mono ?_
      · obtain ⟨R', hR'⟩ := HI.out
        exact ⟨R', hR'.spares hs2 (fun _ _ _ h => h)⟩
      rintro e w3 ⟨rfl, HW3, HI3⟩
      by_cases hqs : q < s
      · have i1 : (q : Int) < (s : Int) := by omega
        rw [if_pos hqs]
        go_wp2
        go_roundw
        case rel => exact ⟨q + 1, by omega, by rfl, HI3, HW3⟩
        case measure => simp [intOf]; omega
      · have i1 : ¬ (q : Int) < (s : Int) := by omega
        rw [if_neg hqs]
        go_wp2
        go_roundw
        case rel => exact ⟨q + 1, by omega, by rfl, HI3, HW3⟩
        case measure => simp [intOf]; omega
    · obtain rfl : q = N := by omega
      obtain ⟨k2, hk2, hk2l, hk27⟩ : ∃ k2 : Nat, IntKind.u16.wrap ((k : Int) + 1) = (k2 : Int) ∧ k2 < 65536 ∧ k2 % 7 ≠ k % 7 := ⟨(k + 1) % 65536, by rw [IntKind.wrap_u16]; omega, by omega, by omega⟩
      obtain ⟨R1, hR1⟩ := HI.out
      have hbk : b = k % 7 := by rw [← HB.out, ← HK.out, key_b]
      have hE1 : lenF (fullE b T s q) = min q s := by
        have := lenF_set (E := List.replicate 7 []) (b := b) (by simpa using hb7) (fullR T (min q s))
        rw [atRow_rep, lenF_rep, fullR_len] at this
        simpa [fullE] using this
      obtain ⟨M, hM⟩ : ∃ M, min q s = M := ⟨_, rfl⟩
      have hMi : min (q : Int) (s : Int) = (M : Int) := by omega
      rw [hM] at hE1
      have HE1 := Lib.hid hE1
      have HM := Lib.hid hM
      have HR1 := Lib.hid hR1
      clear hE1 hM hR1 HI
      go_wp2_with fail
      refine (key_any k2 wr hk2l).mono ?_
      rintro e w2 ⟨rfl, hs2⟩
      have hb2 := key_b k2
      have hbl2 : k2 % 7 < 7 := Nat.mod_lt _ (by omega)
      have hbne : b ≠ k2 % 7 := by omega
      have hK2 := keyF_len k2
      obtain ⟨K2, hKK⟩ : ∃ K2, keyF k2 = K2 := ⟨_, rfl⟩
      obtain ⟨T2, hT2⟩ : ∃ T2, tagF K2 = T2 := ⟨_, rfl⟩
      obtain ⟨b2, hbb⟩ : ∃ b2, k2 % 7 = b2 := ⟨_, rfl⟩
      rw [hKK] at hb2 hK2 ⊢
      rw [hbb] at hb2 hbl2 hbne
      have hl7 : (fullE b T s q).length = 7 := by simp [fullE]
      have hr2 : atRow (fullE b T s q) b2 = [] := by unfold fullE; rw [atRow_set_ne hbne, atRow_rep]
      have hi2 : insE s (atRow (fullE b T s q) b2) 1 1 = 0 := by rw [hr2]; unfold insE; rw [if_neg (by omega), if_neg (by simp; omega)]
      have hf2 : insF s (fullE b T s q) b2 ⟨T2, 99, 1, 1⟩ = (fullE b T s q).set b2 [⟨T2, 99, 1, 1⟩] := by
        unfold insF; simp only [hi2, if_true]; unfold addF; rw [hr2]; rfl
      have hW2 : Spares F w1 w2 := HW.out.trans' hs2 (fun _ h => h.elim)
      have C2 := insert_any F p bk 7 s R1 _ K2 99 1 1 w2 (HR1.out.spares hs2 (fun _ _ _ h => h)) (fun b h => Nat.lt_of_lt_of_le (HF2.out b h) hW2.size) hK2 (by omega) (by omega) (by omega)
      rw [hb2, hT2] at C2
      have HC2 := Lib.hid C2
      have HWW2 := Lib.hid hW2
      obtain ⟨E2, hE2⟩ : ∃ E2, (fullE b T s q).set b2 [⟨T2, 99, 1, 1⟩] = E2 := ⟨_, rfl⟩
      have hl2 : E2.length = 7 := by rw [← hE2, List.length_set]; exact hl7
      have hlen2 : lenF E2 = M + 1 := by
        have := lenF_set (E := fullE b T s q) (b := b2) (by omega) [⟨T2, 99, 1, 1⟩]
        rw [hr2, hE2, HE1.out] at this
        simpa using this
      have hrow2 : atRow E2 b = fullR T M := by rw [← hE2, atRow_set_ne (fun h => hbne h.symm), fullE_row b T s q hb7, HM.out]
      have HE2 := Lib.hid hE2
      have HL2 := Lib.hid hl2
      have HLEN2 := Lib.hid hlen2
      have HROW2 := Lib.hid hrow2
      have HI2 := Lib.hid hi2
      have HF3 := Lib.hid hf2
      clear C2 hW2 hE2 hl2 hlen2 hrow2 hi2 hf2 hr2 hl7 hb2 hT2 hKK hbb hs2 hk2 hbk
      go_wp2_with fail
      refine HC2.out.mono ?_
      rintro e w3 ⟨rfl, hs3, R2, hR2⟩
      rw [HF3.out, HE2.out] at hR2
      simp only [HI2.out]
      have HR2 := Lib.hid hR2
      have HW3 := Lib.hid (HWW2.out.trans hs3)
      clear hR2 hs3
      by_cases hNs : s ≤ q
      · have i1 : (s : Int) ≤ (q : Int) := by omega
        have hMs : M = s := by have := HM.out; omega
        go_wp2_with fail
        refine (CK.out w3).mono ?_
        rintro e w4 ⟨rfl, hs4⟩
        have hD4 := HR2.out.spares hs4 (fun _ _ _ h => h)
        have HW4 := Lib.hid (HW3.out.trans' hs4 (fun _ h => h.elim))
        have C5 := delete_any F p bk 7 s R2 E2 K 0 w4 hD4 (fun b h => Nat.lt_of_lt_of_le (HF2.out b h) HW4.out.size) HKL.out
        rw [HB.out, HT.out] at C5
        have HC5 := Lib.hid C5
        clear C5 hD4 hs4
        go_wp2_with fail
        refine HC5.out.mono ?_
        rintro e w5 ⟨rfl, hs5, hD5⟩
        have hhit : hitF T 0 (atRow E2 b) = some 0 := by rw [HROW2.out, hMs]; exact full_hit T s hs0
        rw [hhit]
        have hdel : delF T 0 (atRow E2 b) = (fullR T s).eraseIdx 0 := by unfold delF; rw [hhit, HROW2.out, hMs]
        rw [hdel] at hD5
        simp only [Option.isSome_some]
        obtain ⟨E3, hE3⟩ : ∃ E3, E2.set b ((fullR T s).eraseIdx 0) = E3 := ⟨_, rfl⟩
        have hel : ((fullR T s).eraseIdx 0).length = s - 1 := by rw [List.length_eraseIdx, if_pos (by rw [fullR_len]; exact hs0), fullR_len]
        have hl3 : E3.length = 7 := by rw [← hE3, List.length_set]; exact HL2.out
        have hlen3 : lenF E3 = s := by
          have := lenF_set (E := E2) (b := b) (by rw [HL2.out]; exact hb7) ((fullR T s).eraseIdx 0)
          rw [hE3, HROW2.out, HLEN2.out, hel, fullR_len] at this
          omega
        have hrow3 : atRow E3 b = (fullR T s).eraseIdx 0 := by rw [← hE3]; exact atRow_set (by rw [HL2.out]; exact hb7) _
        have hi3 : insE s (atRow E3 b) 1 1 = 0 := by rw [hrow3]; unfold insE; rw [if_neg (by omega), hel, if_neg (by omega)]
        have hlen4 : lenF (insF s E3 b ⟨T, 77, 1, 1⟩) = s + 1 := by
          unfold insF; simp only [hi3, if_true]; unfold addF
          have := lenF_set (E := E3) (b := b) (by omega) (atRow E3 b ++ [⟨T, 77, 1, 1⟩])
          rw [List.length_append, List.length_singleton] at this
          omega
        rw [hE3] at hD5
        have HD5 := Lib.hid hD5
        have HW5 := Lib.hid (HW4.out.trans hs5)
        have HI5 := Lib.hid hi3
        have HL4 := Lib.hid hlen4
        clear hE3 hel hl3 hlen3 hrow3 hi3 hlen4 hD5 hs5 hhit hdel
        go_wp2_with fail
        refine (CK.out w5).mono ?_
        rintro e w6 ⟨rfl, hs6⟩
        have hD6 := HD5.out.spares hs6 (fun _ _ _ h => h)
        have HW6 := Lib.hid (HW5.out.trans' hs6 (fun _ h => h.elim))
        have C7 := insert_any F p bk 7 s R2 E3 K 77 1 1 w6 hD6 (fun b h => Nat.lt_of_lt_of_le (HF2.out b h) HW6.out.size) HKL.out (by omega) (by omega) (by omega)
        rw [HB.out, HT.out] at C7
        have HC7 := Lib.hid C7
        clear C7 hD6 hs6
        go_wp2_with fail
        refine HC7.out.mono ?_
        rintro e w7 ⟨rfl, hs7, R7, hR7⟩
        simp only [HI5.out]
        have HW7 := Lib.hid (HW6.out.trans hs7)
        have HR7 := Lib.hid hR7
        clear hs7 hR7
        go_wp2_with (rw [hMi])
        refine (len_any F p bk 7 s R7 _ w7 HR7.out).mono ?_
        rintro e w8 ⟨rfl, hw8⟩
        replace hw8 := hw8.symm
        subst hw8
        rw [HL4.out]
        have w9 : IntKind.i64.wrap ((M : Int) + 1) = (M : Int) + 1 := by rw [IntKind.wrap_i64]; omega
        have j9 : (((s + 1 : Nat) : Int) == (M : Int) + 1) = true := by simp; omega
        go_wp2_with (rw [hMi])
        go_ret
        exact ⟨by first | rfl | simp_all, HS1.out.trans' HW7.out (fun b h => .inr (HFW.out b h))⟩
      · have i1 : ¬ (s : Int) ≤ (q : Int) := by omega
        go_wp2_with (rw [hMi])
        refine (len_any F p bk 7 s R2 _ w3 HR2.out).mono ?_
        rintro e w8 ⟨rfl, hw8⟩
        replace hw8 := hw8.symm
        subst hw8
        rw [HLEN2.out]
        have w9 : IntKind.i64.wrap ((M : Int) + 1) = (M : Int) + 1 := by rw [IntKind.wrap_i64]; omega
        have j9 : (((M + 1 : Nat) : Int) == (M : Int) + 1) = true := by simp
        go_wp2_with (rw [hMi])
        go_ret
        exact ⟨by first | rfl | simp_all, HS1.out.trans' HW3.out (fun b h => .inr (HFW.out b h))⟩
end Go.Proofs.Ytihbjkdgfflnfaa
namespace Go.Proofs.Ytihbjkdgfflnfaa
open Go.RowKit

set_option maxRecDepth 100000 in
theorem keyB64 (k : Nat) : bktF (keyF k) 64 = k % 7 := by
  have h := key_b k
  have h2 : ofBE ((keyF k).take 4) = k % 7 := by
    unfold keyF
    simp only [List.take_succ_cons, List.take_zero, ofBE, List.foldl_cons, List.foldl_nil]
    have : (UInt8.ofNat (k % 7)).toNat = k % 7 := by rw [UInt8.toNat_ofNat']; omega
    rw [this]
    show ((0 * 256 + 0) * 256 + 0) * 256 + 0 + _ = _
    omega
  unfold bktF
  rw [h2]
  omega
def swX (l : List UInt8) (i : Nat) : Ent := ⟨tagF (keyF i), i, 2, (l.getD i 0).toNat⟩
def swE (l : List UInt8) : Nat → List (List Ent)
  | 0 => List.replicate 64 []
  | i + 1 => addF (swE l i) (i % 7) (swX l i)
theorem swE_length (l : List UInt8) : ∀ i, (swE l i).length = 64
  | 0 => by simp [swE]
  | i + 1 => by unfold swE addF; rw [List.length_set]; exact swE_length l i
theorem swE_row (l : List UInt8) : ∀ i b, b < 7 → (atRow (swE l i) b).length = (i + 6 - b) / 7
  | 0, b, hb => by unfold swE; rw [atRow_rep]; simp; omega
  | i + 1, b, hb => by
    have ih := swE_row l i b hb
    have h7 : i % 7 < 7 := Nat.mod_lt _ (by omega)
    unfold swE addF
    by_cases e : i % 7 = b
    · rw [e, atRow_set (by rw [swE_length]; omega), List.length_append, ih, List.length_singleton]; omega
    · rw [atRow_set_ne e, ih]; omega
theorem swE_ins (l : List UInt8) (i : Nat) (hi : i < 30) : insE 16 (atRow (swE l i) (i % 7)) (swX l i).sec (swX l i).turn = 0 ∧ insF 16 (swE l i) (i % 7) (swX l i) = swE l (i + 1) := by
  have h7 : i % 7 < 7 := Nat.mod_lt _ (by omega)
  have hr := swE_row l i (i % 7) h7
  have hx : (l.getD i 0).toNat < 256 := UInt8.toNat_lt _
  have h1 : insE 16 (atRow (swE l i) (i % 7)) (swX l i).sec (swX l i).turn = 0 := by
    unfold insE swX
    simp only
    rw [if_neg (by omega), if_neg (by omega)]
  refine ⟨h1, ?_⟩
  unfold insF
  rw [if_pos h1]
  rfl
theorem lenF_add {E : List (List Ent)} {b : Nat} (h : b < E.length) (x : Ent) : lenF (addF E b x) = lenF E + 1 := by
  have := lenF_set h (atRow E b ++ [x])
  rw [List.length_append, List.length_singleton] at this
  unfold addF
  omega
theorem swE_len (l : List UInt8) : ∀ i, lenF (swE l i) = i
  | 0 => lenF_rep 64
  | i + 1 => by
    have h7 : i % 7 < 7 := Nat.mod_lt _ (by omega)
    unfold swE
    rw [lenF_add (by rw [swE_length]; omega), swE_len l i]
theorem goneN_add {f t u : Nat} {E : List (List Ent)} {b : Nat} (h : b < E.length) (x : Ent) : goneN f t u (addF E b x) = goneN f t u E + (if goneF f t u x then 1 else 0) := by
  induction E generalizing b with
  | nil => simp at h
  | cons r E ih =>
    cases b with
    | zero =>
      have hl := leftF_len f t u r
      unfold addF goneN atRow
      simp only [List.set_cons_zero, List.getD_cons_zero, List.map_cons, List.sum_cons, List.length_append, List.length_singleton]
      have e : (leftF f t u (r ++ [x])).length = (leftF f t u r).length + (if goneF f t u x then 0 else 1) := by
        unfold leftF; rw [List.filter_append, List.length_append]
        by_cases hg : goneF f t u x <;> simp [hg]
      rw [e]
      split <;> omega
    | succ b =>
      have := ih (b := b) (by simpa using h)
      unfold addF goneN atRow at this ⊢
      simp only [List.set_cons_succ, List.getD_cons_succ, List.map_cons, List.sum_cons] at this ⊢
      omega
theorem goneN_rep (f t u n : Nat) : goneN f t u (List.replicate n []) = 0 := by
  have := goneN_le f t u (List.replicate n [])
  rw [lenF_rep] at this
  omega
def elN (l : List UInt8) (u : Nat) : Nat → Nat
  | 0 => 0
  | i + 1 => elN l u i + (if (l.getD i 0).toNat < u then 1 else 0)
theorem elN_le (l : List UInt8) (u : Nat) : ∀ i, elN l u i ≤ i
  | 0 => Nat.le_refl _
  | i + 1 => by have := elN_le l u i; unfold elN; split <;> omega
theorem swE_gone (l : List UInt8) (u : Nat) : ∀ i, i ≤ 30 → goneN 0 1000 u (swE l i) = elN l u i
  | 0, _ => goneN_rep _ _ _ _
  | i + 1, hi => by
    have h7 : i % 7 < 7 := Nat.mod_lt _ (by omega)
    unfold swE elN
    rw [goneN_add (by rw [swE_length]; omega), swE_gone l u i (by omega)]
    congr 1
    have e : goneF 0 1000 u (swX l i) = decide ((l.getD i 0).toNat < u) := by
      unfold goneF swX
      simp only
      rw [show decide (0 < 1000) = true from rfl, show decide (i < 1000) = true from by simp; omega, show decide (0 < i + 2) = true from by simp]
      rfl
    rw [e]
    simp
theorem leftF_none {f t u : Nat} (h : ¬ f < t) (r : List Ent) : leftF f t u r = r := by
  unfold leftF
  refine List.filter_eq_self.2 fun a _ => ?_
  unfold goneF
  rw [decide_eq_false h]
  rfl
theorem goneN_none {f t u : Nat} (h : ¬ f < t) (E : List (List Ent)) : goneN f t u E = 0 ∧ sweepF f t u E = E := by
  refine ⟨?_, ?_⟩
  · unfold goneN
    induction E with
    | nil => rfl
    | cons r E ih => rw [List.map_cons, List.sum_cons, ih, leftF_none h, Nat.sub_self]
  · unfold sweepF
    rw [show leftF f t u = id from funext fun r => leftF_none h r, List.map_id]
theorem lenF_sweep (f t u : Nat) (E : List (List Ent)) : lenF (sweepF f t u E) + goneN f t u E = lenF E := by
  unfold lenF sweepF goneN
  induction E with
  | nil => rfl
  | cons r E ih =>
    have := leftF_len f t u r
    simp only [List.map_cons, List.sum_cons]
    omega
theorem goneN_swept (f t u : Nat) (E : List (List Ent)) : goneN f t u (sweepF f t u E) = 0 := by
  unfold goneN sweepF
  induction E with
  | nil => rfl
  | cons r E ih =>
    rw [List.map_cons, List.map_cons, List.sum_cons, ih]
    unfold leftF
    rw [List.filter_filter]
    simp
set_option maxRecDepth 100000 in
set_option maxHeartbeats 4000000 in
theorem dirSweeps_any (a : Option Addr) (c : Nat) (l : List UInt8) (u f : Nat) (w : World) (hat : BytesAt w a l) (hmax : l.length ≤ 9223372036854775807) (hu : u < 256) (hf : f < 256) :
    Calls Try.prog 8 #[.slice a l.length c, .int .u8 u, .int .u8 f] w fun e w' => e = .returned (.bool true) ∧ Spares nowhere w w' := by
  have HAT := Lib.hid hat
  obtain ⟨L, hL⟩ : ∃ L, l.length = L := ⟨_, rfl⟩
  rw [hL] at hmax ⊢
  have HL := Lib.hid hL
  clear hat hL
  by_cases h30 : (30 : Int) < (L : Int)
  · go_enter Try.func8, Try.ntmps8
    go_wp2_with fail
    refine (known_any w).mono ?_
    rintro e v0 ⟨rfl, hs0⟩
    go_wp2
    go_ret
    exact ⟨rfl, hs0⟩
  · have d30 : decide ((30 : Int) < (L : Int)) = false := decide_eq_false h30
    go_enter Try.func8, Try.ntmps8
    go_wp2_with fail
    refine (known_any w).mono ?_
    rintro e v0 ⟨rfl, hs0⟩
    go_wp2_with fail
    refine (new_any 64 16 64 16 v0 (by decide) (by decide)).mono ?_
    rintro e w1 ⟨F, p, bk, R, rfl, hD, hs1, hF, hF2⟩
    have HD := Lib.hid hD
    have HS1 := Lib.hid (hs0.trans hs1)
    have HFW : Hid (∀ b, F b → w.heap.size ≤ b) := Lib.hid (fun b h => by have := hF b h; have := hs0.size; omega)
    have HF2 := Lib.hid hF2
    clear hD hs0 hs1 hF hF2
    go_wp2
    go_loopw [8, 9] (fun m i wr => ∃ q : Nat, q ≤ L ∧ i = .int .i64 q ∧ m = .int .i64 (elN l u q : Nat) ∧ Hid (∃ R, IsDir F p bk 64 16 R (swE l q) wr) ∧ Hid (Spares F w1 wr)) (fun _ i _ => L - (intOf i).toNat)
    case atStart => exact ⟨0, by omega, rfl, rfl, Lib.hid ⟨R, HD.out⟩, Lib.hid (Spares.refl _ _)⟩
    case round =>
      obtain ⟨q, hq, rfl, rfl, HI, HW⟩ := hrel
      by_cases hlt : q < L
      · obtain ⟨tb, to, rfl, hc⟩ := HAT.out q (by rw [HL.out]; exact hlt)
        obtain ⟨x, hx⟩ : ∃ x, l[q]'(by rw [HL.out]; exact hlt) = x := ⟨_, rfl⟩
        rw [hx] at hc
        have hxx : (l.getD q 0) = x := by rw [List.getD_eq_getElem?_getD, List.getElem?_eq_getElem (by rw [HL.out]; exact hlt), hx]; rfl
        have htb : tb < w.heap.size := cellB_lt hc
        obtain ⟨K, hK⟩ : ∃ K, keyF q = K := ⟨_, rfl⟩
        have hKL : K.length = 32 := by rw [← hK]; exact keyF_len q
        have hKB : bktF K 64 = q % 7 := by rw [← hK]; exact keyB64 q
        obtain ⟨y, hy⟩ : ∃ y, x.toNat = y := ⟨_, rfl⟩
        have hy256 : y < 256 := by rw [← hy]; exact UInt8.toNat_lt _
        rw [hy] at hc
        have hX : swX l q = ⟨tagF K, q, 2, y⟩ := by unfold swX; rw [hxx, hK, hy]
        have HX := Lib.hid hX
        have HKEEP : Hid (∀ V, Hid (Spares F w1 V) → V.cell? ⟨tb, to + q, none⟩ = some (.int .u8 y)) := Lib.hid (fun V hV => by
          have h1 : Spares nowhere w V := HS1.out.trans' hV.out (fun b h => .inr (HFW.out b h))
          exact (h1.cell (p := ⟨tb, to + q, none⟩) htb (fun h => h)).trans hc)
        have HW0 : Hid (Spares F w1 wr.drew) := Lib.hid (HW.out.drew)
        have CK : Hid (∀ V, Hid (Spares F w1 V) → Hid (∃ R, IsDir F p bk 64 16 R (swE l q) V) → Calls Try.prog 14 #[.int .u16 q] V fun e w' => e = .returned (.agg (bytesV K)) ∧ Hid (Spares F w1 w') ∧ Hid (∃ R, IsDir F p bk 64 16 R (swE l q) w')) := Lib.hid (fun V hV hI => by
          have := key_any q V (by omega)
          rw [hK] at this
          refine this.mono ?_
          rintro e w' ⟨rfl, hs⟩
          obtain ⟨R', hR'⟩ := hI.out
          exact ⟨rfl, Lib.hid (hV.out.trans' hs (fun _ h => h.elim)), Lib.hid ⟨R', hR'.spares hs (fun _ _ _ h => h)⟩⟩)
        have CI : Hid (∀ V, Hid (Spares F w1 V) → Hid (∃ R, IsDir F p bk 64 16 R (swE l q) V) → Calls Try.prog 16 #[.pointer (some ⟨p, 0, none⟩), .agg (bytesV K), .int .u32 q, .int .u16 2, .int .u64 y] V fun e w' => e = .returned (.int .i64 0) ∧ Hid (Spares F w1 w') ∧ Hid (∃ R, IsDir F p bk 64 16 R (swE l (q + 1)) w')) := Lib.hid (fun V hV hI => by
          obtain ⟨R', hR'⟩ := hI.out
          have hins := swE_ins l q (by omega)
          rw [HX.out] at hins
          have := insert_any F p bk 64 16 R' _ K q 2 y V hR' (fun b h => Nat.lt_of_lt_of_le (HF2.out b h) hV.out.size) hKL (by omega) (by omega) (by omega)
          rw [hKB] at this
          refine this.mono ?_
          rintro e w' ⟨rfl, h1, h2⟩
          rw [hins.2] at h2
          exact ⟨by simp only [hins.1]; rfl, Lib.hid (hV.out.trans h1), Lib.hid h2⟩)
        have HID : Hid (∃ R, IsDir F p bk 64 16 R (swE l q) wr.drew) := Lib.hid (by
          obtain ⟨R', hR'⟩ := HI.out
          exact ⟨R', hR'.spares (Spares.refl nowhere _).drew (fun _ _ _ h => h)⟩)
        have u0 : IntKind.u32.wrap (q : Int) = (q : Int) := by rw [IntKind.wrap_u32]; omega
        have u1 : IntKind.u16.wrap (q : Int) = (q : Int) := by rw [IntKind.wrap_u16]; omega
        have u2 : IntKind.u64.wrap (y : Int) = (y : Int) := by rw [IntKind.wrap_u64]; omega
        have u3 : IntKind.i64.wrap ((q : Int) + 1) = (q : Int) + 1 := by rw [IntKind.wrap_i64]; omega
        have g1 : (0 : Int) ≤ (q : Int) := by omega
        have g2 : (q : Int) < (L : Int) := by omega
        obtain ⟨e0, he0⟩ : ∃ e0, elN l u q = e0 := ⟨_, rfl⟩
        have he1 : elN l u (q + 1) = e0 + (if y < u then 1 else 0) := by unfold elN; rw [hxx, hy, he0]
        have hel := elN_le l u q
        rw [he0] at hel ⊢
        have u4 : IntKind.i64.wrap ((e0 : Int) + 1) = (e0 : Int) + 1 := by rw [IntKind.wrap_i64]; omega
        have HE1 := Lib.hid he1
        clear hK hKL hKB hx hy hxx hc HI hX he1 he0
        go_upto_region 10 with (fail)
        -- GEN
        refine wp_region_held_drew (S := fun w' => w'.cell? ⟨tb, to + q, none⟩ = some (.int .u8 y)) (by kernel_rfl) (HKEEP.out _ HW0) (fun hS0 => ?_)
        refine wpAnyH_take (i := 0) (v := ?_) rfl (by kernel_rfl) (by kernel_rfl) (by kernel_rfl) (fun _ _ _ h => h) (Or.inl ⟨by rfl, ?_⟩) (by assumption) ?_
        rotate_left
        · intro w9 hS9
          skip
          go_simp
          try with_reducible rfl
        simp only [List.getElem_toArray, List.getElem_cons_zero, Act.put, List.setIfInBounds_toArray, List.set_cons_succ, List.set_cons_zero]
        refine wpAnyH_take (i := 1) (v := ?_) rfl (by kernel_rfl) (by kernel_rfl) (by kernel_rfl) (fun _ _ _ h => h) (Or.inl ⟨by rfl, ?_⟩) (by assumption) ?_
        rotate_left
        · intro w9 hS9
          skip
          go_simp
          try with_reducible rfl
        simp only [List.getElem_toArray, List.getElem_cons_succ, List.getElem_cons_zero, Act.put, List.setIfInBounds_toArray, List.set_cons_succ, List.set_cons_zero]
        refine wpAnyH_take (i := 2) (v := ?_) rfl (by kernel_rfl) (by kernel_rfl) (by kernel_rfl) (fun _ _ _ h => h) (Or.inl ⟨by rfl, ?_⟩) (by assumption) ?_
        rotate_left
        · intro w9 hS9
          skip
          go_simp
          try with_reducible rfl
        simp only [List.getElem_toArray, List.getElem_cons_succ, List.getElem_cons_zero, Act.put, List.setIfInBounds_toArray, List.set_cons_succ, List.set_cons_zero]
        refine wpAnyH_take (i := 4) (v := ?_) rfl (by kernel_rfl) (by kernel_rfl) (by kernel_rfl) (fun _ _ _ h => h) (Or.inl ⟨by rfl, ?_⟩) (by assumption) ?_
        rotate_left
        · intro w9 hS9
          skip
          go_simp
          try with_reducible rfl
        simp only [List.getElem_toArray, List.getElem_cons_succ, List.getElem_cons_zero, Act.put, List.setIfInBounds_toArray, List.set_cons_succ, List.set_cons_zero]
        refine wpAnyH_take (i := 5) (v := ?_) rfl (by kernel_rfl) (by kernel_rfl) (by kernel_rfl) (fun _ _ _ h => h) (Or.inl ⟨by rfl, ?_⟩) (by assumption) ?_
        rotate_left
        · intro w9 hS9
          skip
          go_simp
          try with_reducible rfl
        simp only [List.getElem_toArray, List.getElem_cons_succ, List.getElem_cons_zero, Act.put, List.setIfInBounds_toArray, List.set_cons_succ, List.set_cons_zero]
        refine wpAnyH_take (i := 6) (v := ?_) rfl (by kernel_rfl) (by kernel_rfl) (by kernel_rfl) (fun _ _ _ h => h) (Or.inl ⟨by rfl, ?_⟩) (by assumption) ?_
        rotate_left
        · intro w9 hS9
          skip
          go_simp
          try with_reducible rfl
        simp only [List.getElem_toArray, List.getElem_cons_succ, List.getElem_cons_zero, Act.put, List.setIfInBounds_toArray, List.set_cons_succ, List.set_cons_zero]
        refine wpAnyH_take (i := 7) (v := ?_) rfl (by kernel_rfl) (by kernel_rfl) (by kernel_rfl) (fun _ _ _ h => h) (Or.inl ⟨by rfl, ?_⟩) (by assumption) ?_
        rotate_left
        · intro w9 hS9
          skip
          go_simp
          try with_reducible rfl
        simp only [List.getElem_toArray, List.getElem_cons_succ, List.getElem_cons_zero, Act.put, List.setIfInBounds_toArray, List.set_cons_succ, List.set_cons_zero]
        refine wpAnyH_take (i := 8) (v := ?_) rfl (by kernel_rfl) (by kernel_rfl) (by kernel_rfl) (fun _ _ _ h => h) (Or.inl ⟨by rfl, ?_⟩) (by assumption) ?_
        rotate_left
        · intro w9 hS9
          skip
          go_simp
          try with_reducible rfl
        simp only [List.getElem_toArray, List.getElem_cons_succ, List.getElem_cons_zero, Act.put, List.setIfInBounds_toArray, List.set_cons_succ, List.set_cons_zero]
        refine wpAnyH_take (i := 9) (v := ?_) rfl (by kernel_rfl) (by kernel_rfl) (by kernel_rfl) (fun _ _ _ h => h) (Or.inl ⟨by rfl, ?_⟩) (by assumption) ?_
        rotate_left
        · intro w9 hS9
          skip
          go_simp
          try with_reducible rfl
        simp only [List.getElem_toArray, List.getElem_cons_succ, List.getElem_cons_zero, Act.put, List.setIfInBounds_toArray, List.set_cons_succ, List.set_cons_zero]
        refine wpAnyH_take (i := 10) (v := ?_) rfl (by kernel_rfl) (by kernel_rfl) (by kernel_rfl) (fun _ _ _ h => h) (Or.inl ⟨by rfl, ?_⟩) (by assumption) ?_
        rotate_left
        · intro w9 hS9
          skip
          go_simp
          try with_reducible rfl
        simp only [List.getElem_toArray, List.getElem_cons_succ, List.getElem_cons_zero, Act.put, List.setIfInBounds_toArray, List.set_cons_succ, List.set_cons_zero]
        refine wpAnyH_ready (rs := [3]) (by kernel_rfl) (by simp) ?_
        refine AllReadyH.cons rfl (fun K9 hK9 => ?_) ?_
        · go_simp
          go_at_call 14
          with_reducible refine Calls.mono (CK.out _ HW0 HID) ?_
          rintro e v1 ⟨rfl, hv1, hi1⟩
          try go_simp
          refine hK9.out _ _ ?_ (fun hS9 => ?_)
          · exact HKEEP.out _ hv1
          clear hK9 K9
          refine wpAnyH_ready (rs := [11]) (by kernel_rfl) (by simp) ?_
          refine AllReadyH.cons rfl (fun K9 hK9 => ?_) ?_
          · go_simp
            go_at_call 16
            with_reducible refine Calls.mono (CI.out _ hv1 hi1) ?_
            rintro e v2 ⟨rfl, hv2, hi2⟩
            try go_simp
            refine hK9.out _ _ ?_ (fun hS9 => ?_)
            · exact HKEEP.out _ hv2
            clear hK9 K9
            refine wpAnyH_take (i := 12) (v := ?_) rfl (by kernel_rfl) (by kernel_rfl) (by kernel_rfl) (fun _ _ _ h => h) (Or.inl ⟨by rfl, ?_⟩) (by assumption) ?_
            rotate_left
            · intro w9 hS9
              skip
              go_simp
              try with_reducible rfl
            simp only [List.getElem_toArray, List.getElem_cons_succ, List.getElem_cons_zero, Act.put, List.setIfInBounds_toArray, List.set_cons_succ, List.set_cons_zero]
            refine wpAnyH_done (by kernel_rfl) ?_ _
            skip
            have c2 := HKEEP.out _ hv2
            by_cases hyu : y < u
            · have i1 : (y : Int) < (u : Int) := by omega
              go_wp2
              go_roundw
              case rel => exact ⟨q + 1, by omega, rfl, by rw [HE1.out, if_pos hyu]; rfl, hi2, hv2⟩
              case measure => simp [intOf]; omega
            · have i1 : ¬ (y : Int) < (u : Int) := by omega
              go_wp2
              go_roundw
              case rel => exact ⟨q + 1, by omega, rfl, by rw [HE1.out, if_neg hyu, Nat.add_zero], hi2, hv2⟩
              case measure => simp [intOf]; omega
          exact AllReadyH.nil
        exact AllReadyH.nil
        -- GEN END
      · obtain rfl : q = L := by omega
        obtain ⟨R1, hR1⟩ := HI.out
        have hFL : Hid (∀ V, Hid (Spares F w1 V) → ∀ b, F b → b < V.heap.size) := Lib.hid (fun V hV b h => Nat.lt_of_lt_of_le (HF2.out b h) hV.out.size)
        obtain ⟨E, hE⟩ : ∃ E, swE l q = E := ⟨_, rfl⟩
        have h1 := swE_len l q
        have h2 := swE_gone l u q (by omega)
        have h3 := elN_le l u q
        have h4 := lenF_sweep 0 1000 u E
        have h5 := goneN_swept 0 1000 u E
        obtain ⟨e0, he0⟩ : ∃ e0, elN l u q = e0 := ⟨_, rfl⟩
        rw [hE] at hR1 h1 h2
        rw [he0] at h2 h3 ⊢
        rw [h1, h2] at h4
        have h6 := goneN_none (f := f) (t := f) (u := u) (Nat.lt_irrefl f) E
        have h7 := goneN_none (f := 9) (t := 3) (u := u) (by omega) E
        have H1 := Lib.hid h1
        have H2 := Lib.hid h2
        have H4 := Lib.hid h4
        have H5 := Lib.hid h5
        have H6 := Lib.hid h6
        have H7 := Lib.hid h7
        have HR1 := Lib.hid hR1
        clear h1 h2 h4 h5 h6 h7 hR1 HI hE he0
        go_wp2_with fail
        refine (purge_any F p bk 64 16 R1 E f f u wr HR1.out (hFL.out wr HW) (by omega)).mono ?_
        rintro e w2 ⟨rfl, hs2, hR2⟩
        rw [H6.out.2] at hR2
        rw [H6.out.1]
        have HR2 := Lib.hid hR2
        have HW2 := Lib.hid (HW.out.trans hs2)
        clear hs2 hR2
        go_wp2_with fail
        refine (purge_any F p bk 64 16 R1 E 9 3 u w2 HR2.out (hFL.out w2 HW2) (by omega)).mono ?_
        rintro e w3 ⟨rfl, hs3, hR3⟩
        rw [H7.out.2] at hR3
        rw [H7.out.1]
        have HR3 := Lib.hid hR3
        have HW3 := Lib.hid (HW2.out.trans hs3)
        clear hs3 hR3
        go_wp2_with fail
        refine (len_any F p bk 64 16 R1 E w3 HR3.out).mono ?_
        rintro e w4 ⟨rfl, hw4⟩
        replace hw4 := hw4.symm
        subst hw4
        rw [H1.out]
        go_wp2_with fail
        refine (purge_any F p bk 64 16 R1 E 0 1000 u w3 HR3.out (hFL.out w3 HW3) (by omega)).mono ?_
        rintro e w5 ⟨rfl, hs5, hR5⟩
        rw [H2.out]
        have HR5 := Lib.hid hR5
        have HW5 := Lib.hid (HW3.out.trans hs5)
        clear hs5 hR5
        have u5 : IntKind.i64.wrap ((q : Int) - (e0 : Int)) = (q : Int) - (e0 : Int) := by rw [IntKind.wrap_i64]; omega
        go_wp2_with fail
        refine (len_any F p bk 64 16 R1 _ w5 HR5.out).mono ?_
        rintro e w6 ⟨rfl, hw6⟩
        replace hw6 := hw6.symm
        subst hw6
        obtain ⟨m, hm⟩ : ∃ m, lenF (sweepF 0 1000 u E) = m := ⟨_, rfl⟩
        rw [hm]
        have j1 : ((m : Int) == (q : Int) - (e0 : Int)) = true := by have := H4.out; rw [hm] at this; simp; omega
        clear hm
        go_wp2_with fail
        refine (purge_any F p bk 64 16 R1 _ 0 1000 u w5 HR5.out (hFL.out w5 HW5) (by omega)).mono ?_
        rintro e w7 ⟨rfl, hs7, hR7⟩
        rw [H5.out]
        have HW7 := Lib.hid (HW5.out.trans hs7)
        clear hs7 hR7
        go_wp2
        go_ret
        exact ⟨rfl, HS1.out.trans' HW7.out (fun b h => .inr (HFW.out b h))⟩
end Go.Proofs.Ytihbjkdgfflnfaa
namespace Go.Proofs.Ytihbjkdgfflnfaa
open Go.RowKit

/-- A row of the reference's put in a bucket: the bucket's own, shorter, or one that is new. -/
theorem put_refG {F F' : Nat → Prop} {p bk n s : Nat} {R : Nat → Row} {E : List (List Ent)} {w w1 : World} (h : IsRef F p bk n s R E w) {b : Nat} (hb : b < n) (hFF : ∀ k, F k → F' k) {l' : List Ent} {r' : Row}
    (hr : RowAt F' w1 r' l') (hsp : Spares (fun k => ∃ o, (R b).a = some (k, o)) w w1) (hrest : ∀ F2 r2 l2, RowAt F2 w r2 l2 → r2.apart (R b) → RowAt F2 w1 r2 l2) (hcase : (r'.a = (R b).a ∧ r'.cap ≤ (R b).cap) ∨ ∀ b' o', r'.a = some (b', o') → w.heap.size ≤ b')
    (hok : ∀ e ∈ l', e.ok) (hlen : l'.length ≤ s) : ∃ R', IsRef F' p bk n s R' (E.set b l') (w1.setCell ⟨bk, b, none⟩ (.slice r'.ad l'.length r'.cap)) := by
  have hEn := h.rows.len
  have hbl := h.rows.lt
  have hpl : p < w.heap.size := (Array.getElem?_eq_some_iff.1 h.hd).1
  have hlt : ∀ j, j < n → ∀ b' o', (R j).a = some (b', o') → b' < w.heap.size := fun j hj b' o' e => ((h.rows.row j (by omega)).room b' o' e).2.lt
  have hput := h.rows.put (w1 := w1) (F' := F') hb hFF (hsp.block bk hbl (fun ⟨o, e⟩ => h.rows.off b hb bk o e rfl))
    (fun j hj hne => (hrest _ _ _ (h.rows.row j hj) (h.rows.apart j b (by omega) hb hne)).mono hFF) r' l' hr
    (fun j hj hne => by
      rcases hcase with ⟨ha, hc⟩ | hn
      · intro b1 o1 b2 o2 e1 e2
        rw [ha] at e1
        have := h.rows.apart b j hb hj (fun e => hne e.symm) b1 o1 b2 o2 e1 e2
        omega
      · intro b1 o1 b2 o2 e1 e2
        have h1 := hn b1 o1 e1
        have h2 := hlt j hj b2 o2 e2
        left; omega)
    (fun b' o' e => by
      rcases hcase with ⟨ha, _⟩ | hn
      · rw [ha] at e; exact h.rows.off b hb b' o' e
      · have := hn b' o' e; omega) hok
  refine ⟨_, ?_, hput, hFF _ h.inF, h.ne, fun i hi b' o' e => ?_, h.n0, h.n1, h.s0, h.s1, fun r hr => ?_⟩
  · rw [Below.heap_setCell _ _ _ _ (fun e => h.ne e), hsp.block p hpl (fun ⟨o, e⟩ => h.offp b hb p o e rfl)]
    exact h.hd
  · by_cases ei : i = b
    · simp only [if_pos ei] at e
      rcases hcase with ⟨ha, _⟩ | hn
      · rw [ha] at e; exact h.offp b hb b' o' e
      · have := hn b' o' e; omega
    · simp only [if_neg ei] at e
      exact h.offp i hi b' o' e
  · rcases List.mem_or_eq_of_mem_set hr with hr | rfl
    · exact h.lens r hr
    · exact hlen
theorem append_cut {F : Nat → Prop} {W : World} {r : Row} {l : List Ent} (h : RowAt F W r l) {g off : Nat} (hra : r.a = some (g, off)) (i : Nat) (hi : i < l.length) (hl : l.length ≤ 1000) (A : Addr) (hA : l.length = i + 1 ∨ A = ⟨g, off + (i + 1) * 4, none⟩) (n c2 : Nat) (hn : n = l.length - (i + 1)) (ty : TypeId) :
    ∃ r' w', (Builtin.append_ #[38, 38] ty #[.slice (some ⟨g, off, none⟩) i i, .slice (some A) n c2]).run Try.prog W = .ok (.slice r'.ad (l.length - 1) r'.cap) w' ∧ RowAt (NewF F W w') w' r' (l.eraseIdx i) ∧ Spares nowhere W w' ∧
      ((r'.a = r.a ∧ r'.cap ≤ r.cap) ∨ ∀ b' o', r'.a = some (b', o') → W.heap.size ≤ b') := by
  obtain ⟨i0, hi0, hz0, hz1, hz2⟩ := info_parts entInfo
  have hle := h.le
  have hel : l.eraseIdx i = l.take i ++ l.drop (i + 1) := List.eraseIdx_eq_take_drop_succ l i
  have holds : ∀ j v, (rowCells (l.take i))[j]? = some v → W.cell? ((⟨g, off, none⟩ : Addr).add j) = some v := fun j v hj => by
    have hlen := rowCells_len (l.take i)
    rw [List.length_take] at hlen
    have hj' := (List.getElem?_eq_some_iff.1 hj).1
    have hk : j / 4 < i := by omega
    have he := h.ents g off hra (j / 4) (by omega) (j % 4) (Nat.mod_lt _ (by omega))
    have hr := rowCells_at (l.take i) (j / 4) (by rw [List.length_take]; omega) (j % 4) (Nat.mod_lt _ (by omega))
    have e4 : j / 4 * 4 + j % 4 = j := by omega
    rw [e4, List.getElem_take] at hr
    rw [Addr.add_lit, show off + j = off + j / 4 * 4 + j % 4 by omega, he, ← hr]
    exact hj
  by_cases hlast : l.length = i + 1
  · have hn0 : n = 0 := by omega
    subst hn0
    have hrun := run_append_room_cells (P := Try.prog) W 38 ty 41 i0 Try.underlying38 hi0 g off i i A 0 c2 [] (by simp) (fun j u hj => by simp at hj) (fun u hu => by cases hu) (Nat.le_refl _) (fun j hj => absurd hj (Nat.not_lt_zero _)) (fun j hj => absurd hj (Nat.not_lt_zero _))
    have hd : l.drop (i + 1) = [] := List.drop_of_length_le (by omega)
    refine ⟨⟨some (g, off), i⟩, W, ?_, ?_, Spares.refl _ _, .inl ⟨hra.symm, by simp only; omega⟩⟩
    · rw [show l.length - 1 = i + 0 by omega]; exact hrun
    · rw [hel, hd, List.append_nil]
      refine ⟨by rw [List.length_take]; exact Nat.min_le_left _ _, fun e => by simp at e, fun b' o' e => ?_, fun b' o' e => ?_⟩
      · simp only [Option.some.injEq, Prod.mk.injEq] at e
        obtain ⟨rfl, rfl⟩ := e
        have := h.room g off hra
        obtain ⟨cur, t, h1, h2⟩ := this.2
        exact ⟨.inl this.1, cur, t, h1, by simp only; omega⟩
      · simp only [Option.some.injEq, Prod.mk.injEq] at e
        obtain ⟨rfl, rfl⟩ := e
        exact (h.take i).ents g off hra
  · have hAe : A = ⟨g, off + (i + 1) * 4, none⟩ := hA.resolve_left hlast
    have hnews : ∀ j v, (rowCells (l.drop (i + 1)))[j]? = some v → W.cell? (A.add j) = some v := fun j v hj => by
      have hlen := rowCells_len (l.drop (i + 1))
      rw [List.length_drop] at hlen
      have hj' := (List.getElem?_eq_some_iff.1 hj).1
      have hk : i + 1 + j / 4 < l.length := by omega
      have he := h.ents g off hra (i + 1 + j / 4) hk (j % 4) (Nat.mod_lt _ (by omega))
      have hr := rowCells_at (l.drop (i + 1)) (j / 4) (by rw [List.length_drop]; omega) (j % 4) (Nat.mod_lt _ (by omega))
      have e4 : j / 4 * 4 + j % 4 = j := by omega
      rw [e4, List.getElem_drop] at hr
      rw [hAe, Addr.add_lit, show off + (i + 1) * 4 + j = off + (i + 1 + j / 4) * 4 + j % 4 by omega, he, ← hr]
      exact hj
    have hrun := run_append_grow (P := Try.prog) (w := W) 38 ty 41 i0 (entV Ent.zero) Try.underlying38 hi0 hz0 ⟨g, off, none⟩ i i (rowCells (l.take i)) (by rw [rowCells_len, hz1, List.length_take, Nat.min_eq_left (by omega)]) holds A n c2 (rowCells (l.drop (i + 1))) (by rw [rowCells_len, hz1, List.length_drop, hn]) hnews (by omega) (by omega) (by rw [hz2]; exact growslice_fits (by omega) (by omega))
    have hgc := grownCap_ge W (i + n) i 41
    have hec : (l.eraseIdx i).length = i + n := by rw [List.length_eraseIdx, if_pos hi]; omega
    have hnr := new_row (F := F) (w := W) (l.eraseIdx i) (grownCap W (i + n) i 41) (by rw [hec]; exact hgc) (entV Ent.zero).cells rfl 41 _ (show ((rowCells (l.take i)).toArray ++ (rowCells (l.drop (i + 1))).toArray ++ Builtin.zeroCells (entV Ent.zero).cells (grownCap W (i + n) i 41 - (i + n))) = _ by rw [hec, hel, rowCells_app]; simp)
    refine ⟨_, _, ?_, hnr, ((Spares.refl _ W).drew).alloc _, .inr (fun b' o' e => ?_)⟩
    · rw [show l.length - 1 = i + n by omega]; exact hrun
    · simp only [Option.some.injEq, Prod.mk.injEq] at e; omega
def RefDelPost (F : Nat → Prop) (p bk n s : Nat) (E : List (List Ent)) (b T A : Nat) (w : World) (e : Ending) (w' : World) : Prop :=
  e = .returned (.bool (hitF T A (atRow E b)).isSome) ∧ Spares F w w' ∧ ∃ F' R, IsRef F' p bk n s R (E.set b (delF T A (atRow E b))) w' ∧ ∀ k, F' k → F k ∨ (w.heap.size ≤ k ∧ k < w'.heap.size)
set_option maxRecDepth 100000 in
set_option maxHeartbeats 4000000 in
theorem refDelete_any (F : Nat → Prop) (p bk n s : Nat) (R : Nat → Row) (E : List (List Ent)) (K : List UInt8) (A : Nat) (w : World) (h : IsRef F p bk n s R E w) (hK : K.length = 32) :
    Calls Try.prog 19 #[.pointer (some ⟨p, 0, none⟩), .agg (bytesV K), .int .u32 A] w (RefDelPost F p bk n s E (bktF K n) (tagF K) A w) := by
  have hEn := h.rows.len
  have hn0 := h.n0
  have hn1 := h.n1
  obtain ⟨b, hb⟩ : ∃ b, bktF K n = b := ⟨_, rfl⟩
  have hbn : b < n := by rw [← hb]; exact bktF_lt K n h.n0
  obtain ⟨row, hrow⟩ : ∃ row, atRow E b = row := ⟨_, rfl⟩
  have hrow' : E[b]'(by omega) = row := by rw [← hrow]; unfold atRow; rw [List.getD_eq_getElem?_getD, List.getElem?_eq_getElem (by omega)]; rfl
  have hle : row.length ≤ 16 := by rw [← hrow']; exact Nat.le_trans (h.lens _ (List.getElem_mem _)) h.s1
  obtain ⟨ad, had⟩ : ∃ ad, (R b).ad = ad := ⟨_, rfl⟩
  obtain ⟨cp, hcp⟩ : ∃ cp, (R b).cap = cp := ⟨_, rfl⟩
  have hcell : ∀ W, Spares nowhere w W → W.cell? ⟨p, 0, none⟩ = some (.slice (some ⟨bk, 0, none⟩) n n) ∧ W.cell? ⟨bk, b, none⟩ = some (.slice ad row.length cp) ∧ EntsV W ad row := fun W hW => by
    have h' := h.spares hW (fun _ _ _ h => h)
    have hc := (h'.rows.cell b (by omega)).1
    have hr := (h'.rows.row b (by omega)).ents_v
    rw [hrow', had, hcp] at hc
    rw [hrow', had] at hr
    exact ⟨by rw [Lib.cell_of_heap h'.hd]; rfl, hc, hr⟩
  have hlc : row.length ≤ cp := by rw [← hrow', ← hcp]; exact (h.rows.row b (by omega)).le
  rw [hb]
  obtain ⟨T, hT⟩ : ∃ T, tagF K = T := ⟨_, rfl⟩
  rw [hT]
  obtain ⟨v, hv⟩ : ∃ v, w.alloc (.cells (bytesV K) 36) = v := ⟨_, rfl⟩
  have hs : Spares nowhere w v := by rw [← hv]; exact (Spares.refl _ w).alloc _
  have hvs : v.heap.size = w.heap.size + 1 := by rw [← hv]; simp
  have hkb : v.heap[w.heap.size]? = some (.cells (bytesV K) 36 (0, 0)) := by rw [← hv]; exact heap_alloc_new w _
  have infoC : (Try.prog.info? 36).map (·.size) = some (Lib.byteCells K).length := by rw [byteCells_len, hK]; kernel_rfl
  have hkr : ∀ W, Spares nowhere v W → W.rangeAt w.heap.size 0 (Lib.byteCells K) := fun W hW j u hj => by
    rw [Lib.cell_of_heap (hW.heap hkb (fun h => h)), Nat.zero_add]; simpa [bytesV] using hj
  have hct : ∀ W, Spares nowhere v W → Hid (∀ x : Kin W, Calls Try.prog 35 #[.agg (bytesV K)] x.wd fun e w'' => e = .returned (.int .u16 (T : Nat)) ∧ ∃ y : Kin W, w'' = y.wd) := fun W hW => Lib.hid (fun x => Kin.calls ((refTag_any K x.wd hK).mono (by rintro e w' ⟨rfl, hs⟩; exact ⟨by rw [hT], hs.below0⟩)))
  have C1 := Lib.hid (refBucket_any K p n n _ v hK hn0 hn1 (hcell v hs).1)
  have HV := Lib.hid hv
  have HVS := Lib.hid hvs
  have HS := Lib.hid hs
  have HC := Lib.hid hcell
  have HI := Lib.hid infoC
  have HKR := Lib.hid hkr
  have HCT := Lib.hid hct
  have HB := Lib.hid hb
  have HD := Lib.hid h
  have HROW := Lib.hid hrow'
  have HAD := Lib.hid had
  have HCP := Lib.hid hcp
  have HRO := Lib.hid hrow
  have HRG : Hid (v.rangeAt w.heap.size 0 (Lib.byteCells K)) := Lib.hid (hkr v (Spares.refl _ _))
  clear hv hvs hs hkb h hrow hrow' hb hcell infoC hkr hct had hcp hT
  go_enter Try.func19, Try.ntmps19
  go_upto_region 1 with (fail)
  rw [HV.out]
  go_wp2_with ((with_reducible show wpList _ _ _ (⟨some 11, .load 36 _, _, _, _, _⟩ :: _) _ _); refine wpList_load_mid rfl 36 (.tmp 4) rfl w.heap.size 0 rfl (Lib.byteCells K) _ HRG.out Try.underlying36 rfl HI.out ?_)
  refine C1.out.mono ?_
  rintro e x ⟨rfl, hx⟩
  rw [HB.out]
  have HX := Lib.hid hx
  have x0 := (HC.out x (HS.out.trans hx)).1
  have x1 := (HC.out x (HS.out.trans hx)).2.1
  obtain ⟨L, hL⟩ : ∃ L, row.length = L := ⟨_, rfl⟩
  rw [hL] at hle hlc x1
  have w0 : IntKind.i64.wrap ((L : Int) - 1) = (L : Int) - 1 := by rw [IntKind.wrap_i64]; omega
  have HL := Lib.hid hL
  clear C1 hL hx
  go_wp2
  go_loopw [9] (fun i wr => ∃ m : Nat, m ≤ L ∧ i = .int .i64 ((m : Int) - 1) ∧ Hid (hitK T A row m = hitF T A row) ∧ Hid (Spares nowhere v wr)) (fun i _ => (intOf i + 1).toNat)
  case atStart => exact ⟨L, by omega, rfl, Lib.hid (by unfold hitF; rw [HL.out]), HX⟩
  case round =>
    obtain ⟨m, hm, rfl, HA, HW⟩ := hrel
    cases m with
    | zero =>
      have i0 : ¬ (0 : Int) ≤ (((0 : Nat) : Int) - 1) := by omega
      go_wp2
      go_ret
      have ha : hitF T A row = none := by rw [← HA.out]; rfl
      have hsw := HS.out.trans HW.out
      unfold RefDelPost
      rw [HRO.out]
      refine ⟨by rw [ha]; rfl, hsw.mono (fun _ h => h.elim), F, R, ?_, fun k hk => .inl hk⟩
      unfold delF
      rw [ha]
      have e : E.set b row = E := by
        have hr9 := HROW.out
        rw [← hr9, List.set_getElem_self]
      simp only [e]
      exact HD.out.spares hsw (fun _ _ _ h => h)
    | succ i =>
      rw [show ((i + 1 : Nat) : Int) - 1 = (i : Int) by omega]
      have hil : i < L := by omega
      have hir : i < row.length := by rw [HL.out]; exact hil
      obtain ⟨g, off, hadr, hce⟩ := (HC.out _ (HS.out.trans HW.out)).2.2 i hir
      subst hadr
      obtain ⟨t0, ht0⟩ : ∃ t0, row[i].tag = t0 := ⟨_, rfl⟩
      obtain ⟨t1, ht1⟩ : ∃ t1, row[i].at_ = t1 := ⟨_, rfl⟩
      have e0 : wr.cell? ⟨g, off + i * 4, none⟩ = some (.int .u16 t0) := by rw [← ht0]; exact hce 0 (by omega)
      have e1 : wr.cell? ⟨g, off + i * 4 + 1, none⟩ = some (.int .u32 t1) := by rw [← ht1]; exact hce 1 (by omega)
      have f0 : ∀ y : Kin wr, y.wd.cell? ⟨g, off + i * 4, none⟩ = some (.int .u16 t0) := fun y => y.cell e0
      have f1 : ∀ y : Kin wr, y.wd.cell? ⟨g, off + i * 4 + 1, none⟩ = some (.int .u32 t1) := fun y => y.cell e1
      have CT := HCT.out wr HW.out
      have KK : Hid (∀ W, (∃ x : Kin wr, W = x.wd) → W.rangeAt w.heap.size 0 (Lib.byteCells K)) := Lib.hid (by rintro W ⟨y, rfl⟩; exact HKR.out _ (HW.out.trans (Below.spares y.below (fun k hk => .inr hk))))
      have w1 : IntKind.i64.wrap ((i : Int) - 1) = (i : Int) - 1 := by rw [IntKind.wrap_i64]; omega
      have w2 : IntKind.i64.wrap ((i : Int) + 1) = (i : Int) + 1 := by rw [IntKind.wrap_i64]; omega
      have g1 : (0 : Int) ≤ (i : Int) := by omega
      have g2 : (i : Int) < (L : Int) := by omega
      have HT0 := Lib.hid ht0
      have HT1 := Lib.hid ht1
      clear hce ht0 ht1 e0 e1
      by_cases ht : t0 = T
      · have j0 : ((t0 : Int) == (T : Int)) = true := by simp [ht]
        by_cases ha : t1 = A
        · have j1 : ((t1 : Int) == (A : Int)) = true := by simp [ha]
          go_upto_region 6 with (fail)
          refine wp_region_kin (by kernel_rfl) (by kernel_rfl) ?_
          repeat (first
            | ((with_reducible show wpQuiet _ _ _ _ (⟨some 32, _, _, _, _, _⟩ :: _) _); refine wpQuiet_step (fun K9 hK9 => ?_); refine quiet_if (.agg (bytesV K)) (by rfl) (fun W hW => quiet_load 36 (.tmp 4) rfl w.heap.size 0 rfl (Lib.byteCells K) _ W (KK.out W hW) Try.underlying36 rfl HI.out) ?_; go_simp; refine hK9 _ ?_; clear hK9 K9)
            | go_big_quiet_step ((go_at_call 35; with_reducible exact CT.out _)))
          refine wpQuiet_nil ?_
          intro _ hy
          obtain ⟨y, rfl⟩ := hy
          have HWY : Hid (Spares nowhere v y.wd) := Lib.hid (HW.out.trans (Below.spares y.below (fun k hk => .inr hk)))
          clear f0 f1
          obtain ⟨A9, hA9, hA9'⟩ : ∃ A9 : Addr, (if cp = i + 1 then (some ⟨g, off, none⟩ : Option Addr) else some ⟨g, off + (i + 1) * 4, none⟩) = some A9 ∧ (L = i + 1 ∨ A9 = ⟨g, off + (i + 1) * 4, none⟩) := by
            by_cases hc : cp = i + 1
            · exact ⟨⟨g, off, none⟩, by simp [hc], .inl (by omega)⟩
            · exact ⟨⟨g, off + (i + 1) * 4, none⟩, by simp [hc], .inr rfl⟩
          have hyd : Spares nowhere w y.wd.drew := HS.out.trans (HWY.out.drew)
          have hDy := HD.out.spares hyd (fun _ _ _ h => h)
          have hra : (R b).a = some (g, off) := by
            have := HAD.out
            unfold Row.ad at this
            cases ha9 : (R b).a with
            | none => rw [ha9] at this; cases this
            | some z =>
              rw [ha9] at this
              simp only [Option.map_some, Option.some.injEq, Addr.mk.injEq] at this
              obtain ⟨h1, h2, _⟩ := this
              rw [← h1, ← h2]
          have hry := hDy.rows.row b (by omega)
          rw [HROW.out] at hry
          obtain ⟨r9, w9, hrun, hr9, hs9, hcase⟩ := append_cut hry hra i hir (by rw [HL.out]; omega) A9 (by rw [HL.out]; exact hA9') (L - (i + 1)) (cp - (i + 1)) (by rw [HL.out]) 38
          rw [HL.out] at hrun
          have hel : (row.eraseIdx i).length = L - 1 := by rw [List.length_eraseIdx, if_pos hir, HL.out]
          have hok : ∀ e ∈ row.eraseIdx i, e.ok := fun e he => HD.out.rows.ok row (by rw [← HROW.out]; exact List.getElem_mem _) e (List.mem_of_mem_eraseIdx he)
          have hput := put_refG hDy hbn (F' := NewF F y.wd.drew w9) (fun _ h => .inl h) hr9 (hs9.mono (fun _ h => h.elim)) (fun F2 r2 l2 h2 _ => h2.spares hs9 (fun _ _ _ h => h)) hcase hok (by rw [hel]; have := HD.out.lens _ (List.getElem_mem (show b < E.length by omega)); rw [HROW.out, HL.out] at this; omega)
          rw [hel] at hput
          have hyc := HC.out _ hyd
          have hgb := hDy.rows.cell b (by omega)
          obtain ⟨cur, hcur, _, _⟩ := hDy.rows.blk
          have cp0 : ∀ V, Spares nowhere y.wd.drew V → V.cell? ⟨p, 0, none⟩ = some (.slice (some ⟨bk, 0, none⟩) n n) := fun V hV => (HC.out _ (hyd.trans hV)).1
          have d1 : w9.cell? ⟨bk, b, none⟩ = some (.slice (some ⟨g, off, none⟩) L cp) := by rw [(HC.out _ (hyd.trans hs9)).2.1, HL.out]
          have d2 : w9.frozen? ⟨bk, b, none⟩ = false := Lib.frozen_of_heap (hs9.heap hcur (fun h => h)) b
          have d3 : w9.cell? ⟨p, 0, none⟩ = some (.slice (some ⟨bk, 0, none⟩) n n) := cp0 w9 hs9
          have d4 : (w9.setCell ⟨bk, b, none⟩ (.slice r9.ad (L - 1) r9.cap)).cell? ⟨p, 0, none⟩ = some (.slice (some ⟨bk, 0, none⟩) n n) := by
            rw [World.cell?_of_block (a := ⟨p, 0, none⟩) (Below.heap_setCell w9 _ _ p (fun e => HD.out.ne e))]; exact d3
          have hbi : (b : Int) < (n : Int) := by omega
          have e2 : ((i : Int) + 1).toNat = i + 1 := by omega
          have q1 : (i : Int) ≤ (cp : Int) := by omega
          have q2 : (0 : Int) ≤ (i : Int) + 1 := by omega
          have q3 : (i : Int) + 1 ≤ (L : Int) := by omega
          have q4 : i ≤ cp := by omega
          have q5 : i + 1 ≤ cp := by omega
          have q6 : i + 1 ≤ L := by omega
          have q7 : (i : Int) ≤ (L : Int) := by omega
          have HFIN : Hid (RefDelPost F p bk n s E b T A w (.returned (.bool true)) (w9.setCell ⟨bk, b, none⟩ (.slice r9.ad (L - 1) r9.cap))) := Lib.hid (by
            have hhit : hitF T A row = some i := by rw [← HA.out]; exact hitK_hit hir ⟨by rw [HT0.out]; exact ht, by rw [HT1.out]; exact ha⟩
            obtain ⟨R', hR'⟩ := hput
            unfold RefDelPost
            rw [HRO.out]
            have hall : Spares F w (w9.setCell ⟨bk, b, none⟩ (.slice r9.ad (L - 1) r9.cap)) := ((hyd.trans hs9).mono (fun _ h => h.elim)).setCell (p := ⟨bk, b, none⟩) (.inl HD.out.rows.inF) _
            refine ⟨by rw [hhit]; rfl, hall, NewF F y.wd.drew w9, R', ?_, fun k hk => ?_⟩
            · unfold delF
              rw [hhit]
              exact hR'
            · rcases hk with hk | ⟨rfl, hk⟩
              · exact .inl hk
              · exact .inr ⟨hyd.size, by simpa using hk⟩)
          clear hput hr9 hs9 hcase hel hok hry hDy hyd hcur hgb hyc hA9' hra
          go_upto_region 7 with (fail)
          -- GEN
          refine wp_region_held_drew (S := fun w' => w'.cell? ⟨p, 0, none⟩ = some (.slice (some ⟨bk, 0, none⟩) n n)) (by kernel_rfl) (cp0 _ (Spares.refl _ _)) (fun hS0 => ?_)
          refine wpAnyH_take (i := 0) (v := ?_) rfl (by kernel_rfl) (by kernel_rfl) (by kernel_rfl) (fun _ _ _ h => h) (Or.inl ⟨by rfl, ?_⟩) (by assumption) ?_
          rotate_left
          · intro w9 hS9
            skip
            go_simp
            try with_reducible rfl
          simp only [List.getElem_toArray, List.getElem_cons_zero, Act.put, List.setIfInBounds_toArray, List.set_cons_succ, List.set_cons_zero]
          refine wpAnyH_take (i := 1) (v := ?_) rfl (by kernel_rfl) (by kernel_rfl) (by kernel_rfl) (fun _ _ _ h => h) (Or.inl ⟨by rfl, ?_⟩) (by assumption) ?_
          rotate_left
          · intro w9 hS9
            skip
            go_simp
            try with_reducible rfl
          simp only [List.getElem_toArray, List.getElem_cons_succ, List.getElem_cons_zero, Act.put, List.setIfInBounds_toArray, List.set_cons_succ, List.set_cons_zero]
          refine wpAnyH_take (i := 2) (v := ?_) rfl (by kernel_rfl) (by kernel_rfl) (by kernel_rfl) (fun _ _ _ h => h) (Or.inl ⟨by rfl, ?_⟩) (by assumption) ?_
          rotate_left
          · intro w9 hS9
            skip
            go_simp
            try with_reducible rfl
          simp only [List.getElem_toArray, List.getElem_cons_succ, List.getElem_cons_zero, Act.put, List.setIfInBounds_toArray, List.set_cons_succ, List.set_cons_zero]
          refine wpAnyH_take (i := 3) (v := ?_) rfl (by kernel_rfl) (by kernel_rfl) (by kernel_rfl) (fun _ _ _ h => h) (Or.inl ⟨by rfl, ?_⟩) (by assumption) ?_
          rotate_left
          · intro w9 hS9
            skip
            go_simp
            try with_reducible rfl
          simp only [List.getElem_toArray, List.getElem_cons_succ, List.getElem_cons_zero, Act.put, List.setIfInBounds_toArray, List.set_cons_succ, List.set_cons_zero]
          refine wpAnyH_take (i := 4) (v := ?_) rfl (by kernel_rfl) (by kernel_rfl) (by kernel_rfl) (fun _ _ _ h => h) (Or.inl ⟨by rfl, ?_⟩) (by assumption) ?_
          rotate_left
          · intro w9 hS9
            skip
            go_simp
            try with_reducible rfl
          simp only [List.getElem_toArray, List.getElem_cons_succ, List.getElem_cons_zero, Act.put, List.setIfInBounds_toArray, List.set_cons_succ, List.set_cons_zero]
          refine wpAnyH_take (i := 5) (v := ?_) rfl (by kernel_rfl) (by kernel_rfl) (by kernel_rfl) (fun _ _ _ h => h) (Or.inl ⟨by rfl, ?_⟩) (by assumption) ?_
          rotate_left
          · intro w9 hS9
            skip
            go_simp
            try with_reducible rfl
          simp only [List.getElem_toArray, List.getElem_cons_succ, List.getElem_cons_zero, Act.put, List.setIfInBounds_toArray, List.set_cons_succ, List.set_cons_zero]
          refine wpAnyH_take (i := 6) (v := ?_) rfl (by kernel_rfl) (by kernel_rfl) (by kernel_rfl) (fun _ _ _ h => h) (Or.inl ⟨by rfl, ?_⟩) (by assumption) ?_
          rotate_left
          · intro w9 hS9
            skip
            go_simp
            try with_reducible rfl
          simp only [List.getElem_toArray, List.getElem_cons_succ, List.getElem_cons_zero, Act.put, List.setIfInBounds_toArray, List.set_cons_succ, List.set_cons_zero]
          refine wpAnyH_take (i := 7) (v := ?_) rfl (by kernel_rfl) (by kernel_rfl) (by kernel_rfl) (fun _ _ _ h => h) (Or.inl ⟨by rfl, ?_⟩) (by assumption) ?_
          rotate_left
          · intro w9 hS9
            skip
            go_simp
            try with_reducible rfl
          simp only [List.getElem_toArray, List.getElem_cons_succ, List.getElem_cons_zero, Act.put, List.setIfInBounds_toArray, List.set_cons_succ, List.set_cons_zero]
          refine wpAnyH_take (i := 8) (v := ?_) rfl (by kernel_rfl) (by kernel_rfl) (by kernel_rfl) (fun _ _ _ h => h) (Or.inl ⟨by rfl, ?_⟩) (by assumption) ?_
          rotate_left
          · intro w9 hS9
            skip
            go_simp
            try with_reducible rfl
          simp only [List.getElem_toArray, List.getElem_cons_succ, List.getElem_cons_zero, Act.put, List.setIfInBounds_toArray, List.set_cons_succ, List.set_cons_zero]
          refine wpAnyH_take (i := 9) (v := ?_) rfl (by kernel_rfl) (by kernel_rfl) (by kernel_rfl) (fun _ _ _ h => h) (Or.inl ⟨by rfl, ?_⟩) (by assumption) ?_
          rotate_left
          · intro w9 hS9
            skip
            go_simp
            try with_reducible rfl
          simp only [List.getElem_toArray, List.getElem_cons_succ, List.getElem_cons_zero, Act.put, List.setIfInBounds_toArray, List.set_cons_succ, List.set_cons_zero]
          refine wpAnyH_take (i := 10) (v := ?_) rfl (by kernel_rfl) (by kernel_rfl) (by kernel_rfl) (fun _ _ _ h => h) (Or.inl ⟨by rfl, ?_⟩) (by assumption) ?_
          rotate_left
          · intro w9 hS9
            skip
            go_simp
            try with_reducible rfl
          simp only [List.getElem_toArray, List.getElem_cons_succ, List.getElem_cons_zero, Act.put, List.setIfInBounds_toArray, List.set_cons_succ, List.set_cons_zero]
          refine wpAnyH_take (i := 11) (v := ?_) rfl (by kernel_rfl) (by kernel_rfl) (by kernel_rfl) (fun _ _ _ h => h) (Or.inl ⟨by rfl, ?_⟩) (by assumption) ?_
          rotate_left
          · intro w9 hS9
            skip
            go_simp
            try with_reducible rfl
          simp only [List.getElem_toArray, List.getElem_cons_succ, List.getElem_cons_zero, Act.put, List.setIfInBounds_toArray, List.set_cons_succ, List.set_cons_zero]
          refine wpAnyH_take (i := 12) (v := ?_) rfl (by kernel_rfl) (by kernel_rfl) (by kernel_rfl) (fun _ _ _ h => h) (Or.inl ⟨by rfl, ?_⟩) (by assumption) ?_
          rotate_left
          · intro w9 hS9
            skip
            go_simp
            try with_reducible rfl
          simp only [List.getElem_toArray, List.getElem_cons_succ, List.getElem_cons_zero, Act.put, List.setIfInBounds_toArray, List.set_cons_succ, List.set_cons_zero]
          refine wpAnyH_ready (rs := [13]) (by kernel_rfl) (by simp) ?_
          refine AllReadyH.cons rfl (fun K9 hK9 => ?_) ?_
          · refine step_append_fact (by rfl) (.tmp 52) (.tmp 56) 38 (by rfl) (.slice (some ⟨g, off, none⟩) i i) (.slice (some A9) (L - (i + 1)) (cp - (i + 1))) (by rfl) (by rfl) hrun ?_
            try go_simp
            refine hK9.out _ _ ?_ (fun hS9 => ?_)
            · exact d3
            clear hK9 K9
            refine wpAnyH_take (i := 14) (v := ?_) rfl (by kernel_rfl) (by kernel_rfl) (by kernel_rfl) (fun _ _ _ h => h) (Or.inl ⟨by rfl, ?_⟩) (by assumption) ?_
            rotate_left
            · intro w9 hS9
              skip
              go_simp
              try with_reducible rfl
            simp only [List.getElem_toArray, List.getElem_cons_succ, List.getElem_cons_zero, Act.put, List.setIfInBounds_toArray, List.set_cons_succ, List.set_cons_zero]
            refine wpAnyH_ready (rs := [15]) (by kernel_rfl) (by simp) ?_
            refine AllReadyH.cons rfl (fun K9 hK9 => ?_) ?_
            · go_simp
              refine hK9.out _ _ ?_ (fun hS9 => ?_)
              · exact d4
              clear hK9 K9
              refine wpAnyH_done (by kernel_rfl) ?_ _
              go_wp2
              go_ret
              exact HFIN.out
            exact AllReadyH.nil
          exact AllReadyH.nil
          -- GEN END
        · have j1 : ((t1 : Int) == (A : Int)) = false := by simp; omega
          go_upto_region 6 with (fail)
          refine wp_region_kin (by kernel_rfl) (by kernel_rfl) ?_
          repeat (first
            | ((with_reducible show wpQuiet _ _ _ _ (⟨some 32, _, _, _, _, _⟩ :: _) _); refine wpQuiet_step (fun K9 hK9 => ?_); refine quiet_if (.agg (bytesV K)) (by rfl) (fun W hW => quiet_load 36 (.tmp 4) rfl w.heap.size 0 rfl (Lib.byteCells K) _ W (KK.out W hW) Try.underlying36 rfl HI.out) ?_; go_simp; refine hK9 _ ?_; clear hK9 K9)
            | go_big_quiet_step ((go_at_call 35; with_reducible exact CT.out _)))
          refine wpQuiet_nil ?_
          intro _ hy
          obtain ⟨y, rfl⟩ := hy
          have HWY : Hid (Spares nowhere v y.wd) := Lib.hid (HW.out.trans (Below.spares y.below (fun k hk => .inr hk)))
          clear f0 f1
          go_wp2
          go_roundw
          case rel => exact ⟨i, by omega, rfl, Lib.hid (by rw [← HA.out, hitK_miss hir (by rw [HT0.out, HT1.out]; exact fun h => ha h.2)]), HWY⟩
          case measure => simp [intOf]
      · have j0 : ((t0 : Int) == (T : Int)) = false := by simp; omega
        go_upto_region 6 with (fail)
        refine wp_region_kin (by kernel_rfl) (by kernel_rfl) ?_
        repeat (first
          | ((with_reducible show wpQuiet _ _ _ _ (⟨some 32, _, _, _, _, _⟩ :: _) _); refine wpQuiet_step (fun K9 hK9 => ?_); refine quiet_if (.agg (bytesV K)) (by rfl) (fun W hW => quiet_load 36 (.tmp 4) rfl w.heap.size 0 rfl (Lib.byteCells K) _ W (KK.out W hW) Try.underlying36 rfl HI.out) ?_; go_simp; refine hK9 _ ?_; clear hK9 K9)
          | go_big_quiet_step ((go_at_call 35; with_reducible exact CT.out _)))
        refine wpQuiet_nil ?_
        intro _ hy
        obtain ⟨y, rfl⟩ := hy
        have HWY : Hid (Spares nowhere v y.wd) := Lib.hid (HW.out.trans (Below.spares y.below (fun k hk => .inr hk)))
        clear f0 f1
        go_wp2
        go_roundw
        case rel => exact ⟨i, by omega, rfl, Lib.hid (by rw [← HA.out, hitK_miss hir (by rw [HT0.out, HT1.out]; exact fun h => ht h.1)]), HWY⟩
        case measure => simp [intOf]
end Go.Proofs.Ytihbjkdgfflnfaa
