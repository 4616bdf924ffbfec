/-
  A message under way: a block of four cells, the third a row of fields of the call's own, that grows.
  The makers' numbers that came in, opened.
-/
import Derived.Deep.CutBlock
import Derived.Deep.DeepCutAuto
import Derived.OpenShut
import Derived.Lib.SmallJoins
import Derived.Deep.Fields
import Derived.Lib.LaidTab
import Derived.Test.YtgfinhkplijhbaaGreatDoorRows
import Derived.Test.YtgfinhkplijhbaaGreatDoorMg29
import Derived.Test.YtgfinhkplijhbaaGreatDoorMg30
namespace Go.Proofs.YtgfinhkplijhbaaGreatDoor
open Go.RowKit HeadMath HeadS CtrlS VaryS

def SmallL (L : Fls) : Prop := ∀ f ∈ L, f.1.size ≤ 1000 ∧ f.2.size ≤ 1000
theorem small_nil : SmallL [] := fun _ h => by cases h
theorem small_app {L M : Fls} (h : SmallL L) (h' : SmallL M) : SmallL (L ++ M) := fun f hf => by
  rcases List.mem_append.1 hf with h1 | h1
  · exact h f h1
  · exact h' f h1
theorem small_one {a b : ByteArray} (ha : a.size ≤ 1000) (hb : b.size ≤ 1000) : SmallL [(a, b)] := fun f hf => by
  obtain rfl : f = (a, b) := by simpa using hf
  exact ⟨ha, hb⟩
theorem small_cons {a b : ByteArray} {L : Fls} (ha : a.size ≤ 1000) (hb : b.size ≤ 1000) (h : SmallL L) : SmallL ((a, b) :: L) := small_app (L := [(a, b)]) (small_one ha hb) h
theorem few_small {L : Fls} (h : SmallL L) (hl : L.length ≤ 100000) : FewF L := few_mem hl (fun f hf => by have := h f hf; omega)
structure Msg (ty : TypeId) (p k : Nat) (x : World) (c0 c1 v bd : Value) (L : Fls) : Prop where
  block : x.heap[p]? = some (.cells #[c0, c1, v, bd] ty (0, 0))
  own : x.ownsRow (p + 1) 48 2 v L.length (fieldCells L)
  len : L.length ≤ k
  small : SmallL L
section
variable {ty : TypeId} {p k : Nat} {x x2 x3 : World} {c0 c1 v bd : Value} {L : Fls}
theorem Msg.lt (h : Msg ty p k x c0 c1 v bd L) : p < x.heap.size := (Array.getElem?_eq_some_iff.1 h.block).1
theorem Msg.below (h : Msg ty p k x c0 c1 v bd L) (hb : Below x.heap.size x x2) : Msg ty p k x2 c0 c1 v bd L := ⟨stood3 hb h.block, ownsRow_below h.own hb, h.len, h.small⟩
theorem Msg.more {j : Nat} (h : Msg ty p k x c0 c1 v bd L) (hj : k ≤ j) : Msg ty p j x c0 c1 v bd L := ⟨h.block, h.own, Nat.le_trans h.len hj, h.small⟩
theorem Msg.grown_block (h : Msg ty p k x c0 c1 v bd L) (hg : x.grownBy x3 v.ownBlock) : x3.heap[p]? = some (.cells #[c0, c1, v, bd] ty (0, 0)) :=
  (hg.block p h.lt (fun e => by have := (World.ownsRow.lt h.own p e.symm).1; omega)).trans h.block
theorem own_set {B q j : Nat} {u : Value} {w : World} {n : Nat} {xs : List Value} (h : w.ownsRow B 48 2 v n xs) (hq : q < B) : (w.setCell ⟨q, j, none⟩ u).ownsRow B 48 2 v n xs := by
  refine ⟨h.1, ?_⟩
  rcases h.2 with h0 | ⟨g, cap, cur, hv, hg, hc, rest⟩
  · exact .inl h0
  · exact .inr ⟨g, cap, cur, hv, hg, by rw [Below.heap_setCell _ _ _ _ (show g ≠ q by omega)]; exact hc, rest⟩
/-- Behind an append of new fields and the store of the row. -/
theorem Msg.next {j : Nat} {new : Fls} {v3 : Value} (h : Msg ty p k x c0 c1 v bd L) (hj : new.length ≤ j) (hs : SmallL new)
    (ho3 : x3.ownsRow (p + 1) 48 2 v3 (L.length + new.length) (fieldCells L ++ fieldCells new)) (hg3 : x.grownBy x3 v.ownBlock) : Msg ty p (k + j) (x3.setCell ⟨p, 2, none⟩ v3) c0 c1 v3 bd (L ++ new) := by
  refine ⟨heap_setCells (g := p) (t := ty) [v3] [c0, c1] [v] [bd] x3 (h.grown_block hg3) rfl, ?_, by rw [List.length_append]; have := h.len; omega, small_app h.small hs⟩
  have e : fieldCells (L ++ new) = fieldCells L ++ fieldCells new := by simp [fieldCells]
  rw [e, List.length_append]
  exact own_set ho3 (Nat.lt_succ_self p)
theorem Msg.body (h : Msg ty p k x c0 c1 v bd L) (b2 : Value) : Msg ty p k (x.setCell ⟨p, 3, none⟩ b2) c0 c1 v b2 L :=
  ⟨heap_setCells (g := p) (t := ty) [b2] [c0, c1, v] [bd] [] x h.block rfl, own_set h.own (Nat.lt_succ_self p), h.len, h.small⟩
theorem Msg.far {v0 : World} {v3 : Value} {j : Nat} (hp : v0.heap.size ≤ p) (hb0 : Below v0.heap.size v0 x) (h : Msg ty p k x c0 c1 v bd L) (hg3 : x.grownBy x3 v.ownBlock) : Below v0.heap.size v0 (x3.setCell ⟨p, j, none⟩ v3) :=
  below_cell (hb0.grown hg3 hb0.size (fun g e => by have := (World.ownsRow.lt h.own g e).1; omega)) hp _
theorem own_sets {B q n : Nat} {v : Value} {xs : List Value} (hq : q < B) : ∀ (l : List Value) (o : Nat) (w : World), w.ownsRow B 48 2 v n xs → (w.setCells q o l).ownsRow B 48 2 v n xs
  | [], _, _, h => h
  | _ :: r, o, _, h => own_sets hq r (o + 1) _ (own_set h hq)
theorem Msg.far_sets {q : Nat} (h : Msg ty p k x c0 c1 v bd L) (hq : q < p) (l : List Value) : Msg ty p k (x.setCells q 0 l) c0 c1 v bd L :=
  ⟨(heap_other q p (by omega) l 0 x).trans h.block, own_sets (by omega) l 0 x h.own, h.len, h.small⟩
/-- The message's fields, as a slice. -/
theorem Msg.slice (h : Msg ty p k x c0 c1 v bd L) : ∃ fa fc, v = .slice fa L.length fc ∧ FieldsIn x.heap.size x fa L := by
  by_cases h0 : L = []
  · subst h0
    rcases h.own.2 with ⟨hv, _⟩ | ⟨g, cap, cur, hv, _⟩
    · exact ⟨none, 0, hv, fun j hj => absurd hj (Nat.not_lt_zero _)⟩
    · exact ⟨_, cap, hv, fun j hj => absurd hj (Nat.not_lt_zero _)⟩
  · obtain ⟨g, cap, hv, _, _, hin⟩ := own_fieldsP rfl (List.length_pos_iff.2 h0) h.own
    exact ⟨_, cap, hv, hin⟩
end
theorem own_in {x : World} {B fc : Nat} {fa : Option Addr} {L : Fls} (h : x.ownsRow B 48 2 (.slice fa L.length fc) L.length (fieldCells L)) : FieldsIn x.heap.size x fa L := by
  by_cases h0 : L = []
  · subst h0
    exact fun j hj => absurd hj (Nat.not_lt_zero _)
  · obtain ⟨g, cap, hv, _, _, hin⟩ := own_fieldsP rfl (List.length_pos_iff.2 h0) h
    injection hv with hv _ _
    subst hv
    exact hin
theorem info_req : (Tryz.prog.info? 25).map (·.size) = some 4 := by kernel_rfl
theorem info_resp : (Tryz.prog.info? 27).map (·.size) = some 4 := by kernel_rfl
/-- append(m.Fields, new...): the step and what it leaves. -/
theorem wp_msg_append {o : Oper} {a : Act} {x x2 : World} {K : Act → World → Prop} {Q : Exit → Act → World → Prop} {ty : TypeId} {p k : Nat} {c0 c1 v bd : Value} {L : Fls} (h : Msg ty p k x2 c0 c1 v bd L) (hk : k ≤ 50) (s u : Operand)
    (ho : o.op = .call { callee := .builtin .append, args := #[s, u], argTypes := #[22, 22] }) (d : Tmp) (hd : o.dst = some d) (hs : a.eval s = v) (ad : Option Addr) (c m : Nat) (new : Fls) (hu : a.eval u = .slice ad m c) (hm : m = new.length) (hin : FieldsIn x2.heap.size x2 ad new) (hnil : ad = none → c = 0) (hl : new.length ≤ 3) (hn : SmallL new) (hx : x = x2)
    (hK : ∀ fa n fc x3, x3.cell? ⟨p, 2, none⟩ = some v → x3.frozen? ⟨p, 2, none⟩ = false → Hid (Msg ty p (k + 3) (x3.setCell ⟨p, 2, none⟩ (.slice fa n fc)) c0 c1 (.slice fa n fc) bd (L ++ new)) → Hid (∀ v0 : World, v0.heap.size ≤ p → Below v0.heap.size v0 x2 → Below v0.heap.size v0 (x3.setCell ⟨p, 2, none⟩ (.slice fa n fc))) → Hid (x2.grownBy x3 v.ownBlock) → K (a.put (some d) (.slice fa n fc)) x3) : Oper.wp Tryz.prog o a x K Q := by
  subst hx
  subst hm
  refine wp_app_fields s u ho (p + 1) v L.length (fieldCells L) hs h.own h.lt ad c new.length new hu rfl hin hnil (by have := h.len; omega) (fun v3 x3 h1 h2 => ?_)
  rw [hd]
  have hb := h.grown_block h2
  have hN := h.next hl hn h1 h2
  obtain ⟨fa, fc, rfl, _⟩ := hN.slice
  exact hK _ _ _ x3 (four_at hb).2.2.1 (heap_frozen hb 2) (Lib.hid hN) (Lib.hid (fun v0 hp hb0 => Msg.far hp hb0 h h2)) (Lib.hid h2)
theorem six_at {w : World} {p : Nat} {a b c d e f : Value} {t : TypeId} (h : w.heap[p]? = some (.cells #[a, b, c, d, e, f] t (0, 0))) : w.cell? ⟨p, 0, none⟩ = some a ∧ w.cell? ⟨p, 1, none⟩ = some b ∧ w.cell? ⟨p, 2, none⟩ = some c ∧ w.cell? ⟨p, 3, none⟩ = some d ∧ w.cell? ⟨p, 4, none⟩ = some e ∧ w.cell? ⟨p, 5, none⟩ = some f := by
  refine ⟨?_, ?_, ?_, ?_, ?_, ?_⟩ <;> (rw [Lib.cell_of_heap h]; rfl)
theorem row_at {w : World} {p : Nat} {l : Fls} (h : w.heap[p]? = some (.cells (fieldCells l).toArray 48 (0, 0))) : FieldsIn w.heap.size w (some ⟨p, 0, none⟩) l := by
  intro j hj
  have ha := fieldCells_at l j hj
  refine ⟨p, 0, rfl, (Array.getElem?_eq_some_iff.1 h).1, ?_, ?_⟩
  · rw [Lib.cell_of_heap h, Nat.zero_add, List.getElem?_toArray]; exact ha.1
  · rw [Lib.cell_of_heap h, Nat.zero_add, List.getElem?_toArray]; exact ha.2
theorem cell_al {x : World} {a : Addr} {u : Value} (h : x.cell? a = some u) (o : Obj) : (x.alloc o).cell? a = some u := (World.cell?_alloc_lt _ _ _ (World.block_lt_of_cell? x a h)).trans h
end Go.Proofs.YtgfinhkplijhbaaGreatDoor
namespace Go.Proofs.YtgfinhkplijhbaaGreatDoor
open Go.RowKit Go.Deep
open Go.WideShapes Go.ChangeAt

set_option maxRecDepth 100000
theorem aggN_openS {H : Type} {enc : TypeId × Value → H} {P : Program} {W : World} {t : TypeId} {fs : Array Field} {v : Value} {d : DataW H} {p : List MemPlace} {r : Reach} {b0 : Nat} (hs : P.underlying t = some (.struct fs)) (hone : oneCellFields P fs = true) (hC : P.cellsOf t = fs.size)
    (hv : Value.okWide P W r b0 t v) (h : DataW.Trod enc P W 0 (fun _ => true) true t v d p) :
    ∃ cs : Array Value, v = .agg cs ∧ cs.size = fs.size ∧ ∃ n, ∀ (j : Nat) (f : Field), fs[j]? = some f → ∃ u y, cs[j]? = some u ∧ DataW.trod enc P W 0 (fun _ => true) true n f.type [u] = some y := by
  obtain ⟨cs, rfl, hsz⟩ := okWide_struct hs hv
  obtain ⟨fuel, hf⟩ := h
  obtain ⟨ys, n', _, _, hl, hyl, hy⟩ := DataW.trod_struct hs hf
  refine ⟨cs, rfl, hsz.trans hC, n', fun j f hj => ?_⟩
  have hjl : j < fs.size := (Array.getElem?_eq_some_iff.1 hj).1
  have hcj : j < cs.size := by omega
  obtain ⟨h1, h2⟩ := hone_of hone j f hj
  have h3 := hy j f hj
  have e : (Value.agg cs).cells.toList = cs.toList := by simp [Value.cells]
  rw [e, h1, h2, List.drop_eq_getElem_cons (by simpa using hcj)] at h3
  refine ⟨cs[j], ys[j]'(by omega), Array.getElem?_eq_getElem _, ?_⟩
  rw [List.getElem?_eq_getElem (by omega)] at h3
  simpa using h3
theorem array6 {cs : Array Value} (h : cs.size = 6) : ∃ v0 v1 v2 v3 v4 v5, cs = #[v0, v1, v2, v3, v4, v5] := by
  obtain ⟨l⟩ := cs
  match l, h with
  | [v0, v1, v2, v3, v4, v5], _ => exact ⟨_, _, _, _, _, _, rfl⟩
section
variable {H : Type} {W : World} {enc : TypeId × Value → H}
theorem seatQ_open {v : Value} {d : DataW H} {p : List MemPlace} {r : Reach} {b0 : Nat} (hv : Value.okWide Tryz.prog W r b0 29 v) (h : DataW.Trod enc Tryz.prog W 0 (fun _ => true) true 29 v d p) :
    ∃ a0 a1 a2 a3 a4 a5 : Nat, v = .agg #[.int .u8 a0, .int .u8 a1, .int .u8 a2, .int .u8 a3, .int .u8 a4, .int .u8 a5] ∧ a0 < 256 ∧ a1 < 256 ∧ a2 < 256 ∧ a3 < 256 ∧ a4 < 256 ∧ a5 < 256 := by
  obtain ⟨cs, rfl, hsz, n, hg⟩ := aggN_openS Tryz.underlying29 (by kernel_rfl) (by kernel_rfl) hv h
  obtain ⟨v0, v1, v2, v3, v4, v5, rfl⟩ := array6 (hsz.trans rfl)
  obtain ⟨u, y, hu, ht⟩ := hg 0 _ rfl
  obtain rfl : v0 = u := by simpa using hu
  obtain ⟨z0, e0, _, w0⟩ := DataW.trod_int Tryz.underlying5 ht
  injection e0 with e0
  subst e0
  obtain ⟨a0, rfl, l0⟩ := VaryS.u8_open w0
  clear hu ht
  obtain ⟨u, y, hu, ht⟩ := hg 1 _ rfl
  obtain rfl : v1 = u := by simpa using hu
  obtain ⟨z1, e1, _, w1⟩ := DataW.trod_int Tryz.underlying5 ht
  injection e1 with e1
  subst e1
  obtain ⟨a1, rfl, l1⟩ := VaryS.u8_open w1
  clear hu ht
  obtain ⟨u, y, hu, ht⟩ := hg 2 _ rfl
  obtain rfl : v2 = u := by simpa using hu
  obtain ⟨z2, e2, _, w2⟩ := DataW.trod_int Tryz.underlying5 ht
  injection e2 with e2
  subst e2
  obtain ⟨a2, rfl, l2⟩ := VaryS.u8_open w2
  clear hu ht
  obtain ⟨u, y, hu, ht⟩ := hg 3 _ rfl
  obtain rfl : v3 = u := by simpa using hu
  obtain ⟨z3, e3, _, w3⟩ := DataW.trod_int Tryz.underlying5 ht
  injection e3 with e3
  subst e3
  obtain ⟨a3, rfl, l3⟩ := VaryS.u8_open w3
  clear hu ht
  obtain ⟨u, y, hu, ht⟩ := hg 4 _ rfl
  obtain rfl : v4 = u := by simpa using hu
  obtain ⟨z4, e4, _, w4⟩ := DataW.trod_int Tryz.underlying5 ht
  injection e4 with e4
  subst e4
  obtain ⟨a4, rfl, l4⟩ := VaryS.u8_open w4
  clear hu ht
  obtain ⟨u, y, hu, ht⟩ := hg 5 _ rfl
  obtain rfl : v5 = u := by simpa using hu
  obtain ⟨z5, e5, _, w5⟩ := DataW.trod_int Tryz.underlying5 ht
  injection e5 with e5
  subst e5
  obtain ⟨a5, rfl, l5⟩ := VaryS.u8_open w5
  clear hu ht
  exact ⟨a0, a1, a2, a3, a4, a5, rfl, l0, l1, l2, l3, l4, l5⟩
theorem seatR_open {v : Value} {d : DataW H} {p : List MemPlace} {r : Reach} {b0 : Nat} (hv : Value.okWide Tryz.prog W r b0 31 v) (h : DataW.Trod enc Tryz.prog W 0 (fun _ => true) true 31 v d p) :
    ∃ a0 a1 a2 a3 a4 a5 : Nat, v = .agg #[.int .u8 a0, .int .u8 a1, .int .u8 a2, .int .u8 a3, .int .u8 a4, .int .u8 a5] ∧ a0 < 256 ∧ a1 < 256 ∧ a2 < 256 ∧ a3 < 256 ∧ a4 < 256 ∧ a5 < 256 := by
  obtain ⟨cs, rfl, hsz, n, hg⟩ := aggN_openS Tryz.underlying31 (by kernel_rfl) (by kernel_rfl) hv h
  obtain ⟨v0, v1, v2, v3, v4, v5, rfl⟩ := array6 (hsz.trans rfl)
  obtain ⟨u, y, hu, ht⟩ := hg 0 _ rfl
  obtain rfl : v0 = u := by simpa using hu
  obtain ⟨z0, e0, _, w0⟩ := DataW.trod_int Tryz.underlying5 ht
  injection e0 with e0
  subst e0
  obtain ⟨a0, rfl, l0⟩ := VaryS.u8_open w0
  clear hu ht
  obtain ⟨u, y, hu, ht⟩ := hg 1 _ rfl
  obtain rfl : v1 = u := by simpa using hu
  obtain ⟨z1, e1, _, w1⟩ := DataW.trod_int Tryz.underlying5 ht
  injection e1 with e1
  subst e1
  obtain ⟨a1, rfl, l1⟩ := VaryS.u8_open w1
  clear hu ht
  obtain ⟨u, y, hu, ht⟩ := hg 2 _ rfl
  obtain rfl : v2 = u := by simpa using hu
  obtain ⟨z2, e2, _, w2⟩ := DataW.trod_int Tryz.underlying5 ht
  injection e2 with e2
  subst e2
  obtain ⟨a2, rfl, l2⟩ := VaryS.u8_open w2
  clear hu ht
  obtain ⟨u, y, hu, ht⟩ := hg 3 _ rfl
  obtain rfl : v3 = u := by simpa using hu
  obtain ⟨z3, e3, _, w3⟩ := DataW.trod_int Tryz.underlying5 ht
  injection e3 with e3
  subst e3
  obtain ⟨a3, rfl, l3⟩ := VaryS.u8_open w3
  clear hu ht
  obtain ⟨u, y, hu, ht⟩ := hg 4 _ rfl
  obtain rfl : v4 = u := by simpa using hu
  obtain ⟨z4, e4, _, w4⟩ := DataW.trod_int Tryz.underlying5 ht
  injection e4 with e4
  subst e4
  obtain ⟨a4, rfl, l4⟩ := VaryS.u8_open w4
  clear hu ht
  obtain ⟨u, y, hu, ht⟩ := hg 5 _ rfl
  obtain rfl : v5 = u := by simpa using hu
  obtain ⟨z5, e5, _, w5⟩ := DataW.trod_int Tryz.underlying5 ht
  injection e5 with e5
  subst e5
  obtain ⟨a5, rfl, l5⟩ := VaryS.u8_open w5
  clear hu ht
  exact ⟨a0, a1, a2, a3, a4, a5, rfl, l0, l1, l2, l3, l4, l5⟩
end
end Go.Proofs.YtgfinhkplijhbaaGreatDoor
