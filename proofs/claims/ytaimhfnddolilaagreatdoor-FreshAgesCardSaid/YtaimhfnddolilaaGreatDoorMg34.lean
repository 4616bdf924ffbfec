/-
  What Match and Keep say, of names.
  The law's own example.
  ambryhelp.LightR, and what the laws of vary share.
  Blanks put in ahead of blanks say nothing; a value more does.
  A row read, a row copied and made longer, in a drawn region; Match at the worlds behind.
  A response that came in by value, opened; slices of fields.
  VaryStar's arguments.
-/
import Derived.Deep.RegionLawGrows
import Derived.Deep.AppendSrc
import Derived.Deep.Upon
import Derived.Lib.SlFresh
import Derived.Deep.RegionHeld3
import Derived.Laws.OwnMore
import Derived.OpenShut
import Derived.ProofKit
import Derived.Lib.SmallJoins
import Derived.SliceStrings
import Derived.Test.YtaimhfnddolilaaGreatDoorMg7
import Derived.Test.YtaimhfnddolilaaGreatDoorMg8
import Derived.Test.YtaimhfnddolilaaGreatDoorMg9
import Derived.Test.YtaimhfnddolilaaGreatDoorMg25
import Derived.Test.YtaimhfnddolilaaGreatDoorMg29
import Derived.Test.YtaimhfnddolilaaGreatDoorMg30
import Derived.Test.YtaimhfnddolilaaGreatDoorMg31
import Derived.Test.YtaimhfnddolilaaGreatDoorMg36
namespace Go.Proofs.YtaimhfnddolilaaGreatDoor.VaryS
open CtrlS
open Go.RowKit HeadMath HeadS VaryMath Go.Sort

theorem resp_cells {w : World} {cs : Array Value} {t : TypeId} {v0 v1 v2 v3 : Value} (h : cs = #[v0, v1, v2, v3]) : (w.alloc (.cells cs t)).cell? ⟨w.heap.size, 0, none⟩ = some v0 ∧ (w.alloc (.cells cs t)).cell? ⟨w.heap.size, 1, none⟩ = some v1 ∧ (w.alloc (.cells cs t)).cell? ⟨w.heap.size, 2, none⟩ = some v2 ∧ (w.alloc (.cells cs t)).cell? ⟨w.heap.size, 3, none⟩ = some v3 := by
  subst h
  refine ⟨?_, ?_, ?_, ?_⟩ <;> (rw [Lib.cell_of_heap (heap_alloc_new w _)]; rfl)
end Go.Proofs.YtaimhfnddolilaaGreatDoor.VaryS
namespace Go.Proofs.YtaimhfnddolilaaGreatDoor.VaryS
open CtrlS
open Go.RowKit HeadMath HeadS VaryMath Go.Sort

theorem few_lit {fs : List (ByteArray × ByteArray)} (h : (decide (fs.length ≤ 100000) && fs.all (fun f => decide (f.1.size ≤ 1000000) && decide (f.2.size ≤ 1000000))) = true) : FewF fs := by
  rw [Bool.and_eq_true] at h
  refine ⟨of_decide_eq_true h.1, fun j hj => ?_⟩
  have := List.all_eq_true.1 h.2 _ (List.getElem_mem hj)
  rw [Bool.and_eq_true] at this
  exact ⟨of_decide_eq_true this.1, of_decide_eq_true this.2⟩
theorem two_fields (w : World) (f g : ByteArray × ByteArray) : FieldsIn (w.heap.size + 1) (w.alloc (.cells #[.string f.1, .string f.2, .string g.1, .string g.2] 43)) (some ⟨w.heap.size, 0, none⟩) [f, g] := by
  intro j hj
  have hj2 : j < 2 := hj
  match j, hj2 with
  | 0, _ => exact ⟨_, 0, rfl, by omega, by simp [go_sem], by simp [go_sem]⟩
  | 1, _ => exact ⟨_, 0, rfl, by omega, by simp [go_sem], by simp [go_sem]⟩
end Go.Proofs.YtaimhfnddolilaaGreatDoor.VaryS
namespace Go.Proofs.YtaimhfnddolilaaGreatDoor.VaryS
open CtrlS
open Go.RowKit HeadMath HeadS VaryMath Go.Sort

def LightF (fs : List (ByteArray × ByteArray)) (m : Nat) : Prop := fs.length ≤ m ∧ ∀ j (h : j < fs.length), (fs[j]).1.size ≤ 300 ∧ (fs[j]).2.size ≤ 300
theorem LightF.few {fs : List (ByteArray × ByteArray)} {m : Nat} (h : LightF fs m) (hm : m ≤ 1000) : FewF fs := ⟨by have := h.1; omega, fun j hj => by have := h.2 j hj; omega⟩
/-- Whatever came in as a slice of fields. -/
def WideF (fs : List (ByteArray × ByteArray)) : Prop := fs.length ≤ maxLen ∧ ∀ j (h : j < fs.length), (fs[j]).1.size ≤ maxLen ∧ (fs[j]).2.size ≤ maxLen
theorem lightW_any (fs : List (ByteArray × ByteArray)) (a : Option Addr) (c most : Nat) (w : World) (hat : FieldsIn w.heap.size w a fs) (hw : WideF fs) (hm : most < 1000) :
    Calls Tryz.prog 21 #[.slice a fs.length c, .int .i64 most] w fun e w' => ∃ b : Bool, e = .returned (.bool b) ∧ w = w' ∧ (b = true → LightF fs most) := by
  obtain ⟨h1, h2⟩ := hw
  unfold maxLen at h1 h2
  refine (light_any fs a c fs.length most w hat rfl (by omega) (by omega) h2).mono ?_
  rintro e w' ⟨b, he, hw', hb⟩
  exact ⟨b, he, hw'.symm, fun h => hb h⟩
def LightRPost (fs : List (ByteArray × ByteArray)) (w : World) (e : Ending) (w' : World) : Prop := ∃ b : Bool, e = .returned (.bool b) ∧ Below w.heap.size w w' ∧ (b = true → LightF fs 15)
set_option maxRecDepth 100000 in
set_option maxHeartbeats 4000000 in
theorem lightR_any (fs : List (ByteArray × ByteArray)) (st : Int) (rs : ByteArray) (fa ba : Option Addr) (fc bn bc : Nat) (w : World) (hin : FieldsIn w.heap.size w fa fs) (hw : WideF fs) (hrs : rs.size ≤ maxLen) (hbn : bn ≤ maxLen) :
    Calls Tryz.prog 9 #[.agg #[.int .i64 st, .string rs, .slice fa fs.length fc, .slice ba bn bc]] w (LightRPost fs w) := by
  unfold maxLen at hrs hbn
  obtain ⟨w0, hw0⟩ : ∃ w0, w.alloc (.cells #[.int .i64 st, .string rs, .slice fa fs.length fc, .slice ba bn bc] 25) = w0 := ⟨_, rfl⟩
  have hb0 : Below w.heap.size w w0 := by rw [← hw0]; exact (Below.refl _ _).alloc (Nat.le_refl _) _
  have hcs := resp_cells (w := w) (t := 25) (cs := #[.int .i64 st, .string rs, .slice fa fs.length fc, .slice ba bn bc]) rfl
  obtain ⟨c0, c1, c2, c3⟩ := hcs
  have cL := lightW_any fs fa fc 15 w0 (kin_in (w := w) ⟨w0, hb0⟩ hin) hw (by omega)
  have CL := Lib.hid cL
  have HW0 := Lib.hid hw0
  have HB0 := Lib.hid hb0
  clear cL hb0 hin hw hw0
  by_cases h1 : rs.size ≤ 100
  · have q1 : (rs.size : Int) ≤ 100 := by omega
    go_enter Tryz.func9, Tryz.ntmps9
    go_wp2_with fail
    change Calls _ _ _ (w.alloc (.cells #[.int .i64 st, .string rs, .slice fa fs.length fc, .slice ba bn bc] 25)) _
    rw [HW0.out]
    refine CL.out.mono ?_
    rintro e w1 ⟨b, rfl, rfl, hb⟩
    have HL := Lib.hid hb
    clear hb
    rw [HW0.out] at c0 c1 c2 c3
    cases b with
    | false =>
      go_wp2
      go_ret
      exact ⟨false, rfl, HB0.out, fun h => by cases h⟩
    | true =>
      by_cases h2 : bn ≤ 1000
      · have q2 : (bn : Int) ≤ 1000 := by omega
        go_wp2
        go_ret
        exact ⟨true, by simp, HB0.out, fun _ => HL.out trivial⟩
      · have q2 : ¬ (bn : Int) ≤ 1000 := by omega
        go_wp2
        go_ret
        exact ⟨false, by simp [q2], HB0.out, fun h => by cases h⟩
  · have q1 : ¬ (rs.size : Int) ≤ 100 := by omega
    go_enter Tryz.func9, Tryz.ntmps9
    go_wp2
    go_ret
    exact ⟨false, rfl, by rw [HW0.out]; exact HB0.out, fun h => by cases h⟩
end Go.Proofs.YtaimhfnddolilaaGreatDoor.VaryS
namespace Go.Proofs.YtaimhfnddolilaaGreatDoor.VaryS
open CtrlS
open Go.RowKit HeadMath HeadS VaryMath Go.Sort

/-- The same for whoever makes each run of blanks one space, whatever stands behind. -/
def SameB (u v : List UInt8) : Prop := ∀ p x, oneB p (u ++ x) = oneB p (v ++ x)
theorem SameB.refl (u : List UInt8) : SameB u u := fun _ _ => rfl
theorem SameB.trans {u v x : List UInt8} (h : SameB u v) (k : SameB v x) : SameB u x := fun p y => (h p y).trans (k p y)
end Go.Proofs.YtaimhfnddolilaaGreatDoor.VaryS
namespace Go.Proofs.YtaimhfnddolilaaGreatDoor.VaryS
open CtrlS
open Go.RowKit HeadMath HeadS VaryMath Go.Sort

/-- A row that is only read. -/
def ReadRow (x : World) (v : Value) (n : Nat) (xs : List Value) : Prop :=
  xs.length = n * 2 ∧ ((v = .slice none 0 0 ∧ n = 0) ∨ ∃ g c, v = .slice (some ⟨g, 0, none⟩) n c ∧ ∀ j u, xs[j]? = some u → x.cell? ((⟨g, 0, none⟩ : Addr).add j) = some u)
theorem read_own {x : World} {B : Nat} {e : TypeId} {v : Value} {n : Nat} {xs : List Value} (h : x.ownsRow B e 2 v n xs) : ReadRow x v n xs := by
  refine ⟨h.1, ?_⟩
  rcases h.2 with h0 | ⟨g, cap, cur, rfl, hr⟩
  · exact .inl h0
  · exact .inr ⟨g, cap, rfl, fun j u hj => h.cells rfl j u hj⟩
theorem ReadRow.below {x y : World} {v : Value} {n : Nat} {xs : List Value} (h : ReadRow x v n xs) (hb : Below x.heap.size x y) : ReadRow y v n xs := by
  refine ⟨h.1, ?_⟩
  rcases h.2 with h0 | ⟨g, c, rfl, hc⟩
  · exact .inl h0
  · exact .inr ⟨g, c, rfl, fun j u hj => (hb.cell (cell_lt (hc j u hj))).trans (hc j u hj)⟩
theorem add_at (g k : Nat) : (⟨g, 0, none⟩ : Addr).add k = ⟨g, k, none⟩ := by
  rcases Nat.eq_zero_or_pos k with rfl | h
  · rfl
  · simp [Addr.add, Nat.ne_of_gt h]
theorem read_fields {x : World} {v : Value} {n : Nat} {l : List (ByteArray × ByteArray)} (h : ReadRow x v n (fieldCells l)) (hn : n = l.length) : ∃ a c, v = .slice a n c ∧ FieldsIn x.heap.size x a l := by
  rcases h.2 with ⟨rfl, h0⟩ | ⟨g, c, rfl, hc⟩
  · subst h0
    exact ⟨none, 0, rfl, fun j hj => absurd hj (by omega)⟩
  · refine ⟨_, c, rfl, fun j hj => ?_⟩
    have h1 := fieldCells_at l j hj
    have c1 := hc _ _ h1.1
    have c2 := hc _ _ h1.2
    rw [add_at] at c1 c2
    exact ⟨g, 0, rfl, cell_lt c1, by rw [Nat.zero_add]; exact c1, by rw [Nat.zero_add]; exact c2⟩
theorem read_new (w : World) (n x : ByteArray) : ReadRow (w.alloc (.cells #[.string n, .string x] 43)) (.slice (some ⟨w.heap.size, 0, none⟩) 1 1) 1 [.string n, .string x] := ⟨rfl, .inr ⟨_, _, rfl, field_new w n x⟩⟩
theorem below_al {v x : World} (h : Below v.heap.size v x) (o : Obj) : Below v.heap.size v (x.alloc o) := h.alloc h.size o
theorem grown_below {x y : World} (h : x.grownBy y none) : Below x.heap.size x y := (Below.refl _ _).grown h (Nat.le_refl _) (fun _ e => by cases e)
set_option maxHeartbeats 4000000 in
/-- Behind append(v, u...). -/
theorem step_copy {ops : Array Oper} {o : Oper} {a : Act} {x : World} {K : Act → World → Prop} {Q : Exit → Act → World → Prop} {E : Prop} (hw : Region.wanted o (yielded ops a.tmps) = true) (s u : Operand)
    (ho : o.op = .call { callee := .builtin .append, args := #[s, u], argTypes := #[22, 22] }) (B : Nat) (v vb : Value) (hs : a.eval s = v) (hu : a.eval u = vb)
    (n m : Nat) (xs news : List Value) (hown : x.ownsRow B 43 2 v n xs) (hrd : ReadRow x vb m news) (h1 : ∀ y ∈ news, y.oneCell' = true) (hnm : n + m ≤ 1000) (hB : B ≤ x.heap.size) (k : Nat) (ys : List Value) (hk : n + m = k) (hys : xs ++ news = ys)
    (h : ∀ v' w', Hid (w'.ownsRow B 43 2 v' k ys) → x.grownBy w' v.ownBlock → K (a.put o.dst v') w') : if Region.wanted o (yielded ops a.tmps) = true then Oper.wp Tryz.prog o a x K Q else E := by
  subst hk
  subst hys
  rw [if_pos hw]
  obtain ⟨i1, fi, fz0, fz1, fz2⟩ := infoField
  rcases hrd.2 with ⟨rfl, rfl⟩ | ⟨g, c, rfl, hc⟩
  · have hr := run_append_owned_none (P := Tryz.prog) (w := x) B 22 o.type 43 i1 2 Tryz.underlying22 fi v n xs hown
    have hz : news = [] := List.eq_nil_of_length_eq_zero (by have := hrd.1; omega)
    subst hz
    refine Lib.wp_append_run_sl x s u 22 ho v _ hs hu hr (h v x (Lib.hid ?_) ?_)
    · rw [List.append_nil]; exact hown
    · exact ⟨rfl, rfl, rfl, Nat.le_refl _, fun _ _ _ => rfl⟩
  · obtain ⟨v', w', hr, h2, h3, _, _⟩ := run_append_own_at (P := Tryz.prog) (w := x) B 22 o.type 43 i1 _ 2 32 Tryz.underlying22 fi fz0 fz1 fz2 rfl (by decide) v n xs hown ⟨g, 0, none⟩ m c news hrd.1 hc h1 (by unfold maxLen; omega) (by omega) hB
    exact Lib.wp_append_run_sl x s u 22 ho v _ hs hu hr (h v' w' (Lib.hid h2) h3)
/-- Only at an append. -/
theorem step_gate {ops : Array Oper} {o : Oper} {a : Act} {x : World} {K : Act → World → Prop} {Q : Exit → Act → World → Prop} {E : Prop} {s u : Operand}
    (_ : o.op = .call { callee := .builtin .append, args := #[s, u], argTypes := #[22, 22] }) (h : if Region.wanted o (yielded ops a.tmps) = true then Oper.wp Tryz.prog o a x K Q else E) : if Region.wanted o (yielded ops a.tmps) = true then Oper.wp Tryz.prog o a x K Q else E := h
theorem cells_one (l : List (ByteArray × ByteArray)) : ∀ y ∈ fieldCells l, y.oneCell' = true := by
  intro y hy
  obtain ⟨f, _, hf⟩ := List.mem_flatMap.1 hy
  rcases List.mem_cons.1 hf with rfl | hf
  · rfl
  · obtain rfl : y = .string f.2 := by simpa using hf
    rfl
theorem few_mem {l : List (ByteArray × ByteArray)} (hl : l.length ≤ 100000) (h : ∀ f ∈ l, f.1.size ≤ 1000000 ∧ f.2.size ≤ 1000000) : FewF l := ⟨hl, fun _ hj => h _ (List.getElem_mem hj)⟩
end Go.Proofs.YtaimhfnddolilaaGreatDoor.VaryS
namespace Go.Proofs.YtaimhfnddolilaaGreatDoor.VaryS
open CtrlS
open Go.ChangeShapes Go.WideShapes Go.ChangeAt Go.RowKit

section
variable {H : Type} {W : World} {enc : TypeId × Value → H}
set_option maxRecDepth 100000 in
theorem slice_lenV {t e : TypeId} {v : Value} {y : DataW H × List MemPlace} {fuel : Nat} (ht : Tryz.prog.underlying t = some (.slice e)) (hf : DataW.trod enc Tryz.prog W 0 (fun _ => true) true fuel t [v] = some y) :
    ∃ a n c, v = .slice a n c ∧ n ≤ 9223372036854775807 := by
  rcases Deep.open_slice ht hf with ⟨hcs, _⟩ | ⟨x, len', cap', m, n, D, Pl, hcs, _, h1, h2, _⟩
  · injection hcs with hcs; exact ⟨_, _, _, hcs, Nat.zero_le _⟩
  · injection hcs with hcs; exact ⟨_, _, _, hcs, Nat.le_trans h1 h2⟩
theorem fieldsAt_inV {w : World} {a : Option Addr} {fs : List (ByteArray × ByteArray)} (h : FieldsAt w a fs) : HeadS.FieldsIn w.heap.size w a fs := by
  intro j hj
  obtain ⟨b, off, h1, h2, h3⟩ := h j hj
  exact ⟨b, off, h1, cell_lt h2, h2, h3⟩
set_option maxRecDepth 100000 in
theorem response_open {v : Value} {d : DataW H} {p : List MemPlace} {r : Reach} {b0 : Nat} (hv : Value.okWide Tryz.prog W r b0 25 v) (h : DataW.Trod enc Tryz.prog W 0 (fun _ => true) true 25 v d p) :
    ∃ (st : Int) (rs : ByteArray) (fa : Option Addr) (fc : Nat) (fs : List (ByteArray × ByteArray)) (ba : Option Addr) (bn bc : Nat), v = .agg #[.int .i64 st, .string rs, .slice fa fs.length fc, .slice ba bn bc] ∧ HeadS.FieldsIn W.heap.size W fa fs ∧
      WideF fs ∧ rs.size ≤ maxLen ∧ bn ≤ maxLen := by
  obtain ⟨v0, v1, v2, v3, y0, y1, y2, y3, n, rfl, _, _, t0, t1, t2, t3⟩ := Joins.open_agg4 Tryz.underlying25 (by kernel_rfl) (by kernel_rfl) hv h
  obtain ⟨z0, e0, _, w0⟩ := DataW.trod_int Tryz.underlying3 t0
  obtain ⟨z1, e1, _, w1⟩ := DataW.trod_string Tryz.underlying9 t1
  obtain ⟨fs, fa, fc, rfl, hat, hl, _, _, hsz⟩ := fields_of_trod t2
  obtain ⟨ba, bn, bc, rfl, hb⟩ := slice_lenV Tryz.underlying23 t3
  injection e0 with e0; injection e1 with e1
  subst e0; subst e1
  have hmax : maxLen = 9223372036854775807 := rfl
  rw [← hmax] at hb
  exact ⟨z0, z1, fa, fc, fs, ba, bn, bc, rfl, fieldsAt_inV hat, ⟨hl, hsz⟩, w1, hb⟩
theorem fieldsV_open {d : DataW H} {p : List MemPlace} {fuel : Nat} {a : Option Addr} {len cap : Nat}
    (hf : DataW.trod enc Tryz.prog W 0 (fun _ => true) true fuel 22 (Value.slice a len cap).cells.toList = some (d, p)) :
    ∃ fs : List (ByteArray × ByteArray), fs.length = len ∧ HeadS.FieldsIn W.heap.size W a fs ∧ WideF fs := by
  obtain ⟨fs, h1, h2, h3, _, _, h4⟩ := fields_open hf
  exact ⟨fs, h1, fieldsAt_inV h2, by rw [h1]; exact h3, h4⟩
end
end Go.Proofs.YtaimhfnddolilaaGreatDoor.VaryS
namespace Go.Proofs.YtaimhfnddolilaaGreatDoor.VaryS
open CtrlS
open Go.RowKit Go.ChangeAt

theorem u8_open {x : Int} (h : (Lit.int .u8 x).wf = true) : ∃ t : Nat, x = (t : Int) ∧ t < 256 := by
  have hb : 0 ≤ x ∧ x ≤ 255 := by simpa [Lit.wf, IntKind.wrap, IntKind.bits, IntKind.signed] using bounds_u8 (by simpa [Lit.wf, IntKind.wrap, IntKind.bits, IntKind.signed] using h)
  exact ⟨x.toNat, by omega, by omega⟩
end Go.Proofs.YtaimhfnddolilaaGreatDoor.VaryS
