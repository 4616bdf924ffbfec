/-
  A row of bytes that the call itself made, at or behind a base: append of one byte, of bytes, of a string; a row of texts that came in.
-/
import Derived.Test.YtkfnebpooohflaaDoorBytes2
namespace Go.Proofs.YtkfnebpooohflaaDoor
open Go.RowKit

def Row8 (B : Nat) (w : World) (v : Value) (d : List UInt8) : Prop := w.ownsRow B 5 1 v d.length (Lib.byteCells d)
theorem row8_nil (B : Nat) (w : World) : Row8 B w (.slice none 0 0) [] := World.ownsRow_nil w B _ 1
theorem Row8.shape {B : Nat} {w : World} {v : Value} {d : List UInt8} (h : Row8 B w v d) : ∃ a c, v = .slice a d.length c ∧ BytesAt w a d ∧ (a = none → c = 0) ∧ d.length ≤ c := by
  have h' := h
  rcases h.2 with ⟨hv, h2⟩ | ⟨g, cap, cur, hv, _, _, hc, _⟩
  · refine ⟨none, 0, by rw [hv, h2], ?_, fun _ => rfl, by omega⟩
    have e : d = [] := List.eq_nil_of_length_eq_zero h2
    rw [e]; exact bytesAt_nil w _
  · unfold Row8 at h'
    rw [hv] at h'
    exact ⟨_, _, hv, bytesAt_own h', (fun e => by cases e), hc⟩
theorem Row8.lt {B : Nat} {w : World} {v : Value} {d : List UInt8} (h : Row8 B w v d) : ∀ g, v.ownBlock = some g → B ≤ g ∧ g < w.heap.size := World.ownsRow.lt h
theorem Row8.spares {B : Nat} {F : Nat → Prop} {w w' : World} {v : Value} {d : List UInt8} (h : Row8 B w v d) (hs : Spares F w w') (hn : ∀ g, v.ownBlock = some g → ¬ F g) : Row8 B w' v d := hs.own h hn
def atLeast (B : Nat) : Nat → Prop := fun b => B ≤ b
section
variable {w : World}
theorem row8_grown {B : Nat} {v : Value} {d : List UInt8} {w' : World} (h : Row8 B w v d) (hg : w.grownBy w' v.ownBlock) : Spares (atLeast B) w w' :=
  (Spares.refl _ w).grown hg fun k hk => .inl (h.lt k hk).1
/-- append(v, x...) of bytes. -/
theorem wpList_row_bytes {ops : Array Oper} {rest : List Oper} {o : Oper} {a : Act} {Q : Exit → Act → World → Prop} (hgd : o.guard = none) (s x : Operand)
    (ho : o.op = .call { callee := .builtin .append, args := #[s, x], argTypes := #[22, 22] })
    (B : Nat) (v : Value) (d : List UInt8) (hs : a.eval s = v) (hown : Row8 B w v d)
    (ad : Option Addr) (c n : Nat) (l : List UInt8) (hx : a.eval x = .slice ad n c) (hn : n = l.length) (hat : BytesAt w ad l) (hnil : ad = none → c = 0)
    (hlen : d.length + n ≤ 140737488355328) (hB : B ≤ w.heap.size)
    (hK : ∀ v' w', Row8 B w' v' (d ++ l) → Spares (atLeast B) w w' → wpList Tryd.prog ops Q rest (a.put o.dst v') w') : wpList Tryd.prog ops Q (o :: rest) a w := by
  subst hn
  obtain ⟨i0, hi, hz0, hz1, hz2⟩ := info_parts byteInfo
  cases ad with
  | none =>
    obtain rfl := hnil rfl
    have hl : l = [] := by
      cases l with
      | nil => rfl
      | cons y l => obtain ⟨_, _, e, _⟩ := hat 0 (by simp); cases e
    subst hl
    refine wpList_append_own_none hgd s x 22 ho B 5 i0 1 Tryd.underlying22 hi v d.length (Lib.byteCells d) hs hown hx ?_
    exact hK v w (by rw [List.append_nil]; exact hown) (Spares.refl _ _)
  | some ad =>
    by_cases he : l = []
    · subst he
      refine wpList_append_own w hgd s x 22 ho B 5 i0 (.int .u8 0) 1 1 Tryd.underlying22 hi hz0 hz1 hz2 rfl (by decide) v d.length (Lib.byteCells d) hs hown ad 0 c [] hx rfl (by simp) (by simp) (by unfold maxLen; simp at hlen; omega) (by simpa using hlen) hB ?_
      intro v' w' h1 h2 h3
      exact hK v' w' (by unfold Row8; simpa using h1) (row8_grown hown h2)
    · obtain ⟨b, off, hab, _⟩ := hat 0 (List.length_pos_iff.2 he)
      injection hab with hab
      subst hab
      refine wpList_append_own w hgd s x 22 ho B 5 i0 (.int .u8 0) 1 1 Tryd.underlying22 hi hz0 hz1 hz2 rfl (by decide) v d.length (Lib.byteCells d) hs hown ⟨b, off, none⟩ l.length c (Lib.byteCells l) hx (by simp [byteCells_len]) hat.cells (byteCells_one l) (by unfold maxLen; omega) (by omega) hB ?_
      intro v' w' h1 h2 h3
      exact hK v' w' (by unfold Row8; rw [List.length_append, byteCells_app]; exact h1) (row8_grown hown h2)
/-- append(v, x...) of a string. -/
theorem wpList_row_str {ops : Array Oper} {rest : List Oper} {o : Oper} {a : Act} {Q : Exit → Act → World → Prop} (hgd : o.guard = none) (s x : Operand)
    (ho : o.op = .call { callee := .builtin .append, args := #[s, x], argTypes := #[22, 9] })
    (B : Nat) (v : Value) (d : List UInt8) (hs : a.eval s = v) (hown : Row8 B w v d)
    (t : ByteArray) (hx : a.eval x = .string t) (hlen : d.length + t.size ≤ 140737488355328) (hB : B ≤ w.heap.size)
    (hK : ∀ v' w', Row8 B w' v' (d ++ t.data.toList) → Spares (atLeast B) w w' → wpList Tryd.prog ops Q rest (a.put o.dst v') w') : wpList Tryd.prog ops Q (o :: rest) a w := by
  obtain ⟨i0, hi, hz0, hz1, hz2⟩ := info_parts byteInfo
  refine Lib.wpList_append_own_string w hgd s x 22 9 ho B 5 i0 Tryd.underlying22 Tryd.underlying9 hi hz0 hz1 hz2 v d.length (Lib.byteCells d) hs hown t hx (by unfold maxLen; omega) (by omega) hB ?_
  intro v' w' h1 h2 h3
  refine hK v' w' ?_ (row8_grown hown h2)
  unfold Row8
  rw [List.length_append, byteCells_app]
  have e : t.data.toList.length = t.size := by rw [Array.length_toList]; rfl
  rw [e]
  exact h1
/-- append(v, x) of one byte: the row of one is made just before. -/
theorem wpList_row_one {ops : Array Oper} {rest : List Oper} {o : Oper} {a : Act} {Q : Exit → Act → World → Prop} (hgd : o.guard = none) (s y : Operand)
    (ho : o.op = .call { callee := .builtin .append, args := #[s, y], argTypes := #[22, 22] })
    (B : Nat) (v : Value) (d : List UInt8) (hs : a.eval s = v) (hown : Row8 B w v d) (x : UInt8) (X : Int)
    (hy : a.eval y = .slice (some ⟨w.heap.size, 0, none⟩) 1 1) (hX : X = (x.toNat : Int)) (hlen : d.length + 1 ≤ 140737488355328) (hB : B ≤ w.heap.size)
    (hK : ∀ v' w', Row8 B w' v' (d ++ [x]) → Spares (atLeast B) w w' → wpList Tryd.prog ops Q rest (a.put o.dst v') w') : wpList Tryd.prog ops Q (o :: rest) a (w.alloc (.cells #[.int .u8 X] 5)) := by
  subst hX
  have hs1 : Spares nowhere w (w.alloc (.cells #[.int .u8 (x.toNat : Int)] 5)) := (Spares.refl _ _).alloc _
  refine wpList_row_bytes hgd s y ho B v d hs (hown.spares hs1 (fun _ _ h => h)) (some ⟨w.heap.size, 0, none⟩) 1 1 [x] hy rfl ?_ (fun e => by cases e) hlen (Nat.le_trans hB hs1.size) ?_
  · intro k hk
    obtain rfl : k = 0 := by simpa using hk
    exact ⟨w.heap.size, 0, rfl, (Lib.cell_of_heap (heap_alloc_new w _) 0).trans rfl⟩
  · intro v' w' h1 h2
    exact hK v' w' h1 ((hs1.mono (fun _ h => by cases h)).trans h2)
/-- make([]byte, 0, n). -/
theorem wpList_make_row {ops : Array Oper} {rest : List Oper} {o : Oper} {a : Act} {Q : Exit → Act → World → Prop} (hgd : o.guard = none) (c : Operand) (l : Operand) (hop : o.op = Op.makeSlice 22 l c)
    (B : Nat) (kl kc : IntKind) (C : Int) (n : Nat) (hl : a.eval l = .int kl 0) (hc : a.eval c = .int kc C) (hC : C = (n : Int)) (hn : n ≤ 140737488355328) (hB : B ≤ w.heap.size)
    (hK : ∀ v' w', Row8 B w' v' [] → Spares nowhere w w' → wpList Tryd.prog ops Q rest (a.put o.dst v') w') : wpList Tryd.prog ops Q (o :: rest) a w := by
  obtain ⟨i0, hi, hz0, hz1, hz2⟩ := info_parts byteInfo
  refine wpList_make_own w hgd l c 22 hop B 5 i0 (.int .u8 0) 1 Tryd.underlying22 hi hz0 hz1 kl kc C n hl hc hC (by rw [hz2]; omega) (by unfold maxLen; omega) hB ?_
  intro w' h1 h2
  exact hK _ w' h1 ((Spares.refl _ w).grown h2 fun k hk => by cases hk)
end
/-- A row of texts that came in. -/
def StrsAt (w : World) (a : Option Addr) (ps : List ByteArray) : Prop :=
  ∀ k (h : k < ps.length), ∃ b off, a = some ⟨b, off, none⟩ ∧ w.cell? ⟨b, off + k, none⟩ = some (.string ps[k])
theorem StrsAt.spares {F : Nat → Prop} {w w' : World} {a : Option Addr} {l : List ByteArray} (h : StrsAt w a l) (hs : Spares F w w') (hn : ∀ b off, a = some ⟨b, off, none⟩ → ¬ F b) : StrsAt w' a l := by
  intro k hk
  obtain ⟨b, off, rfl, hc⟩ := h k hk
  have hlt : b < w.heap.size := by
    rcases Nat.lt_or_ge b w.heap.size with h | h
    · exact h
    · simp [World.cell?, Array.getElem?_eq_none h] at hc
  exact ⟨b, off, rfl, (hs.cell (p := ⟨b, off + k, none⟩) hlt (hn _ _ rfl)).trans hc⟩
end Go.Proofs.YtkfnebpooohflaaDoor
