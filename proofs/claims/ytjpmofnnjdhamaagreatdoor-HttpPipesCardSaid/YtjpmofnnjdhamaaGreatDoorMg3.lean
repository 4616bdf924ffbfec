/-
  Bytes appended to a row of the call's own, whatever slice they come from.
  A row of bytes that the call itself made, at or behind a base: append of one byte, of bytes, of a string; a row of texts that came in.
  A row of texts that the call itself made, at or behind a base: append of one text, the last one taken off, what it holds.
  slices.Clone of bytes.
  Words read from bytes, and written as bytes.
-/
import Derived.Test.YtjpmofnnjdhamaaGreatDoorProg
import Derived.LoopTactic
import Derived.Outline
import Derived.WalkSpells
import Derived.WalkLawsBesides
import Derived.IntWalk
import Derived.Laws.BitsAllLaws
import Derived.Deep.QuietTactic
import Derived.BigQuiet
import Derived.Laws.IdiomStrings
import Derived.Laws.BytesString
import Derived.WalkSmall
import Derived.OwnWalk
import Derived.Lib.SliceRun
import Derived.Test.YtjpmofnnjdhamaaGreatDoorMg2
namespace Go.Proofs.YtjpmofnnjdhamaaGreatDoor
open Go.RowKit

theorem byteInfo : (Tryz.prog.info? 5).map (fun i => (i.zero, i.size, i.bytes)) = some (some (.int .u8 0), 1, 1) := by kernel_rfl

/-- The bytes d lie in a row of the call's own, which the slice value v holds. -/
def OwnBytes (w : World) (v : Value) (d : List UInt8) : Prop := w.ownsRow 0 5 1 v d.length (Lib.byteCells d)
theorem ownBytes_nil (w : World) : OwnBytes w (.slice none 0 0) [] := World.ownsRow_nil w 0 _ 1
theorem OwnBytes.shape {w : World} {v : Value} {d : List UInt8} (h : OwnBytes w v d) : ∃ a c, v = .slice a d.length c ∧ BytesAt w a d ∧ (a = none → c = 0) := by
  have h' := h
  rcases h.2 with ⟨hv, h2⟩ | ⟨g, cap, cur, hv, _⟩
  · refine ⟨none, 0, by rw [hv, h2], ?_, fun _ => rfl⟩
    have e : d = [] := List.eq_nil_of_length_eq_zero h2
    rw [e]; exact bytesAt_nil w _
  · unfold OwnBytes at h'
    rw [hv] at h'
    exact ⟨_, _, hv, bytesAt_own h', fun e => by cases e⟩
theorem OwnBytes.bytes {w : World} {a : Option Addr} {c n : Nat} {l : List UInt8} (h : OwnBytes w (.slice a n c) l) : BytesAt w a l ∧ (a = none → c = 0) := by
  obtain ⟨a', c', e, h1, h2⟩ := h.shape
  injection e with e1 e2 e3
  subst e1; subst e3
  exact ⟨h1, h2⟩
theorem OwnBytes.spares {F : Nat → Prop} {w w' : World} {v : Value} {d : List UInt8} (h : OwnBytes w v d) (hs : Spares F w w') (hn : ∀ g, v.ownBlock = some g → ¬ F g) : OwnBytes w' v d := hs.own h hn
theorem OwnBytes.lt {w : World} {v : Value} {d : List UInt8} (h : OwnBytes w v d) : ∀ g, v.ownBlock = some g → g < w.heap.size := fun g hg => (World.ownsRow.lt h g hg).2
/-- An own row's block holds cells of bytes. -/
theorem OwnBytes.kind {w : World} {v : Value} {d : List UInt8} (h : OwnBytes w v d) : ∀ g, v.ownBlock = some g → ∃ cs, w.heap[g]? = some (.cells cs 5 (0, 0)) := by
  intro g hg
  rcases h.2 with ⟨rfl, _⟩ | ⟨g', cap, cur, rfl, _, hgg, _⟩
  · simp [Value.ownBlock] at hg
  · simp [Value.ownBlock] at hg
    subst hg
    exact ⟨cur, hgg⟩

/-- []byte as a string. -/
theorem conv_bytes {w : World} {a : Option Addr} {l : List UInt8} (h : BytesAt w a l) (c : Nat) : (convert 23 9 (.slice a l.length c)).run Tryz.prog w = .ok (.string ⟨l.toArray⟩) w := by
  by_cases he : l = []
  · subst he
    rw [run_convert_bytes_string w 23 9 5 a _ c Tryz.underlying23 Tryz.underlying5 Tryz.underlying9]
    cases a <;> simp [Conv.bytesToString, loadCells] <;> rfl
  · obtain ⟨b, off, rfl, _⟩ := h 0 (List.length_pos_iff.2 he)
    refine run_convert_bytes_back (P := Tryz.prog) w 23 9 5 ⟨b, off, none⟩ c l Tryz.underlying23 Tryz.underlying5 Tryz.underlying9 (fun j hj => ?_)
    have := h.cells j (.int .u8 l[j].toNat) (by unfold Lib.byteCells; rw [List.getElem?_map, List.getElem?_eq_getElem hj]; rfl)
    exact this
section
variable {w : World}
theorem wpList_append_bytes {ops : Array Oper} {rest : List Oper} {o : Oper} {a : Act} {Q : Exit → Act → World → Prop} (hgd : o.guard = none) (s x : Operand)
    (ho : o.op = .call { callee := .builtin .append, args := #[s, x], argTypes := #[23, 23] })
    (v : Value) (d : List UInt8) (hs : a.eval s = v) (hown : OwnBytes w v d)
    (ad : Option Addr) (c : Nat) (l : List UInt8) (hx : a.eval x = .slice ad l.length c) (hat : BytesAt w ad l) (hnil : ad = none → c = 0)
    (hlen : d.length + l.length ≤ 140737488355328)
    (hK : ∀ ao c' w', OwnBytes w' (.slice ao (d.length + l.length) c') (d ++ l) → w.grownBy w' v.ownBlock → (∀ g, (Value.slice ao (d.length + l.length) c').ownBlock = some g → v.ownBlock = some g ∨ w.heap.size ≤ g) → wpList Tryz.prog ops Q rest (a.put o.dst (.slice ao (d.length + l.length) c')) w') : wpList Tryz.prog ops Q (o :: rest) a w := by
  have h : ∀ v' w', OwnBytes w' v' (d ++ l) → w.grownBy w' v.ownBlock → (∀ g, v'.ownBlock = some g → v.ownBlock = some g ∨ w.heap.size ≤ g) → wpList Tryz.prog ops Q rest (a.put o.dst v') w' := by
    intro v' w' h1 h2 h3
    obtain ⟨ao, c', rfl, _⟩ := h1.shape
    rw [List.length_append] at h1 h3 ⊢
    exact hK ao c' w' h1 h2 h3
  obtain ⟨i0, hi, hz0, hz1, hz2⟩ := info_parts byteInfo
  cases ad with
  | none =>
    obtain rfl := hnil rfl
    have hl : l = [] := by
      cases l with
      | nil => rfl
      | cons y l => obtain ⟨_, _, e, _⟩ := hat 0 (by simp); cases e
    subst hl
    refine wpList_append_own_none hgd s x 23 ho 0 5 i0 1 Tryz.underlying23 hi v d.length (Lib.byteCells d) hs hown hx ?_
    exact h v w (by rw [List.append_nil]; exact hown) ⟨rfl, rfl, rfl, Nat.le_refl _, fun _ _ _ => rfl⟩ (fun g hg => .inl hg)
  | some ad =>
    by_cases he : l = []
    · subst he
      refine wpList_append_fresh hgd s x 23 ho 5 i0 (.int .u8 0) 1 1 Tryz.underlying23 hi hz0 hz1 hz2 rfl (by decide) v d.length (Lib.byteCells d) hs hown ad 0 c [] hx rfl (by simp) (by simp) (by unfold maxLen; simp at hlen; omega) (by simpa using hlen) ?_
      intro v' w' h1 h2 h3
      exact h v' w' (by unfold OwnBytes; simpa using h1) h2 h3
    · obtain ⟨b, off, hab, _⟩ := hat 0 (List.length_pos_iff.2 he)
      injection hab with hab
      subst hab
      refine wpList_append_fresh hgd s x 23 ho 5 i0 (.int .u8 0) 1 1 Tryz.underlying23 hi hz0 hz1 hz2 rfl (by decide) v d.length (Lib.byteCells d) hs hown ⟨b, off, none⟩ l.length c (Lib.byteCells l) hx (by simp [byteCells_len]) hat.cells (byteCells_one l) (by unfold maxLen; omega) (by omega) ?_
      intro v' w' h1 h2 h3
      exact h v' w' (by unfold OwnBytes; rw [List.length_append, byteCells_app]; exact h1) h2 h3
end
end Go.Proofs.YtjpmofnnjdhamaaGreatDoor
namespace Go.Proofs.YtjpmofnnjdhamaaGreatDoor
open Go.RowKit

def Row8 (B : Nat) (w : World) (v : Value) (d : List UInt8) : Prop := w.ownsRow B 5 1 v d.length (Lib.byteCells d)
theorem row8_nil (B : Nat) (w : World) : Row8 B w (.slice none 0 0) [] := World.ownsRow_nil w B _ 1
theorem Row8.shape {B : Nat} {w : World} {v : Value} {d : List UInt8} (h : Row8 B w v d) : ∃ a c, v = .slice a d.length c ∧ BytesAt w a d ∧ (a = none → c = 0) ∧ d.length ≤ c := by
  have h' := h
  rcases h.2 with ⟨hv, h2⟩ | ⟨g, cap, cur, hv, _, _, hc, _⟩
  · refine ⟨none, 0, by rw [hv, h2], ?_, fun _ => rfl, by omega⟩
    have e : d = [] := List.eq_nil_of_length_eq_zero h2
    rw [e]; exact bytesAt_nil w _
  · unfold Row8 at h'
    rw [hv] at h'
    exact ⟨_, _, hv, bytesAt_own h', (fun e => by cases e), hc⟩
theorem Row8.lt {B : Nat} {w : World} {v : Value} {d : List UInt8} (h : Row8 B w v d) : ∀ g, v.ownBlock = some g → B ≤ g ∧ g < w.heap.size := World.ownsRow.lt h
theorem Row8.spares {B : Nat} {F : Nat → Prop} {w w' : World} {v : Value} {d : List UInt8} (h : Row8 B w v d) (hs : Spares F w w') (hn : ∀ g, v.ownBlock = some g → ¬ F g) : Row8 B w' v d := hs.own h hn
def atLeast (B : Nat) : Nat → Prop := fun b => B ≤ b
section
variable {w : World}
theorem row8_grown {B : Nat} {v : Value} {d : List UInt8} {w' : World} (h : Row8 B w v d) (hg : w.grownBy w' v.ownBlock) : Spares (atLeast B) w w' :=
  (Spares.refl _ w).grown hg fun k hk => .inl (h.lt k hk).1
/-- append(v, x...) of bytes. -/
theorem wpList_row_bytes {ops : Array Oper} {rest : List Oper} {o : Oper} {a : Act} {Q : Exit → Act → World → Prop} (hgd : o.guard = none) (s x : Operand)
    (ho : o.op = .call { callee := .builtin .append, args := #[s, x], argTypes := #[23, 23] })
    (B : Nat) (v : Value) (d : List UInt8) (hs : a.eval s = v) (hown : Row8 B w v d)
    (ad : Option Addr) (c n : Nat) (l : List UInt8) (hx : a.eval x = .slice ad n c) (hn : n = l.length) (hat : BytesAt w ad l) (hnil : ad = none → c = 0)
    (hlen : d.length + n ≤ 140737488355328) (hB : B ≤ w.heap.size)
    (hK : ∀ v' w', Row8 B w' v' (d ++ l) → Spares (atLeast B) w w' → wpList Tryz.prog ops Q rest (a.put o.dst v') w') : wpList Tryz.prog ops Q (o :: rest) a w := by
  subst hn
  obtain ⟨i0, hi, hz0, hz1, hz2⟩ := info_parts byteInfo
  cases ad with
  | none =>
    obtain rfl := hnil rfl
    have hl : l = [] := by
      cases l with
      | nil => rfl
      | cons y l => obtain ⟨_, _, e, _⟩ := hat 0 (by simp); cases e
    subst hl
    refine wpList_append_own_none hgd s x 23 ho B 5 i0 1 Tryz.underlying23 hi v d.length (Lib.byteCells d) hs hown hx ?_
    exact hK v w (by rw [List.append_nil]; exact hown) (Spares.refl _ _)
  | some ad =>
    by_cases he : l = []
    · subst he
      refine wpList_append_own w hgd s x 23 ho B 5 i0 (.int .u8 0) 1 1 Tryz.underlying23 hi hz0 hz1 hz2 rfl (by decide) v d.length (Lib.byteCells d) hs hown ad 0 c [] hx rfl (by simp) (by simp) (by unfold maxLen; simp at hlen; omega) (by simpa using hlen) hB ?_
      intro v' w' h1 h2 h3
      exact hK v' w' (by unfold Row8; simpa using h1) (row8_grown hown h2)
    · obtain ⟨b, off, hab, _⟩ := hat 0 (List.length_pos_iff.2 he)
      injection hab with hab
      subst hab
      refine wpList_append_own w hgd s x 23 ho B 5 i0 (.int .u8 0) 1 1 Tryz.underlying23 hi hz0 hz1 hz2 rfl (by decide) v d.length (Lib.byteCells d) hs hown ⟨b, off, none⟩ l.length c (Lib.byteCells l) hx (by simp [byteCells_len]) hat.cells (byteCells_one l) (by unfold maxLen; omega) (by omega) hB ?_
      intro v' w' h1 h2 h3
      exact hK v' w' (by unfold Row8; rw [List.length_append, byteCells_app]; exact h1) (row8_grown hown h2)
/-- append(v, x...) of a string. -/
theorem wpList_row_str {ops : Array Oper} {rest : List Oper} {o : Oper} {a : Act} {Q : Exit → Act → World → Prop} (hgd : o.guard = none) (s x : Operand)
    (ho : o.op = .call { callee := .builtin .append, args := #[s, x], argTypes := #[23, 9] })
    (B : Nat) (v : Value) (d : List UInt8) (hs : a.eval s = v) (hown : Row8 B w v d)
    (t : ByteArray) (hx : a.eval x = .string t) (hlen : d.length + t.size ≤ 140737488355328) (hB : B ≤ w.heap.size)
    (hK : ∀ v' w', Row8 B w' v' (d ++ t.data.toList) → Spares (atLeast B) w w' → wpList Tryz.prog ops Q rest (a.put o.dst v') w') : wpList Tryz.prog ops Q (o :: rest) a w := by
  obtain ⟨i0, hi, hz0, hz1, hz2⟩ := info_parts byteInfo
  refine Lib.wpList_append_own_string w hgd s x 23 9 ho B 5 i0 Tryz.underlying23 Tryz.underlying9 hi hz0 hz1 hz2 v d.length (Lib.byteCells d) hs hown t hx (by unfold maxLen; omega) (by omega) hB ?_
  intro v' w' h1 h2 h3
  refine hK v' w' ?_ (row8_grown hown h2)
  unfold Row8
  rw [List.length_append, byteCells_app]
  have e : t.data.toList.length = t.size := by rw [Array.length_toList]; rfl
  rw [e]
  exact h1
/-- append(v, x) of one byte: the row of one is made just before. -/
theorem wpList_row_one {ops : Array Oper} {rest : List Oper} {o : Oper} {a : Act} {Q : Exit → Act → World → Prop} (hgd : o.guard = none) (s y : Operand)
    (ho : o.op = .call { callee := .builtin .append, args := #[s, y], argTypes := #[23, 23] })
    (B : Nat) (v : Value) (d : List UInt8) (hs : a.eval s = v) (hown : Row8 B w v d) (x : UInt8) (X : Int)
    (hy : a.eval y = .slice (some ⟨w.heap.size, 0, none⟩) 1 1) (hX : X = (x.toNat : Int)) (hlen : d.length + 1 ≤ 140737488355328) (hB : B ≤ w.heap.size)
    (hK : ∀ v' w', Row8 B w' v' (d ++ [x]) → Spares (atLeast B) w w' → wpList Tryz.prog ops Q rest (a.put o.dst v') w') : wpList Tryz.prog ops Q (o :: rest) a (w.alloc (.cells #[.int .u8 X] 5)) := by
  subst hX
  have hs1 : Spares nowhere w (w.alloc (.cells #[.int .u8 (x.toNat : Int)] 5)) := (Spares.refl _ _).alloc _
  refine wpList_row_bytes hgd s y ho B v d hs (hown.spares hs1 (fun _ _ h => h)) (some ⟨w.heap.size, 0, none⟩) 1 1 [x] hy rfl ?_ (fun e => by cases e) hlen (Nat.le_trans hB hs1.size) ?_
  · intro k hk
    obtain rfl : k = 0 := by simpa using hk
    exact ⟨w.heap.size, 0, rfl, (Lib.cell_of_heap (heap_alloc_new w _) 0).trans rfl⟩
  · intro v' w' h1 h2
    exact hK v' w' h1 ((hs1.mono (fun _ h => by cases h)).trans h2)
/-- make([]byte, 0, n). -/
theorem wpList_make_row {ops : Array Oper} {rest : List Oper} {o : Oper} {a : Act} {Q : Exit → Act → World → Prop} (hgd : o.guard = none) (c : Operand) (l : Operand) (hop : o.op = Op.makeSlice 23 l c)
    (B : Nat) (kl kc : IntKind) (C : Int) (n : Nat) (hl : a.eval l = .int kl 0) (hc : a.eval c = .int kc C) (hC : C = (n : Int)) (hn : n ≤ 140737488355328) (hB : B ≤ w.heap.size)
    (hK : ∀ v' w', Row8 B w' v' [] → Spares nowhere w w' → wpList Tryz.prog ops Q rest (a.put o.dst v') w') : wpList Tryz.prog ops Q (o :: rest) a w := by
  obtain ⟨i0, hi, hz0, hz1, hz2⟩ := info_parts byteInfo
  refine wpList_make_own w hgd l c 23 hop B 5 i0 (.int .u8 0) 1 Tryz.underlying23 hi hz0 hz1 kl kc C n hl hc hC (by rw [hz2]; omega) (by unfold maxLen; omega) hB ?_
  intro w' h1 h2
  exact hK _ w' h1 ((Spares.refl _ w).grown h2 fun k hk => by cases hk)
end
/-- A row of texts that came in. -/
def StrsAt (w : World) (a : Option Addr) (ps : List ByteArray) : Prop :=
  ∀ k (h : k < ps.length), ∃ b off, a = some ⟨b, off, none⟩ ∧ w.cell? ⟨b, off + k, none⟩ = some (.string ps[k])
theorem StrsAt.spares {F : Nat → Prop} {w w' : World} {a : Option Addr} {l : List ByteArray} (h : StrsAt w a l) (hs : Spares F w w') (hn : ∀ b off, a = some ⟨b, off, none⟩ → ¬ F b) : StrsAt w' a l := by
  intro k hk
  obtain ⟨b, off, rfl, hc⟩ := h k hk
  have hlt : b < w.heap.size := by
    rcases Nat.lt_or_ge b w.heap.size with h | h
    · exact h
    · simp [World.cell?, Array.getElem?_eq_none h] at hc
  exact ⟨b, off, rfl, (hs.cell (p := ⟨b, off + k, none⟩) hlt (hn _ _ rfl)).trans hc⟩
end Go.Proofs.YtjpmofnnjdhamaaGreatDoor
namespace Go.Proofs.YtjpmofnnjdhamaaGreatDoor
open Go.RowKit

def textCells (l : List ByteArray) : List Value := l.map Value.string
theorem textCells_len (l : List ByteArray) : (textCells l).length = l.length := by simp [textCells]
theorem textCells_app (a b : List ByteArray) : textCells (a ++ b) = textCells a ++ textCells b := by simp [textCells]
theorem textCells_one (l : List ByteArray) : ∀ u ∈ textCells l, u.oneCell' = true := by
  intro u hu
  obtain ⟨s, _, rfl⟩ := List.mem_map.1 hu
  rfl
theorem textInfo : (Tryz.prog.info? 9).map (fun i => (i.zero, i.size, i.bytes)) = some (some (.string ⟨#[]⟩), 1, 16) := by kernel_rfl
def RowS (B : Nat) (w : World) (v : Value) (l : List ByteArray) : Prop := w.ownsRow B 9 1 v l.length (textCells l)
theorem rowS_nil (B : Nat) (w : World) : RowS B w (.slice none 0 0) [] := World.ownsRow_nil w B _ 1
theorem RowS.lt {B : Nat} {w : World} {v : Value} {l : List ByteArray} (h : RowS B w v l) : ∀ g, v.ownBlock = some g → B ≤ g ∧ g < w.heap.size := World.ownsRow.lt h
theorem RowS.spares {B : Nat} {F : Nat → Prop} {w w' : World} {v : Value} {l : List ByteArray} (h : RowS B w v l) (hs : Spares F w w') (hn : ∀ g, v.ownBlock = some g → ¬ F g) : RowS B w' v l := hs.own h hn
theorem rowS_grown {B : Nat} {w w' : World} {v : Value} {l : List ByteArray} (h : RowS B w v l) (hg : w.grownBy w' v.ownBlock) : Spares (atLeast B) w w' :=
  (Spares.refl _ w).grown hg fun k hk => .inl (h.lt k hk).1
/-- What it is: nil, or a block of the call's own whose first cells are the texts. -/
theorem RowS.shape {B : Nat} {w : World} {v : Value} {l : List ByteArray} (h : RowS B w v l) : (v = .slice none 0 0 ∧ l = []) ∨ ∃ g c, v = .slice (some ⟨g, 0, none⟩) l.length c ∧ B ≤ g ∧ g < w.heap.size ∧ l.length ≤ c ∧ ∀ k (hk : k < l.length), w.cell? ⟨g, k, none⟩ = some (.string l[k]) := by
  have hlt := h.lt
  rcases h.2 with ⟨hv, h2⟩ | ⟨g, cap, cur, hv, hg, hb, hn, hc, hsz, ht⟩
  · exact .inl ⟨by rw [hv], List.eq_nil_of_length_eq_zero h2⟩
  · refine .inr ⟨g, cap, hv, hg, (hlt g (by rw [hv]; rfl)).2, hn, fun k hk => ?_⟩
    rw [Lib.cell_of_heap hb]
    have e : (cur.toList.take (l.length * 1))[k]? = (textCells l)[k]? := by rw [ht]
    rw [List.getElem?_take, if_pos (by omega)] at e
    simpa [textCells, hk] using e
/-- The last one taken off. -/
theorem RowS.pop {B : Nat} {w : World} {g c : Nat} {l : List ByteArray} {x : ByteArray} (h : RowS B w (.slice (some ⟨g, 0, none⟩) (l.length + 1) c) (l ++ [x])) : RowS B w (.slice (some ⟨g, 0, none⟩) l.length c) l := by
  unfold RowS at h ⊢
  rw [List.length_append, textCells_app] at h
  exact ownsRow_pop (by rw [textCells_len, Nat.mul_one]) h
section
variable {w : World}
/-- append(v, x) of one text: the row of one is made just before. -/
theorem wpList_rowS_one {ops : Array Oper} {rest : List Oper} {o : Oper} {a : Act} {Q : Exit → Act → World → Prop} (hgd : o.guard = none) (s y : Operand)
    (ho : o.op = .call { callee := .builtin .append, args := #[s, y], argTypes := #[45, 45] })
    (B : Nat) (v : Value) (l : List ByteArray) (hs : a.eval s = v) (hown : RowS B w v l) (x : ByteArray)
    (hy : a.eval y = .slice (some ⟨w.heap.size, 0, none⟩) 1 1) (hlen : l.length + 1 ≤ 1000000000000) (hB : B ≤ w.heap.size)
    (hK : ∀ v' w', RowS B w' v' (l ++ [x]) → Spares (atLeast B) w w' → wpList Tryz.prog ops Q rest (a.put o.dst v') w') : wpList Tryz.prog ops Q (o :: rest) a (w.alloc (.cells #[.string x] 9)) := by
  have hs1 : Spares nowhere w (w.alloc (.cells #[.string x] 9)) := (Spares.refl _ _).alloc _
  obtain ⟨i0, hi, hz0, hz1, hz2⟩ := info_parts textInfo
  have hown1 : RowS B (w.alloc (.cells #[.string x] 9)) v l := hown.spares hs1 (fun _ _ h => h)
  refine wpList_append_own _ hgd s y 45 ho B 9 i0 (.string ⟨#[]⟩) 1 16 Tryz.underlying45 hi hz0 hz1 hz2 rfl (by decide) v l.length (textCells l) hs hown1 ⟨w.heap.size, 0, none⟩ 1 1 [.string x] hy rfl ?_ ?_ (by unfold maxLen; omega) (by omega) (Nat.le_trans hB hs1.size) ?_
  · intro j u hj
    match j, hj with
    | 0, hj => simp at hj; subst hj; simp [Addr.add]
    | j + 1, hj => simp at hj
  · intro u hu; simp at hu; subst hu; rfl
  · intro v' w' h1 h2 _
    refine hK v' w' (by unfold RowS; rw [List.length_append, textCells_app]; exact h1) ((hs1.mono (fun _ h => by cases h)).trans (rowS_grown hown1 h2))
end
end Go.Proofs.YtjpmofnnjdhamaaGreatDoor
namespace Go.Proofs.YtjpmofnnjdhamaaGreatDoor
open Go.RowKit

/-- A fresh row of the call's own with the bytes l. -/
def Cloned (l : List UInt8) (w : World) (e : Ending) (w' : World) : Prop := ∃ a c, e = .returned (.slice a l.length c) ∧ OwnBytes w' (.slice a l.length c) l ∧ Spares nowhere w w' ∧ ∀ g, (Value.slice a l.length c).ownBlock = some g → w.heap.size ≤ g

theorem own_empty (w : World) : OwnBytes (w.alloc (.cells #[] 5)) (.slice (some ⟨w.heap.size, 0, none⟩) 0 0) [] :=
  ⟨rfl, .inr ⟨w.heap.size, 0, #[], rfl, Nat.zero_le _, heap_alloc_new w _, Nat.le_refl _, by decide, rfl, rfl⟩⟩
set_option maxRecDepth 100000 in
set_option maxHeartbeats 400000 in
theorem clone_any (l : List UInt8) (a : Option Addr) (c : Nat) (w : World) (hat : BytesAt w a l) (hnil : a = none → c = 0) (hl : l.length ≤ 140737488355328) :
    Calls Tryz.prog 47 #[.slice a l.length c] w (Cloned l w) := by
  have HAT := Lib.hid hat
  have HN := Lib.hid hnil
  clear hat hnil
  cases a with
  | none =>
    obtain rfl : l = [] := by
      cases l with
      | nil => rfl
      | cons y l => obtain ⟨_, _, e, _⟩ := HAT.out 0 (by simp); cases e
    obtain rfl := HN.out rfl
    have q : ∀ w : World, (binOp .eql 23 (.slice none 0 0) (.slice none 0 0)).run Tryz.prog w = .ok (.bool true) w := fun w => Lib.run_eql_slice_nil w _ _ none 0 0 0 0 Tryz.underlying23
    go_enter Tryz.func47, Tryz.ntmps47
    go_wp2
    go_ret
    exact ⟨none, 0, rfl, ownBytes_nil w, Spares.refl _ _, fun g hg => by cases hg⟩
  | some ad =>
    have q : ∀ w : World, (binOp .eql 23 (.slice (some ad) l.length c) (.slice none 0 0)).run Tryz.prog w = .ok (.bool false) w := fun w => Lib.run_eql_slice_nil w _ _ (some ad) _ _ 0 0 Tryz.underlying23
    go_enter Tryz.func47, Tryz.ntmps47
    go_wp2_with (at_builtin; refine wpList_append_bytes rfl _ _ rfl _ [] rfl (own_empty w) (some ad) c l rfl (HAT.out.spares (F := nowhere) ((Spares.refl _ _).alloc _) (fun _ _ _ h => h)) (fun e => by cases e) ?c1 ?_)
    case c1 => simpa using hl
    intro ao c' w1 ho hg hf
    have HO := Lib.hid ho
    have HG := Lib.hid hg
    have HF := Lib.hid hf
    clear ho hg hf
    go_wp2
    go_ret
    refine ⟨ao, c', by simp, by simpa using HO.out, ((Spares.refl _ _).alloc _).grown HG.out (fun k hk => .inr ?_), fun g hg => ?_⟩
    · simp [Value.ownBlock] at hk; omega
    · rcases HF.out g (by simpa using hg) with h | h
      · simp [Value.ownBlock] at h; omega
      · omega
def CopyPost (B : Nat) (l : List UInt8) (w : World) (e : Ending) (w' : World) : Prop := ∃ v, e = .returned v ∧ Row8 B w' v l ∧ Spares nowhere w w'
theorem copy_any (l : List UInt8) (a : Option Addr) (c n : Nat) (w : World) (hn : n = l.length) (hat : BytesAt w a l) (hnil : a = none → c = 0) (hl : l.length ≤ 140737488355328) :
    Calls Tryz.prog 47 #[.slice a n c] w (CopyPost w.heap.size l w) := by
  subst hn
  refine (clone_any l a c w hat hnil hl).mono ?_
  rintro e w' ⟨a', c', rfl, ho, hs, hg⟩
  refine ⟨_, rfl, ⟨ho.1, ?_⟩, hs⟩
  rcases ho.2 with h0 | ⟨g, cap, cur, hv, hrest⟩
  · exact .inl h0
  · exact .inr ⟨g, cap, cur, hv, hg g (by rw [hv]; rfl), hrest.2⟩
end Go.Proofs.YtjpmofnnjdhamaaGreatDoor
namespace Go.Proofs.YtjpmofnnjdhamaaGreatDoor
open Go.RowKit

theorem heap_set {w : World} {g : Nat} {t : TypeId} {cs : Array Value} (h : w.heap[g]? = some (.cells cs t (0, 0))) (i : Nat) (u : Value) : (w.setCell ⟨g, i, none⟩ u).heap[g]? = some (.cells (cs.setIfInBounds i u) t (0, 0)) := by
  simp [World.setCell, Array.getElem?_modify, h]
end Go.Proofs.YtjpmofnnjdhamaaGreatDoor
