/-
  Bytes appended to a row of the call's own, whatever slice they come from.
-/
import Derived.Test.YtkfnebpooohflaaDoorProg
import Derived.Test.YtkfnebpooohflaaDoorSpares
import Derived.LoopTactic
import Derived.Outline
import Derived.WalkSpells
import Derived.WalkLawsBesides
import Derived.IntWalk
import Derived.Laws.BitsAllLaws
import Derived.Deep.QuietTactic
import Derived.BigQuiet
import Derived.Laws.IdiomStrings
import Derived.Laws.BytesString
namespace Go.Proofs.YtkfnebpooohflaaDoor
open Go.RowKit

theorem byteInfo : (Tryd.prog.info? 5).map (fun i => (i.zero, i.size, i.bytes)) = some (some (.int .u8 0), 1, 1) := by kernel_rfl

/-- The bytes d lie in a row of the call's own, which the slice value v holds. -/
def OwnBytes (w : World) (v : Value) (d : List UInt8) : Prop := w.ownsRow 0 5 1 v d.length (Lib.byteCells d)
theorem ownBytes_nil (w : World) : OwnBytes w (.slice none 0 0) [] := World.ownsRow_nil w 0 _ 1
theorem OwnBytes.shape {w : World} {v : Value} {d : List UInt8} (h : OwnBytes w v d) : ∃ a c, v = .slice a d.length c ∧ BytesAt w a d ∧ (a = none → c = 0) := by
  have h' := h
  rcases h.2 with ⟨hv, h2⟩ | ⟨g, cap, cur, hv, _⟩
  · refine ⟨none, 0, by rw [hv, h2], ?_, fun _ => rfl⟩
    have e : d = [] := List.eq_nil_of_length_eq_zero h2
    rw [e]; exact bytesAt_nil w _
  · unfold OwnBytes at h'
    rw [hv] at h'
    exact ⟨_, _, hv, bytesAt_own h', fun e => by cases e⟩
theorem OwnBytes.bytes {w : World} {a : Option Addr} {c n : Nat} {l : List UInt8} (h : OwnBytes w (.slice a n c) l) : BytesAt w a l ∧ (a = none → c = 0) := by
  obtain ⟨a', c', e, h1, h2⟩ := h.shape
  injection e with e1 e2 e3
  subst e1; subst e3
  exact ⟨h1, h2⟩
theorem OwnBytes.spares {F : Nat → Prop} {w w' : World} {v : Value} {d : List UInt8} (h : OwnBytes w v d) (hs : Spares F w w') (hn : ∀ g, v.ownBlock = some g → ¬ F g) : OwnBytes w' v d := hs.own h hn
theorem OwnBytes.lt {w : World} {v : Value} {d : List UInt8} (h : OwnBytes w v d) : ∀ g, v.ownBlock = some g → g < w.heap.size := fun g hg => (World.ownsRow.lt h g hg).2
/-- An own row's block holds cells of bytes. -/
theorem OwnBytes.kind {w : World} {v : Value} {d : List UInt8} (h : OwnBytes w v d) : ∀ g, v.ownBlock = some g → ∃ cs, w.heap[g]? = some (.cells cs 5 (0, 0)) := by
  intro g hg
  rcases h.2 with ⟨rfl, _⟩ | ⟨g', cap, cur, rfl, _, hgg, _⟩
  · simp [Value.ownBlock] at hg
  · simp [Value.ownBlock] at hg
    subst hg
    exact ⟨cur, hgg⟩

/-- []byte as a string. -/
theorem conv_bytes {w : World} {a : Option Addr} {l : List UInt8} (h : BytesAt w a l) (c : Nat) : (convert 22 9 (.slice a l.length c)).run Tryd.prog w = .ok (.string ⟨l.toArray⟩) w := by
  by_cases he : l = []
  · subst he
    rw [run_convert_bytes_string w 22 9 5 a _ c Tryd.underlying22 Tryd.underlying5 Tryd.underlying9]
    cases a <;> simp [Conv.bytesToString, loadCells] <;> rfl
  · obtain ⟨b, off, rfl, _⟩ := h 0 (List.length_pos_iff.2 he)
    refine run_convert_bytes_back (P := Tryd.prog) w 22 9 5 ⟨b, off, none⟩ c l Tryd.underlying22 Tryd.underlying5 Tryd.underlying9 (fun j hj => ?_)
    have := h.cells j (.int .u8 l[j].toNat) (by unfold Lib.byteCells; rw [List.getElem?_map, List.getElem?_eq_getElem hj]; rfl)
    exact this
section
variable {w : World}
theorem wpList_append_bytes {ops : Array Oper} {rest : List Oper} {o : Oper} {a : Act} {Q : Exit → Act → World → Prop} (hgd : o.guard = none) (s x : Operand)
    (ho : o.op = .call { callee := .builtin .append, args := #[s, x], argTypes := #[22, 22] })
    (v : Value) (d : List UInt8) (hs : a.eval s = v) (hown : OwnBytes w v d)
    (ad : Option Addr) (c : Nat) (l : List UInt8) (hx : a.eval x = .slice ad l.length c) (hat : BytesAt w ad l) (hnil : ad = none → c = 0)
    (hlen : d.length + l.length ≤ 140737488355328)
    (hK : ∀ ao c' w', OwnBytes w' (.slice ao (d.length + l.length) c') (d ++ l) → w.grownBy w' v.ownBlock → (∀ g, (Value.slice ao (d.length + l.length) c').ownBlock = some g → v.ownBlock = some g ∨ w.heap.size ≤ g) → wpList Tryd.prog ops Q rest (a.put o.dst (.slice ao (d.length + l.length) c')) w') : wpList Tryd.prog ops Q (o :: rest) a w := by
  have h : ∀ v' w', OwnBytes w' v' (d ++ l) → w.grownBy w' v.ownBlock → (∀ g, v'.ownBlock = some g → v.ownBlock = some g ∨ w.heap.size ≤ g) → wpList Tryd.prog ops Q rest (a.put o.dst v') w' := by
    intro v' w' h1 h2 h3
    obtain ⟨ao, c', rfl, _⟩ := h1.shape
    rw [List.length_append] at h1 h3 ⊢
    exact hK ao c' w' h1 h2 h3
  obtain ⟨i0, hi, hz0, hz1, hz2⟩ := info_parts byteInfo
  cases ad with
  | none =>
    obtain rfl := hnil rfl
    have hl : l = [] := by
      cases l with
      | nil => rfl
      | cons y l => obtain ⟨_, _, e, _⟩ := hat 0 (by simp); cases e
    subst hl
    refine wpList_append_own_none hgd s x 22 ho 0 5 i0 1 Tryd.underlying22 hi v d.length (Lib.byteCells d) hs hown hx ?_
    exact h v w (by rw [List.append_nil]; exact hown) ⟨rfl, rfl, rfl, Nat.le_refl _, fun _ _ _ => rfl⟩ (fun g hg => .inl hg)
  | some ad =>
    by_cases he : l = []
    · subst he
      refine wpList_append_fresh hgd s x 22 ho 5 i0 (.int .u8 0) 1 1 Tryd.underlying22 hi hz0 hz1 hz2 rfl (by decide) v d.length (Lib.byteCells d) hs hown ad 0 c [] hx rfl (by simp) (by simp) (by unfold maxLen; simp at hlen; omega) (by simpa using hlen) ?_
      intro v' w' h1 h2 h3
      exact h v' w' (by unfold OwnBytes; simpa using h1) h2 h3
    · obtain ⟨b, off, hab, _⟩ := hat 0 (List.length_pos_iff.2 he)
      injection hab with hab
      subst hab
      refine wpList_append_fresh hgd s x 22 ho 5 i0 (.int .u8 0) 1 1 Tryd.underlying22 hi hz0 hz1 hz2 rfl (by decide) v d.length (Lib.byteCells d) hs hown ⟨b, off, none⟩ l.length c (Lib.byteCells l) hx (by simp [byteCells_len]) hat.cells (byteCells_one l) (by unfold maxLen; omega) (by omega) ?_
      intro v' w' h1 h2 h3
      exact h v' w' (by unfold OwnBytes; rw [List.length_append, byteCells_app]; exact h1) h2 h3
end
end Go.Proofs.YtkfnebpooohflaaDoor
