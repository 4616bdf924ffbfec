/-
  Bytes appended to a row of the call's own, whatever slice they come from.
  A row of bytes that the call itself made, at or behind a base: append of one byte, of bytes, of a string; a row of texts that came in.
  Words of 32 bits: what the walk calls them, and what they are.
  Words read from bytes, and written as bytes.
  One block's sum, as plain mathematics over the words' own operations.
  The schedule's row of 64 words: how many are written, the rest nought.
  sync.Once in one goroutine: the lock, its release, and the store of 'done' in this program (after the guide's worked text on a value laid once).
  Rows of fields in memory.
-/
import Derived.Test.YtaimhfnddolilaaGreatDoorProg
import Derived.LoopTactic
import Derived.Outline
import Derived.WalkSpells
import Derived.WalkLawsBesides
import Derived.IntWalk
import Derived.Laws.BitsAllLaws
import Derived.Deep.QuietTactic
import Derived.BigQuiet
import Derived.Laws.IdiomStrings
import Derived.Laws.BytesString
import Derived.Defers
import Derived.Laws.Pointers
import Derived.Laws.LoneSync
import Derived.RegionTactic
import Derived.RegionCalls
import Derived.ChangeAlike
import Derived.Test.YtaimhfnddolilaaGreatDoorMg1
namespace Go.Proofs.YtaimhfnddolilaaGreatDoor
open Go.RowKit

theorem byteInfo : (Tryz.prog.info? 5).map (fun i => (i.zero, i.size, i.bytes)) = some (some (.int .u8 0), 1, 1) := by kernel_rfl

/-- The bytes d lie in a row of the call's own, which the slice value v holds. -/
def OwnBytes (w : World) (v : Value) (d : List UInt8) : Prop := w.ownsRow 0 5 1 v d.length (Lib.byteCells d)
theorem ownBytes_nil (w : World) : OwnBytes w (.slice none 0 0) [] := World.ownsRow_nil w 0 _ 1
theorem OwnBytes.shape {w : World} {v : Value} {d : List UInt8} (h : OwnBytes w v d) : ∃ a c, v = .slice a d.length c ∧ BytesAt w a d ∧ (a = none → c = 0) := by
  have h' := h
  rcases h.2 with ⟨hv, h2⟩ | ⟨g, cap, cur, hv, _⟩
  · refine ⟨none, 0, by rw [hv, h2], ?_, fun _ => rfl⟩
    have e : d = [] := List.eq_nil_of_length_eq_zero h2
    rw [e]; exact bytesAt_nil w _
  · unfold OwnBytes at h'
    rw [hv] at h'
    exact ⟨_, _, hv, bytesAt_own h', fun e => by cases e⟩
theorem OwnBytes.bytes {w : World} {a : Option Addr} {c n : Nat} {l : List UInt8} (h : OwnBytes w (.slice a n c) l) : BytesAt w a l ∧ (a = none → c = 0) := by
  obtain ⟨a', c', e, h1, h2⟩ := h.shape
  injection e with e1 e2 e3
  subst e1; subst e3
  exact ⟨h1, h2⟩
theorem OwnBytes.spares {F : Nat → Prop} {w w' : World} {v : Value} {d : List UInt8} (h : OwnBytes w v d) (hs : Spares F w w') (hn : ∀ g, v.ownBlock = some g → ¬ F g) : OwnBytes w' v d := hs.own h hn
theorem OwnBytes.lt {w : World} {v : Value} {d : List UInt8} (h : OwnBytes w v d) : ∀ g, v.ownBlock = some g → g < w.heap.size := fun g hg => (World.ownsRow.lt h g hg).2
/-- []byte as a string. -/
theorem conv_bytes {w : World} {a : Option Addr} {l : List UInt8} (h : BytesAt w a l) (c : Nat) : (convert 23 9 (.slice a l.length c)).run Tryz.prog w = .ok (.string ⟨l.toArray⟩) w := by
  by_cases he : l = []
  · subst he
    rw [run_convert_bytes_string w 23 9 5 a _ c Tryz.underlying23 Tryz.underlying5 Tryz.underlying9]
    cases a <;> simp [Conv.bytesToString, loadCells] <;> rfl
  · obtain ⟨b, off, rfl, _⟩ := h 0 (List.length_pos_iff.2 he)
    refine run_convert_bytes_back (P := Tryz.prog) w 23 9 5 ⟨b, off, none⟩ c l Tryz.underlying23 Tryz.underlying5 Tryz.underlying9 (fun j hj => ?_)
    have := h.cells j (.int .u8 l[j].toNat) (by unfold Lib.byteCells; rw [List.getElem?_map, List.getElem?_eq_getElem hj]; rfl)
    exact this
section
variable {w : World}
theorem wpList_append_bytes {ops : Array Oper} {rest : List Oper} {o : Oper} {a : Act} {Q : Exit → Act → World → Prop} (hgd : o.guard = none) (s x : Operand)
    (ho : o.op = .call { callee := .builtin .append, args := #[s, x], argTypes := #[23, 23] })
    (v : Value) (d : List UInt8) (hs : a.eval s = v) (hown : OwnBytes w v d)
    (ad : Option Addr) (c : Nat) (l : List UInt8) (hx : a.eval x = .slice ad l.length c) (hat : BytesAt w ad l) (hnil : ad = none → c = 0)
    (hlen : d.length + l.length ≤ 140737488355328)
    (hK : ∀ ao c' w', OwnBytes w' (.slice ao (d.length + l.length) c') (d ++ l) → w.grownBy w' v.ownBlock → (∀ g, (Value.slice ao (d.length + l.length) c').ownBlock = some g → v.ownBlock = some g ∨ w.heap.size ≤ g) → wpList Tryz.prog ops Q rest (a.put o.dst (.slice ao (d.length + l.length) c')) w') : wpList Tryz.prog ops Q (o :: rest) a w := by
  have h : ∀ v' w', OwnBytes w' v' (d ++ l) → w.grownBy w' v.ownBlock → (∀ g, v'.ownBlock = some g → v.ownBlock = some g ∨ w.heap.size ≤ g) → wpList Tryz.prog ops Q rest (a.put o.dst v') w' := by
    intro v' w' h1 h2 h3
    obtain ⟨ao, c', rfl, _⟩ := h1.shape
    rw [List.length_append] at h1 h3 ⊢
    exact hK ao c' w' h1 h2 h3
  obtain ⟨i0, hi, hz0, hz1, hz2⟩ := info_parts byteInfo
  cases ad with
  | none =>
    obtain rfl := hnil rfl
    have hl : l = [] := by
      cases l with
      | nil => rfl
      | cons y l => obtain ⟨_, _, e, _⟩ := hat 0 (by simp); cases e
    subst hl
    refine wpList_append_own_none hgd s x 23 ho 0 5 i0 1 Tryz.underlying23 hi v d.length (Lib.byteCells d) hs hown hx ?_
    exact h v w (by rw [List.append_nil]; exact hown) ⟨rfl, rfl, rfl, Nat.le_refl _, fun _ _ _ => rfl⟩ (fun g hg => .inl hg)
  | some ad =>
    by_cases he : l = []
    · subst he
      refine wpList_append_fresh hgd s x 23 ho 5 i0 (.int .u8 0) 1 1 Tryz.underlying23 hi hz0 hz1 hz2 rfl (by decide) v d.length (Lib.byteCells d) hs hown ad 0 c [] hx rfl (by simp) (by simp) (by unfold maxLen; simp at hlen; omega) (by simpa using hlen) ?_
      intro v' w' h1 h2 h3
      exact h v' w' (by unfold OwnBytes; simpa using h1) h2 h3
    · obtain ⟨b, off, hab, _⟩ := hat 0 (List.length_pos_iff.2 he)
      injection hab with hab
      subst hab
      refine wpList_append_fresh hgd s x 23 ho 5 i0 (.int .u8 0) 1 1 Tryz.underlying23 hi hz0 hz1 hz2 rfl (by decide) v d.length (Lib.byteCells d) hs hown ⟨b, off, none⟩ l.length c (Lib.byteCells l) hx (by simp [byteCells_len]) hat.cells (byteCells_one l) (by unfold maxLen; omega) (by omega) ?_
      intro v' w' h1 h2 h3
      exact h v' w' (by unfold OwnBytes; rw [List.length_append, byteCells_app]; exact h1) h2 h3
end
end Go.Proofs.YtaimhfnddolilaaGreatDoor
namespace Go.Proofs.YtaimhfnddolilaaGreatDoor
open Go.RowKit

def Row8 (B : Nat) (w : World) (v : Value) (d : List UInt8) : Prop := w.ownsRow B 5 1 v d.length (Lib.byteCells d)
theorem Row8.shape {B : Nat} {w : World} {v : Value} {d : List UInt8} (h : Row8 B w v d) : ∃ a c, v = .slice a d.length c ∧ BytesAt w a d ∧ (a = none → c = 0) ∧ d.length ≤ c := by
  have h' := h
  rcases h.2 with ⟨hv, h2⟩ | ⟨g, cap, cur, hv, _, _, hc, _⟩
  · refine ⟨none, 0, by rw [hv, h2], ?_, fun _ => rfl, by omega⟩
    have e : d = [] := List.eq_nil_of_length_eq_zero h2
    rw [e]; exact bytesAt_nil w _
  · unfold Row8 at h'
    rw [hv] at h'
    exact ⟨_, _, hv, bytesAt_own h', (fun e => by cases e), hc⟩
theorem Row8.lt {B : Nat} {w : World} {v : Value} {d : List UInt8} (h : Row8 B w v d) : ∀ g, v.ownBlock = some g → B ≤ g ∧ g < w.heap.size := World.ownsRow.lt h
theorem Row8.spares {B : Nat} {F : Nat → Prop} {w w' : World} {v : Value} {d : List UInt8} (h : Row8 B w v d) (hs : Spares F w w') (hn : ∀ g, v.ownBlock = some g → ¬ F g) : Row8 B w' v d := hs.own h hn
section
variable {w : World}
end
/-- A row of texts that came in. -/
def StrsAt (w : World) (a : Option Addr) (ps : List ByteArray) : Prop :=
  ∀ k (h : k < ps.length), ∃ b off, a = some ⟨b, off, none⟩ ∧ w.cell? ⟨b, off + k, none⟩ = some (.string ps[k])
theorem StrsAt.spares {F : Nat → Prop} {w w' : World} {a : Option Addr} {l : List ByteArray} (h : StrsAt w a l) (hs : Spares F w w') (hn : ∀ b off, a = some ⟨b, off, none⟩ → ¬ F b) : StrsAt w' a l := by
  intro k hk
  obtain ⟨b, off, rfl, hc⟩ := h k hk
  have hlt : b < w.heap.size := by
    rcases Nat.lt_or_ge b w.heap.size with h | h
    · exact h
    · simp [World.cell?, Array.getElem?_eq_none h] at hc
  exact ⟨b, off, rfl, (hs.cell (p := ⟨b, off + k, none⟩) hlt (hn _ _ rfl)).trans hc⟩
end Go.Proofs.YtaimhfnddolilaaGreatDoor
namespace Go.Proofs.YtaimhfnddolilaaGreatDoor
open Go.RowKit

def addW (x y : UInt32) : UInt32 := x + y
def xorW (x y : UInt32) : UInt32 := x ^^^ y
def andW (x y : UInt32) : UInt32 := x &&& y
def orW (x y : UInt32) : UInt32 := x ||| y
def notW (x : UInt32) : UInt32 := ~~~x
def shrW (x : UInt32) (n : Nat) : UInt32 := UInt32.ofNat (x.toNat / 2 ^ n)
def shlW (x : UInt32) (n : Nat) : UInt32 := UInt32.ofNat (x.toNat * 2 ^ n)
def rotW (x : UInt32) (n : Nat) : UInt32 := orW (shlW x (32 - n)) (shrW x n)

end Go.Proofs.YtaimhfnddolilaaGreatDoor
namespace Go.Proofs.YtaimhfnddolilaaGreatDoor
open Go.RowKit

theorem heap_set {w : World} {g : Nat} {t : TypeId} {cs : Array Value} (h : w.heap[g]? = some (.cells cs t (0, 0))) (i : Nat) (u : Value) : (w.setCell ⟨g, i, none⟩ u).heap[g]? = some (.cells (cs.setIfInBounds i u) t (0, 0)) := by
  simp [World.setCell, Array.getElem?_modify, h]
theorem spares_set {g : Nat} {w w' : World} (h : Spares (fun b => b = g) w w') (i : Nat) (u : Value) : Spares (fun b => b = g) w (w'.setCell ⟨g, i, none⟩ u) := h.setCell (p := ⟨g, i, none⟩) (.inl rfl) u
end Go.Proofs.YtaimhfnddolilaaGreatDoor
namespace Go.Proofs.YtaimhfnddolilaaGreatDoor

structure S8 where
  (a b c d e f g h : UInt32)
def bigE (x : UInt32) : UInt32 := xorW (xorW (rotW x 6) (rotW x 11)) (rotW x 25)
def bigA (x : UInt32) : UInt32 := xorW (xorW (rotW x 2) (rotW x 13)) (rotW x 22)
def choose3 (e f g : UInt32) : UInt32 := xorW (andW e f) (andW (notW e) g)
def most3 (a b c : UInt32) : UInt32 := xorW (xorW (andW a b) (andW a c)) (andW b c)
def oneW (s : S8) (k w : UInt32) : UInt32 := addW (addW (addW (addW s.h (bigE s.e)) (choose3 s.e s.f s.g)) k) w
def stepS (s : S8) (k w : UInt32) : S8 :=
  ⟨addW (addW (oneW s k w) (bigA s.a)) (most3 s.a s.b s.c), s.a, s.b, s.c, addW s.d (oneW s k w), s.e, s.f, s.g⟩
def addS (s t : S8) : S8 := ⟨addW s.a t.a, addW s.b t.b, addW s.c t.c, addW s.d t.d, addW s.e t.e, addW s.f t.f, addW s.g t.g, addW s.h t.h⟩
end Go.Proofs.YtaimhfnddolilaaGreatDoor
namespace Go.Proofs.YtaimhfnddolilaaGreatDoor

def v32 (x : UInt32) : Value := .int .u32 x.toNat
end Go.Proofs.YtaimhfnddolilaaGreatDoor
namespace Go.Proofs.YtaimhfnddolilaaGreatDoor
open Go.RowKit

theorem race_off (w : World) : (callFunc 145 #[]).run Tryz.prog w = .ok (.value (.tuple #[])) w := run_call_mark0 Tryz.func145 (by kernel_rfl) (by kernel_rfl) (by kernel_rfl) .disable (by kernel_rfl) w
theorem race_on (w : World) : (callFunc 147 #[]).run Tryz.prog w = .ok (.value (.tuple #[])) w := run_call_mark0 Tryz.func147 (by kernel_rfl) (by kernel_rfl) (by kernel_rfl) .enable (by kernel_rfl) w
theorem race_took (a : Addr) (w : World) : (callFunc 148 #[.pointer (some a)]).run Tryz.prog w = .ok (.value (.tuple #[])) w := run_call_marked Tryz.func148 (by kernel_rfl) (by kernel_rfl) (by kernel_rfl) .acquire (by kernel_rfl) a w
theorem race_gave (a : Addr) (w : World) : (callFunc 150 #[.pointer (some a)]).run Tryz.prog w = .ok (.value (.tuple #[])) w := run_call_marked Tryz.func150 (by kernel_rfl) (by kernel_rfl) (by kernel_rfl) .releaseMerge (by kernel_rfl) a w

theorem store_deferred (a : Addr) (x : Value) (u : FrameMode) (w : World) (hc : w.cell? a = some x) (hz : w.frozen? a = false) :
    CallsD Tryz.prog 123 #[.pointer (some a), .bool true] u w fun e u' w' => u' = u ∧ (e = .returned (.tuple #[]) ∧ w' = w.drew.setCell a (.int .u32 1)) := by
  have hc' : w.drew.cell? a = some x := by go_simp
  have hz' : w.drew.frozen? a = false := by go_simp
  have hst := run_call_store (P := Tryz.prog) Tryz.func135 (by kernel_rfl) (by kernel_rfl) (by kernel_rfl) (by kernel_rfl) (k := .u32) (y := 1) hc' hz'
  go_enter_d Tryz.func123, Tryz.ntmps123
  go_wp2
  go_region_calls
  all_goals (go_end0; exact ⟨rfl, rfl⟩)

set_option maxRecDepth 100000 in
theorem unlock_deferred (a : Addr) (u : FrameMode) (w : World) (hc : w.cell? a = some (.int .i32 1)) (hz : w.frozen? a = false) :
    CallsD Tryz.prog 122 #[.pointer (some a)] u w fun e u' w' => u' = u ∧ (e = .returned (.tuple #[]) ∧ w' = w.setCell a (.int .i32 0)) := by
  have hd := race_off
  have he := race_on
  have hr := race_gave
  have hadd := run_call_add (P := Tryz.prog) Tryz.func151 (by kernel_rfl) (by kernel_rfl) (by kernel_rfl) .i32 (by kernel_rfl) (y := -1) (s := 0) hc hz (by simp [go_sem]; rfl)
  have hcv := run_convert_to_unsafe (P := Tryz.prog) (src := 190) (dst := 150) Tryz.underlying190 Tryz.underlying150 (by kernel_rfl) hc
  go_enter_d Tryz.func122, Tryz.ntmps122
  go_wp2
  go_end0
  go_wp2
  go_end0
  exact ⟨rfl, rfl⟩

set_option maxRecDepth 100000 in
theorem lock_free (a : Addr) (w : World) (hc : w.cell? a = some (.int .i32 0)) (hz : w.frozen? a = false) :
    Calls Tryz.prog 121 #[.pointer (some a)] w fun e w' => e = .returned (.tuple #[]) ∧ w' = w.setCell a (.int .i32 1) := by
  have hd := race_off
  have he := race_on
  have ha := race_took
  have hcas := run_call_cas_hit (P := Tryz.prog) Tryz.func146 (by kernel_rfl) (by kernel_rfl) (by kernel_rfl) .i32 (by kernel_rfl) (y := 1) hc hz
  have hc' : (w.setCell a (.int .i32 1)).cell? a = some (.int .i32 1) := World.cell?_setCell_same w a _ hc
  have hcv := run_convert_to_unsafe (P := Tryz.prog) (src := 190) (dst := 150) Tryz.underlying190 Tryz.underlying150 (by kernel_rfl) hc'
  go_enter Tryz.func121, Tryz.ntmps121
  go_wp2
  first | go_end0 | (simp only [Exit.inBlock, Exit.then]; refine bodyPost_ret (results_none rfl _ _ _) rfl ?_) | refine bodyPost_ret (results_none rfl _ _ _) rfl ?_
  go_wp2
  go_end0
  exact ⟨rfl, rfl⟩
end Go.Proofs.YtaimhfnddolilaaGreatDoor
namespace Go.Proofs.YtaimhfnddolilaaGreatDoor
open Go.RowKit

/-- The slice that starts at a reads as the fields l. -/
def FieldsAt (w : World) (a : Option Addr) (l : List (ByteArray × ByteArray)) : Prop :=
  ∀ k (h : k < l.length), ∃ b off, a = some ⟨b, off, none⟩ ∧ w.cell? ⟨b, off + k * 2, none⟩ = some (.string l[k].1) ∧ w.cell? ⟨b, off + k * 2 + 1, none⟩ = some (.string l[k].2)
theorem cellOf_lt {w : World} {b o : Nat} {v : Value} (h : w.cell? ⟨b, o, none⟩ = some v) : b < w.heap.size := by
  rcases Nat.lt_or_ge b w.heap.size with h' | h'
  · exact h'
  · simp [World.cell?, Array.getElem?_eq_none h'] at h
theorem FieldsAt.lt {w : World} {a : Option Addr} {l : List (ByteArray × ByteArray)} (h : FieldsAt w a l) (hl : 0 < l.length) : ∃ b off, a = some ⟨b, off, none⟩ ∧ b < w.heap.size := by
  obtain ⟨b, off, e, h1, _⟩ := h 0 hl
  exact ⟨b, off, e, cellOf_lt h1⟩
def fieldCells (l : List (ByteArray × ByteArray)) : List Value := l.flatMap fun f => [.string f.1, .string f.2]
theorem fieldCells_at : ∀ (l : List (ByteArray × ByteArray)) (k : Nat) (h : k < l.length), (fieldCells l)[k * 2]? = some (.string l[k].1) ∧ (fieldCells l)[k * 2 + 1]? = some (.string l[k].2)
  | [], _, h => absurd h (Nat.not_lt_zero _)
  | x :: l, 0, _ => by simp [fieldCells]
  | x :: l, k + 1, h => by
    have ih := fieldCells_at l k (by simpa using h)
    have e : ∀ j, (fieldCells (x :: l))[j + 2]? = (fieldCells l)[j]? := fun j => by simp [fieldCells]
    rw [show (k + 1) * 2 = k * 2 + 2 by omega, e, show k * 2 + 2 + 1 = (k * 2 + 1) + 2 by omega, e]
    simpa using ih
/-- The fields l lie in a row of the call's own, which the slice value v holds. -/
def OwnFields (w : World) (v : Value) (l : List (ByteArray × ByteArray)) : Prop := w.ownsRow 0 43 2 v l.length (fieldCells l)
theorem OwnFields.lt {w : World} {v : Value} {l : List (ByteArray × ByteArray)} (h : OwnFields w v l) : ∀ g, v.ownBlock = some g → g < w.heap.size := fun g hg => (World.ownsRow.lt h g hg).2
end Go.Proofs.YtaimhfnddolilaaGreatDoor
