/-
  Bytes appended to a row of the call's own, whatever slice they come from.
  A row of bytes that the call itself made, at or behind a base: append of one byte, of bytes, of a string; a row of texts that came in.
  Words of 32 bits: what the walk calls them, and what they are.
  Words read from bytes, and written as bytes.
  One block's sum, as plain mathematics over the words' own operations.
  The schedule's row of 64 words: how many are written, the rest nought.
  sync.Once in one goroutine: the lock, its release, and the store of 'done' in this program (after the guide's worked text on a value laid once).
  Rows of fields in memory.
-/
import Derived.Test.YtgfinhkplijhbaaGreatDoorProg
import Derived.LoopTactic
import Derived.Outline
import Derived.WalkSpells
import Derived.WalkLawsBesides
import Derived.IntWalk
import Derived.Laws.BitsAllLaws
import Derived.Deep.QuietTactic
import Derived.BigQuiet
import Derived.Laws.IdiomStrings
import Derived.Laws.BytesString
import Derived.Defers
import Derived.Laws.Pointers
import Derived.Laws.LoneSync
import Derived.RegionTactic
import Derived.RegionCalls
import Derived.ChangeAlike
import Derived.Test.YtgfinhkplijhbaaGreatDoorMg1
namespace Go.Proofs.YtgfinhkplijhbaaGreatDoor
open Go.RowKit

theorem byteInfo : (Tryz.prog.info? 5).map (fun i => (i.zero, i.size, i.bytes)) = some (some (.int .u8 0), 1, 1) := by kernel_rfl

/-- The bytes d lie in a row of the call's own, which the slice value v holds. -/
def OwnBytes (w : World) (v : Value) (d : List UInt8) : Prop := w.ownsRow 0 5 1 v d.length (Lib.byteCells d)
theorem ownBytes_nil (w : World) : OwnBytes w (.slice none 0 0) [] := World.ownsRow_nil w 0 _ 1
theorem OwnBytes.shape {w : World} {v : Value} {d : List UInt8} (h : OwnBytes w v d) : ∃ a c, v = .slice a d.length c ∧ BytesAt w a d ∧ (a = none → c = 0) := by
  have h' := h
  rcases h.2 with ⟨hv, h2⟩ | ⟨g, cap, cur, hv, _⟩
  · refine ⟨none, 0, by rw [hv, h2], ?_, fun _ => rfl⟩
    have e : d = [] := List.eq_nil_of_length_eq_zero h2
    rw [e]; exact bytesAt_nil w _
  · unfold OwnBytes at h'
    rw [hv] at h'
    exact ⟨_, _, hv, bytesAt_own h', fun e => by cases e⟩
theorem OwnBytes.bytes {w : World} {a : Option Addr} {c n : Nat} {l : List UInt8} (h : OwnBytes w (.slice a n c) l) : BytesAt w a l ∧ (a = none → c = 0) := by
  obtain ⟨a', c', e, h1, h2⟩ := h.shape
  injection e with e1 e2 e3
  subst e1; subst e3
  exact ⟨h1, h2⟩
theorem OwnBytes.spares {F : Nat → Prop} {w w' : World} {v : Value} {d : List UInt8} (h : OwnBytes w v d) (hs : Spares F w w') (hn : ∀ g, v.ownBlock = some g → ¬ F g) : OwnBytes w' v d := hs.own h hn
theorem OwnBytes.lt {w : World} {v : Value} {d : List UInt8} (h : OwnBytes w v d) : ∀ g, v.ownBlock = some g → g < w.heap.size := fun g hg => (World.ownsRow.lt h g hg).2
/-- []byte as a string. -/
theorem conv_bytes {w : World} {a : Option Addr} {l : List UInt8} (h : BytesAt w a l) (c : Nat) : (convert 23 9 (.slice a l.length c)).run Tryz.prog w = .ok (.string ⟨l.toArray⟩) w := by
  by_cases he : l = []
  · subst he
    rw [run_convert_bytes_string w 23 9 5 a _ c Tryz.underlying23 Tryz.underlying5 Tryz.underlying9]
    cases a <;> simp [Conv.bytesToString, loadCells] <;> rfl
  · obtain ⟨b, off, rfl, _⟩ := h 0 (List.length_pos_iff.2 he)
    refine run_convert_bytes_back (P := Tryz.prog) w 23 9 5 ⟨b, off, none⟩ c l Tryz.underlying23 Tryz.underlying5 Tryz.underlying9 (fun j hj => ?_)
    have := h.cells j (.int .u8 l[j].toNat) (by unfold Lib.byteCells; rw [List.getElem?_map, List.getElem?_eq_getElem hj]; rfl)
    exact this
section
variable {w : World}
theorem wpList_append_bytes {ops : Array Oper} {rest : List Oper} {o : Oper} {a : Act} {Q : Exit → Act → World → Prop} (hgd : o.guard = none) (s x : Operand)
    (ho : o.op = .call { callee := .builtin .append, args := #[s, x], argTypes := #[23, 23] })
    (v : Value) (d : List UInt8) (hs : a.eval s = v) (hown : OwnBytes w v d)
    (ad : Option Addr) (c : Nat) (l : List UInt8) (hx : a.eval x = .slice ad l.length c) (hat : BytesAt w ad l) (hnil : ad = none → c = 0)
    (hlen : d.length + l.length ≤ 140737488355328)
    (hK : ∀ ao c' w', OwnBytes w' (.slice ao (d.length + l.length) c') (d ++ l) → w.grownBy w' v.ownBlock → (∀ g, (Value.slice ao (d.length + l.length) c').ownBlock = some g → v.ownBlock = some g ∨ w.heap.size ≤ g) → wpList Tryz.prog ops Q rest (a.put o.dst (.slice ao (d.length + l.length) c')) w') : wpList Tryz.prog ops Q (o :: rest) a w := by
  have h : ∀ v' w', OwnBytes w' v' (d ++ l) → w.grownBy w' v.ownBlock → (∀ g, v'.ownBlock = some g → v.ownBlock = some g ∨ w.heap.size ≤ g) → wpList Tryz.prog ops Q rest (a.put o.dst v') w' := by
    intro v' w' h1 h2 h3
    obtain ⟨ao, c', rfl, _⟩ := h1.shape
    rw [List.length_append] at h1 h3 ⊢
    exact hK ao c' w' h1 h2 h3
  obtain ⟨i0, hi, hz0, hz1, hz2⟩ := info_parts byteInfo
  cases ad with
  | none =>
    obtain rfl := hnil rfl
    have hl : l = [] := by
      cases l with
      | nil => rfl
      | cons y l => obtain ⟨_, _, e, _⟩ := hat 0 (by simp); cases e
    subst hl
    refine wpList_append_own_none hgd s x 23 ho 0 5 i0 1 Tryz.underlying23 hi v d.length (Lib.byteCells d) hs hown hx ?_
    exact h v w (by rw [List.append_nil]; exact hown) ⟨rfl, rfl, rfl, Nat.le_refl _, fun _ _ _ => rfl⟩ (fun g hg => .inl hg)
  | some ad =>
    by_cases he : l = []
    · subst he
      refine wpList_append_fresh hgd s x 23 ho 5 i0 (.int .u8 0) 1 1 Tryz.underlying23 hi hz0 hz1 hz2 rfl (by decide) v d.length (Lib.byteCells d) hs hown ad 0 c [] hx rfl (by simp) (by simp) (by unfold maxLen; simp at hlen; omega) (by simpa using hlen) ?_
      intro v' w' h1 h2 h3
      exact h v' w' (by unfold OwnBytes; simpa using h1) h2 h3
    · obtain ⟨b, off, hab, _⟩ := hat 0 (List.length_pos_iff.2 he)
      injection hab with hab
      subst hab
      refine wpList_append_fresh hgd s x 23 ho 5 i0 (.int .u8 0) 1 1 Tryz.underlying23 hi hz0 hz1 hz2 rfl (by decide) v d.length (Lib.byteCells d) hs hown ⟨b, off, none⟩ l.length c (Lib.byteCells l) hx (by simp [byteCells_len]) hat.cells (byteCells_one l) (by unfold maxLen; omega) (by omega) ?_
      intro v' w' h1 h2 h3
      exact h v' w' (by unfold OwnBytes; rw [List.length_append, byteCells_app]; exact h1) h2 h3
end
end Go.Proofs.YtgfinhkplijhbaaGreatDoor
namespace Go.Proofs.YtgfinhkplijhbaaGreatDoor
open Go.RowKit

def Row8 (B : Nat) (w : World) (v : Value) (d : List UInt8) : Prop := w.ownsRow B 5 1 v d.length (Lib.byteCells d)
theorem row8_nil (B : Nat) (w : World) : Row8 B w (.slice none 0 0) [] := World.ownsRow_nil w B _ 1
theorem Row8.shape {B : Nat} {w : World} {v : Value} {d : List UInt8} (h : Row8 B w v d) : ∃ a c, v = .slice a d.length c ∧ BytesAt w a d ∧ (a = none → c = 0) ∧ d.length ≤ c := by
  have h' := h
  rcases h.2 with ⟨hv, h2⟩ | ⟨g, cap, cur, hv, _, _, hc, _⟩
  · refine ⟨none, 0, by rw [hv, h2], ?_, fun _ => rfl, by omega⟩
    have e : d = [] := List.eq_nil_of_length_eq_zero h2
    rw [e]; exact bytesAt_nil w _
  · unfold Row8 at h'
    rw [hv] at h'
    exact ⟨_, _, hv, bytesAt_own h', (fun e => by cases e), hc⟩
theorem Row8.lt {B : Nat} {w : World} {v : Value} {d : List UInt8} (h : Row8 B w v d) : ∀ g, v.ownBlock = some g → B ≤ g ∧ g < w.heap.size := World.ownsRow.lt h
theorem Row8.spares {B : Nat} {F : Nat → Prop} {w w' : World} {v : Value} {d : List UInt8} (h : Row8 B w v d) (hs : Spares F w w') (hn : ∀ g, v.ownBlock = some g → ¬ F g) : Row8 B w' v d := hs.own h hn
def atLeast (B : Nat) : Nat → Prop := fun b => B ≤ b
section
variable {w : World}
theorem row8_grown {B : Nat} {v : Value} {d : List UInt8} {w' : World} (h : Row8 B w v d) (hg : w.grownBy w' v.ownBlock) : Spares (atLeast B) w w' :=
  (Spares.refl _ w).grown hg fun k hk => .inl (h.lt k hk).1
/-- append(v, x...) of bytes. -/
theorem wpList_row_bytes {ops : Array Oper} {rest : List Oper} {o : Oper} {a : Act} {Q : Exit → Act → World → Prop} (hgd : o.guard = none) (s x : Operand)
    (ho : o.op = .call { callee := .builtin .append, args := #[s, x], argTypes := #[23, 23] })
    (B : Nat) (v : Value) (d : List UInt8) (hs : a.eval s = v) (hown : Row8 B w v d)
    (ad : Option Addr) (c n : Nat) (l : List UInt8) (hx : a.eval x = .slice ad n c) (hn : n = l.length) (hat : BytesAt w ad l) (hnil : ad = none → c = 0)
    (hlen : d.length + n ≤ 140737488355328) (hB : B ≤ w.heap.size)
    (hK : ∀ v' w', Row8 B w' v' (d ++ l) → Spares (atLeast B) w w' → wpList Tryz.prog ops Q rest (a.put o.dst v') w') : wpList Tryz.prog ops Q (o :: rest) a w := by
  subst hn
  obtain ⟨i0, hi, hz0, hz1, hz2⟩ := info_parts byteInfo
  cases ad with
  | none =>
    obtain rfl := hnil rfl
    have hl : l = [] := by
      cases l with
      | nil => rfl
      | cons y l => obtain ⟨_, _, e, _⟩ := hat 0 (by simp); cases e
    subst hl
    refine wpList_append_own_none hgd s x 23 ho B 5 i0 1 Tryz.underlying23 hi v d.length (Lib.byteCells d) hs hown hx ?_
    exact hK v w (by rw [List.append_nil]; exact hown) (Spares.refl _ _)
  | some ad =>
    by_cases he : l = []
    · subst he
      refine wpList_append_own w hgd s x 23 ho B 5 i0 (.int .u8 0) 1 1 Tryz.underlying23 hi hz0 hz1 hz2 rfl (by decide) v d.length (Lib.byteCells d) hs hown ad 0 c [] hx rfl (by simp) (by simp) (by unfold maxLen; simp at hlen; omega) (by simpa using hlen) hB ?_
      intro v' w' h1 h2 h3
      exact hK v' w' (by unfold Row8; simpa using h1) (row8_grown hown h2)
    · obtain ⟨b, off, hab, _⟩ := hat 0 (List.length_pos_iff.2 he)
      injection hab with hab
      subst hab
      refine wpList_append_own w hgd s x 23 ho B 5 i0 (.int .u8 0) 1 1 Tryz.underlying23 hi hz0 hz1 hz2 rfl (by decide) v d.length (Lib.byteCells d) hs hown ⟨b, off, none⟩ l.length c (Lib.byteCells l) hx (by simp [byteCells_len]) hat.cells (byteCells_one l) (by unfold maxLen; omega) (by omega) hB ?_
      intro v' w' h1 h2 h3
      exact hK v' w' (by unfold Row8; rw [List.length_append, byteCells_app]; exact h1) (row8_grown hown h2)
/-- append(v, x...) of a string. -/
theorem wpList_row_str {ops : Array Oper} {rest : List Oper} {o : Oper} {a : Act} {Q : Exit → Act → World → Prop} (hgd : o.guard = none) (s x : Operand)
    (ho : o.op = .call { callee := .builtin .append, args := #[s, x], argTypes := #[23, 9] })
    (B : Nat) (v : Value) (d : List UInt8) (hs : a.eval s = v) (hown : Row8 B w v d)
    (t : ByteArray) (hx : a.eval x = .string t) (hlen : d.length + t.size ≤ 140737488355328) (hB : B ≤ w.heap.size)
    (hK : ∀ v' w', Row8 B w' v' (d ++ t.data.toList) → Spares (atLeast B) w w' → wpList Tryz.prog ops Q rest (a.put o.dst v') w') : wpList Tryz.prog ops Q (o :: rest) a w := by
  obtain ⟨i0, hi, hz0, hz1, hz2⟩ := info_parts byteInfo
  refine Lib.wpList_append_own_string w hgd s x 23 9 ho B 5 i0 Tryz.underlying23 Tryz.underlying9 hi hz0 hz1 hz2 v d.length (Lib.byteCells d) hs hown t hx (by unfold maxLen; omega) (by omega) hB ?_
  intro v' w' h1 h2 h3
  refine hK v' w' ?_ (row8_grown hown h2)
  unfold Row8
  rw [List.length_append, byteCells_app]
  have e : t.data.toList.length = t.size := by rw [Array.length_toList]; rfl
  rw [e]
  exact h1
/-- append(v, x) of one byte: the row of one is made just before. -/
theorem wpList_row_one {ops : Array Oper} {rest : List Oper} {o : Oper} {a : Act} {Q : Exit → Act → World → Prop} (hgd : o.guard = none) (s y : Operand)
    (ho : o.op = .call { callee := .builtin .append, args := #[s, y], argTypes := #[23, 23] })
    (B : Nat) (v : Value) (d : List UInt8) (hs : a.eval s = v) (hown : Row8 B w v d) (x : UInt8) (X : Int)
    (hy : a.eval y = .slice (some ⟨w.heap.size, 0, none⟩) 1 1) (hX : X = (x.toNat : Int)) (hlen : d.length + 1 ≤ 140737488355328) (hB : B ≤ w.heap.size)
    (hK : ∀ v' w', Row8 B w' v' (d ++ [x]) → Spares (atLeast B) w w' → wpList Tryz.prog ops Q rest (a.put o.dst v') w') : wpList Tryz.prog ops Q (o :: rest) a (w.alloc (.cells #[.int .u8 X] 5)) := by
  subst hX
  have hs1 : Spares nowhere w (w.alloc (.cells #[.int .u8 (x.toNat : Int)] 5)) := (Spares.refl _ _).alloc _
  refine wpList_row_bytes hgd s y ho B v d hs (hown.spares hs1 (fun _ _ h => h)) (some ⟨w.heap.size, 0, none⟩) 1 1 [x] hy rfl ?_ (fun e => by cases e) hlen (Nat.le_trans hB hs1.size) ?_
  · intro k hk
    obtain rfl : k = 0 := by simpa using hk
    exact ⟨w.heap.size, 0, rfl, (Lib.cell_of_heap (heap_alloc_new w _) 0).trans rfl⟩
  · intro v' w' h1 h2
    exact hK v' w' h1 ((hs1.mono (fun _ h => by cases h)).trans h2)
/-- make([]byte, 0, n). -/
theorem wpList_make_row {ops : Array Oper} {rest : List Oper} {o : Oper} {a : Act} {Q : Exit → Act → World → Prop} (hgd : o.guard = none) (c : Operand) (l : Operand) (hop : o.op = Op.makeSlice 23 l c)
    (B : Nat) (kl kc : IntKind) (C : Int) (n : Nat) (hl : a.eval l = .int kl 0) (hc : a.eval c = .int kc C) (hC : C = (n : Int)) (hn : n ≤ 140737488355328) (hB : B ≤ w.heap.size)
    (hK : ∀ v' w', Row8 B w' v' [] → Spares nowhere w w' → wpList Tryz.prog ops Q rest (a.put o.dst v') w') : wpList Tryz.prog ops Q (o :: rest) a w := by
  obtain ⟨i0, hi, hz0, hz1, hz2⟩ := info_parts byteInfo
  refine wpList_make_own w hgd l c 23 hop B 5 i0 (.int .u8 0) 1 Tryz.underlying23 hi hz0 hz1 kl kc C n hl hc hC (by rw [hz2]; omega) (by unfold maxLen; omega) hB ?_
  intro w' h1 h2
  exact hK _ w' h1 ((Spares.refl _ w).grown h2 fun k hk => by cases hk)
end
/-- A row of texts that came in. -/
def StrsAt (w : World) (a : Option Addr) (ps : List ByteArray) : Prop :=
  ∀ k (h : k < ps.length), ∃ b off, a = some ⟨b, off, none⟩ ∧ w.cell? ⟨b, off + k, none⟩ = some (.string ps[k])
theorem StrsAt.spares {F : Nat → Prop} {w w' : World} {a : Option Addr} {l : List ByteArray} (h : StrsAt w a l) (hs : Spares F w w') (hn : ∀ b off, a = some ⟨b, off, none⟩ → ¬ F b) : StrsAt w' a l := by
  intro k hk
  obtain ⟨b, off, rfl, hc⟩ := h k hk
  have hlt : b < w.heap.size := by
    rcases Nat.lt_or_ge b w.heap.size with h | h
    · exact h
    · simp [World.cell?, Array.getElem?_eq_none h] at hc
  exact ⟨b, off, rfl, (hs.cell (p := ⟨b, off + k, none⟩) hlt (hn _ _ rfl)).trans hc⟩
end Go.Proofs.YtgfinhkplijhbaaGreatDoor
namespace Go.Proofs.YtgfinhkplijhbaaGreatDoor
open Go.RowKit

def addW (x y : UInt32) : UInt32 := x + y
def xorW (x y : UInt32) : UInt32 := x ^^^ y
def andW (x y : UInt32) : UInt32 := x &&& y
def orW (x y : UInt32) : UInt32 := x ||| y
def notW (x : UInt32) : UInt32 := ~~~x
def shrW (x : UInt32) (n : Nat) : UInt32 := UInt32.ofNat (x.toNat / 2 ^ n)
def shlW (x : UInt32) (n : Nat) : UInt32 := UInt32.ofNat (x.toNat * 2 ^ n)
def rotW (x : UInt32) (n : Nat) : UInt32 := orW (shlW x (32 - n)) (shrW x n)

theorem u32_ofNat (n : Nat) : (UInt32.ofNat n).toNat = n % 4294967296 := by rw [UInt32.toNat_ofNat']
theorem lt32 (x : UInt32) : x.toNat < 4294967296 := x.toNat_lt
theorem addW_int (x y : UInt32) : ((x.toNat : Int) + (y.toNat : Int)) % 4294967296 = ((addW x y).toNat : Int) := by
  unfold addW; rw [UInt32.toNat_add]; omega
theorem addW_wrap (x y : UInt32) : IntKind.u32.wrap ((x.toNat : Int) + (y.toNat : Int)) = ((addW x y).toNat : Int) := by
  rw [IntKind.wrap_u32]; exact addW_int x y
theorem xorW_int (x y : UInt32) : Go.bits .xor .u32 (x.toNat : Int) (y.toNat : Int) = ((xorW x y).toNat : Int) := by
  rw [u32_xor_nat _ _ (lt32 x) (lt32 y)]; unfold xorW; rw [UInt32.toNat_xor]
theorem andW_int (x y : UInt32) : Go.bits .and .u32 (x.toNat : Int) (y.toNat : Int) = ((andW x y).toNat : Int) := by
  rw [u32_and_nat _ _ (lt32 x) (lt32 y)]; unfold andW; rw [UInt32.toNat_and]
theorem orW_int (x y : UInt32) : Go.bits .or .u32 (x.toNat : Int) (y.toNat : Int) = ((orW x y).toNat : Int) := by
  rw [u32_or_nat _ _ (lt32 x) (lt32 y)]; unfold orW; rw [UInt32.toNat_or]
theorem notW_int (x : UInt32) : Go.bits .xor .u32 4294967295 (x.toNat : Int) = ((notW x).toNat : Int) := by
  have := u32_xor_nat 4294967295 x.toNat (by decide) (lt32 x)
  rw [show ((4294967295 : Nat) : Int) = 4294967295 from rfl] at this
  rw [this]
  unfold notW
  congr 1
theorem shrW_int (x : UInt32) (n : Nat) : (x.toNat : Int) / 2 ^ n = ((shrW x n).toNat : Int) := by
  unfold shrW
  have h : x.toNat / 2 ^ n < 4294967296 := Nat.lt_of_le_of_lt (Nat.div_le_self _ _) (lt32 x)
  rw [u32_ofNat, Nat.mod_eq_of_lt h]
  simp
theorem shlW_int (x : UInt32) (n : Nat) : IntKind.u32.wrap ((x.toNat : Int) * 2 ^ n) = ((shlW x n).toNat : Int) := by
  unfold shlW
  rw [u32_ofNat, IntKind.wrap_u32]
  simp

theorem back64 (k : Nat) (h0 : 0 < k) (hk : k < 32) : ∃ M : Nat, IntKind.u64.wrap (-(k : Int)) = (M : Int) ∧ Go.bits .and .u64 (M : Int) 31 = ((32 - k : Nat) : Int) := by
  refine ⟨18446744073709551616 - k, ?_, ?_⟩
  · rw [IntKind.wrap_u64]; omega
  · have h := u64_and_nat (18446744073709551616 - k) 31 (by omega) (by omega)
    rw [nat_mask5] at h
    rw [show ((31 : Nat) : Int) = 31 from rfl] at h
    rw [h]
    omega
/-- bits.RotateLeft32(x, -k). -/
theorem rotl_any (x : UInt32) (k : Nat) (n : Int) (hn : n = -(k : Int)) (h0 : 0 < k) (hk : k < 32) (w : World) :
    Calls Tryz.prog 127 #[.int .u32 x.toNat, .int .i64 n] w fun e w' => e = .returned (.int .u32 (rotW x k).toNat) ∧ w = w' := by
  obtain ⟨M, g1, g2⟩ := back64 k h0 hk
  rw [← hn] at g1
  obtain ⟨j, hj⟩ : ∃ j, 32 - k = j := ⟨_, rfl⟩
  rw [hj] at g2
  have g3 : (32 : Int) - (j : Int) = (k : Int) := by omega
  have hj1 : (j : Int) ≤ 31 := by omega
  have g4 := shlW_int x j
  have g5 := shrW_int x k
  obtain ⟨a, ha⟩ : ∃ a, shlW x j = a := ⟨_, rfl⟩
  obtain ⟨b, hb⟩ : ∃ b, shrW x k = b := ⟨_, rfl⟩
  rw [ha] at g4
  rw [hb] at g5
  have g6 := orW_int a b
  have HE : Hid (orW a b = rotW x k) := Lib.hid (by unfold rotW; rw [hj, ha, hb])
  clear hn hj ha hb
  go_enter Tryz.func127, Tryz.ntmps127
  go_wp2
  go_ret
  exact ⟨by rw [← HE.out]; rfl, rfl⟩

/-- The reference's turn(x, k). -/
theorem turn_any (x : UInt32) (k : Nat) (h0 : 0 < k) (hk : k < 32) (w : World) :
    Calls Tryz.prog 87 #[.int .u32 x.toNat, .int .i64 k] w fun e w' => e = .returned (.int .u32 (rotW x k).toNat) ∧ ∃ n, w' = w.drewN n := by
  obtain ⟨j, hj⟩ : ∃ j, 32 - k = j := ⟨_, rfl⟩
  have g3 : (32 : Int) - (k : Int) = (j : Int) := by omega
  have g3' : IntKind.i64.wrap ((32 : Int) - (k : Int)) = (j : Int) := by rw [IntWalk.i64_in _ (by omega)]; omega
  have hj1 : (j : Int) ≤ 31 := by omega
  have hj0 : (0 : Int) ≤ (j : Int) := by omega
  have hk0 : (0 : Int) ≤ (k : Int) := by omega
  have g4 := shlW_int x j
  have g5 := shrW_int x k
  obtain ⟨a, ha⟩ : ∃ a, shlW x j = a := ⟨_, rfl⟩
  obtain ⟨b, hb⟩ : ∃ b, shrW x k = b := ⟨_, rfl⟩
  rw [ha] at g4
  rw [hb] at g5
  have g6 := orW_int b a
  have HE : Hid (orW b a = rotW x k) := Lib.hid (by unfold rotW; rw [hj, ha, hb]; unfold orW; rw [UInt32.or_comm])
  clear hj ha hb
  go_enter Tryz.func87, Tryz.ntmps87
  go_wp2
  go_quiet (fail)
  go_wp2
  go_ret
  exact ⟨by rw [← HE.out]; rfl, _, rfl⟩
end Go.Proofs.YtgfinhkplijhbaaGreatDoor
namespace Go.Proofs.YtgfinhkplijhbaaGreatDoor
open Go.RowKit

def beW (a b c d : UInt8) : UInt32 := UInt32.ofNat (a.toNat * 16777216 + b.toNat * 65536 + c.toNat * 256 + d.toNat)

theorem beW_int (a b c d : UInt8) : Go.bits .or .u32 (Go.bits .or .u32 (Go.bits .or .u32 ((a.toNat : Int) * 16777216) ((b.toNat : Int) * 65536)) ((c.toNat : Int) * 256)) (d.toNat : Int) = ((beW a b c d).toNat : Int) := by
  have ha := a.toNat_lt
  have hb := b.toNat_lt
  have hc := c.toNat_lt
  have hd := d.toNat_lt
  rw [show (a.toNat : Int) * 16777216 = ((a.toNat * 16777216 : Nat) : Int) by simp, show (b.toNat : Int) * 65536 = ((b.toNat * 65536 : Nat) : Int) by simp, show (c.toNat : Int) * 256 = ((c.toNat * 256 : Nat) : Int) by simp]
  rw [u32_or_nat _ _ (by omega) (by omega), nat_join 24 _ _ (by omega) (by omega), u32_or_nat _ _ (by omega) (by omega), nat_join 16 _ _ (by omega) (by omega), u32_or_nat _ _ (by omega) (by omega), nat_join 8 _ _ (by omega) (by omega)]
  unfold beW
  rw [u32_ofNat, Nat.mod_eq_of_lt (by omega)]

theorem heap_set {w : World} {g : Nat} {t : TypeId} {cs : Array Value} (h : w.heap[g]? = some (.cells cs t (0, 0))) (i : Nat) (u : Value) : (w.setCell ⟨g, i, none⟩ u).heap[g]? = some (.cells (cs.setIfInBounds i u) t (0, 0)) := by
  simp [World.setCell, Array.getElem?_modify, h]
set_option maxRecDepth 100000 in
theorem word_any (x0 x1 x2 x3 : UInt8) (b off n c : Nat) (w : World) (hn : 4 ≤ n) (h0 : w.cell? ⟨b, off, none⟩ = some (.int .u8 x0.toNat)) (h1 : w.cell? ⟨b, off + 1, none⟩ = some (.int .u8 x1.toNat)) (h2 : w.cell? ⟨b, off + 2, none⟩ = some (.int .u8 x2.toNat)) (h3 : w.cell? ⟨b, off + 3, none⟩ = some (.int .u8 x3.toNat)) :
    Calls Tryz.prog 126 #[.slice (some ⟨b, off, none⟩) n c] w fun e w' => e = .returned (.int .u32 (beW x0 x1 x2 x3).toNat) ∧ ∃ n, w' = w.drewN n := by
  have l0 := x0.toNat_lt
  have l1 := x1.toNat_lt
  have l2 := x2.toNat_lt
  have l3 := x3.toNat_lt
  have i0 : (0 : Int) < (n : Int) := by omega
  have i1 : (1 : Int) < (n : Int) := by omega
  have i2 : (2 : Int) < (n : Int) := by omega
  have i3 : (3 : Int) < (n : Int) := by omega
  go_enter Tryz.func126, Tryz.ntmps126
  go_wp2
  go_quiet (fail)
  go_wp2
  go_ret
  exact ⟨by rw [← beW_int]; rfl, _, rfl⟩

def byW (x : UInt32) (i : Nat) : UInt8 := UInt8.ofNat (x.toNat / 256 ^ (3 - i))
theorem byW_int (x : UInt32) : ((x.toNat : Int) / 16777216) % 256 = ((byW x 0).toNat : Int) ∧ ((x.toNat : Int) / 65536) % 256 = ((byW x 1).toNat : Int) ∧ ((x.toNat : Int) / 256) % 256 = ((byW x 2).toNat : Int) ∧ (x.toNat : Int) % 256 = ((byW x 3).toNat : Int) := by
  unfold byW
  simp only [UInt8.toNat_ofNat']
  refine ⟨?_, ?_, ?_, ?_⟩ <;> simp
def byCell (x : UInt32) (i : Nat) : Value := .int .u8 (byW x i).toNat
def put4 (w : World) (g off : Nat) (x : UInt32) : World := (((w.setCell ⟨g, off, none⟩ (byCell x 0)).setCell ⟨g, off + 1, none⟩ (byCell x 1)).setCell ⟨g, off + 2, none⟩ (byCell x 2)).setCell ⟨g, off + 3, none⟩ (byCell x 3)
def set4 (cs : Array Value) (off : Nat) (x : UInt32) : Array Value := (((cs.setIfInBounds off (byCell x 0)).setIfInBounds (off + 1) (byCell x 1)).setIfInBounds (off + 2) (byCell x 2)).setIfInBounds (off + 3) (byCell x 3)
theorem put4_heap {w : World} {g : Nat} {t : TypeId} {cs : Array Value} (h : w.heap[g]? = some (.cells cs t (0, 0))) (off : Nat) (x : UInt32) : (put4 w g off x).heap[g]? = some (.cells (set4 cs off x) t (0, 0)) :=
  heap_set (heap_set (heap_set (heap_set h off _) (off + 1) _) (off + 2) _) (off + 3) _
theorem spares_set {g : Nat} {w w' : World} (h : Spares (fun b => b = g) w w') (i : Nat) (u : Value) : Spares (fun b => b = g) w (w'.setCell ⟨g, i, none⟩ u) := h.setCell (p := ⟨g, i, none⟩) (.inl rfl) u
theorem put4_spares (w : World) (g off : Nat) (x : UInt32) : Spares (fun b => b = g) w (put4 w g off x) :=
  spares_set (spares_set (spares_set (spares_set (Spares.refl _ w) off _) (off + 1) _) (off + 2) _) (off + 3) _
set_option maxRecDepth 100000 in
theorem putWord_any (x : UInt32) (g off n c : Nat) (cs : Array Value) (t : TypeId) (w : World) (hn : 4 ≤ n) (hg : w.heap[g]? = some (.cells cs t (0, 0))) (hs : off + 4 ≤ cs.size) :
    Calls Tryz.prog 64 #[.slice (some ⟨g, off, none⟩) n c, .int .u32 x.toNat] w fun e w' => e = .returned (.tuple #[]) ∧ w' = put4 w g off x := by
  have i0 : (0 : Int) < (n : Int) := by omega
  have i1 : (1 : Int) < (n : Int) := by omega
  have i2 : (2 : Int) < (n : Int) := by omega
  have i3 : (3 : Int) < (n : Int) := by omega
  have f0 := Lib.frozen_of_heap hg off
  have f1 := Lib.frozen_of_heap hg (off + 1)
  have f2 := Lib.frozen_of_heap hg (off + 2)
  have f3 := Lib.frozen_of_heap hg (off + 3)
  have cell : ∀ i, i < 4 → ∃ u, w.cell? ⟨g, off + i, none⟩ = some u := fun i hi => ⟨cs[off + i]'(by omega), by rw [Lib.cell_of_heap hg]; exact Array.getElem?_eq_getElem _⟩
  obtain ⟨u0, c0⟩ := cell 0 (by omega)
  obtain ⟨u1, c1⟩ := cell 1 (by omega)
  obtain ⟨u2, c2⟩ := cell 2 (by omega)
  obtain ⟨u3, c3⟩ := cell 3 (by omega)
  rw [Nat.add_zero] at c0
  clear cell hg hs
  obtain ⟨b0, b1, b2, b3⟩ := byW_int x
  go_enter Tryz.func64, Tryz.ntmps64
  go_wp2
  go_end0
  exact ⟨rfl, rfl⟩
end Go.Proofs.YtgfinhkplijhbaaGreatDoor
namespace Go.Proofs.YtgfinhkplijhbaaGreatDoor

def smallS (x : UInt32) : UInt32 := xorW (xorW (rotW x 7) (rotW x 18)) (shrW x 3)
def greatS (x : UInt32) : UInt32 := xorW (xorW (rotW x 17) (rotW x 19)) (shrW x 10)
/-- The next word of the schedule. -/
def nextW (l : List UInt32) : UInt32 := addW (addW (addW (l.getD (l.length - 16) 0) (smallS (l.getD (l.length - 15) 0))) (l.getD (l.length - 7) 0)) (greatS (l.getD (l.length - 2) 0))
def moreW : Nat → List UInt32 → List UInt32
  | 0, l => l
  | n + 1, l => moreW n (l ++ [nextW l])
theorem moreW_len (n : Nat) : ∀ l, (moreW n l).length = l.length + n := by
  induction n with
  | zero => intro l; rfl
  | succ n ih => intro l; rw [moreW, ih]; simp; omega

structure S8 where
  (a b c d e f g h : UInt32)
def bigE (x : UInt32) : UInt32 := xorW (xorW (rotW x 6) (rotW x 11)) (rotW x 25)
def bigA (x : UInt32) : UInt32 := xorW (xorW (rotW x 2) (rotW x 13)) (rotW x 22)
def choose3 (e f g : UInt32) : UInt32 := xorW (andW e f) (andW (notW e) g)
def most3 (a b c : UInt32) : UInt32 := xorW (xorW (andW a b) (andW a c)) (andW b c)
def oneW (s : S8) (k w : UInt32) : UInt32 := addW (addW (addW (addW s.h (bigE s.e)) (choose3 s.e s.f s.g)) k) w
def stepS (s : S8) (k w : UInt32) : S8 :=
  ⟨addW (addW (oneW s k w) (bigA s.a)) (most3 s.a s.b s.c), s.a, s.b, s.c, addW s.d (oneW s k w), s.e, s.f, s.g⟩
theorem addW_assoc (x y z : UInt32) : addW (addW x y) z = addW x (addW y z) := by unfold addW; exact UInt32.add_assoc x y z
/-- The rounds over constants and words. -/
def roundsS : S8 → List UInt32 → List UInt32 → S8
  | s, k :: ks, w :: ws => roundsS (stepS s k w) ks ws
  | s, _, _ => s
def addS (s t : S8) : S8 := ⟨addW s.a t.a, addW s.b t.b, addW s.c t.c, addW s.d t.d, addW s.e t.e, addW s.f t.f, addW s.g t.g, addW s.h t.h⟩
def wordAt (l : List UInt8) (i : Nat) : UInt32 := beW (l.getD (4 * i) 0) (l.getD (4 * i + 1) 0) (l.getD (4 * i + 2) 0) (l.getD (4 * i + 3) 0)
def wordsOf (n : Nat) (l : List UInt8) : List UInt32 := (List.range n).map (wordAt l)
theorem wordsOf_len (n : Nat) (l : List UInt8) : (wordsOf n l).length = n := by simp [wordsOf]
theorem wordsOf_succ (n : Nat) (l : List UInt8) : wordsOf (n + 1) l = wordsOf n l ++ [wordAt l n] := by simp [wordsOf, List.range_succ]
def roundK : List UInt32 := ([1116352408, 1899447441, 3049323471, 3921009573, 961987163, 1508970993, 2453635748, 2870763221, 3624381080, 310598401, 607225278, 1426881987, 1925078388, 2162078206, 2614888103, 3248222580, 3835390401, 4022224774, 264347078, 604807628, 770255983, 1249150122, 1555081692, 1996064986, 2554220882, 2821834349, 2952996808, 3210313671, 3336571891, 3584528711, 113926993, 338241895, 666307205, 773529912, 1294757372, 1396182291, 1695183700, 1986661051, 2177026350, 2456956037, 2730485921, 2820302411, 3259730800, 3345764771, 3516065817, 3600352804, 4094571909, 275423344, 430227734, 506948616, 659060556, 883997877, 958139571, 1322822218, 1537002063, 1747873779, 1955562222, 2024104815, 2227730452, 2361852424, 2428436474, 2756734187, 3204031479, 3329325298] : List Nat).map UInt32.ofNat
def mixS (s : S8) (block : List UInt8) : S8 := addS s (roundsS s roundK (moreW 48 (wordsOf 16 block)))
/-- All whole blocks. -/
def takeS : Nat → S8 → List UInt8 → S8
  | 0, s, _ => s
  | n + 1, s, l => takeS n (mixS s (l.take 64)) (l.drop 64)
def startS : S8 := ⟨1779033703, 3144134277, 1013904242, 2773480762, 1359893119, 2600822924, 528734635, 1541459225⟩
def lenB (n : Nat) : List UInt8 := (List.range 8).map fun i => UInt8.ofNat (n * 8 / 256 ^ (7 - i))
/-- The text as it is summed. -/
def padS (l : List UInt8) : List UInt8 := l ++ [128] ++ List.replicate ((119 - l.length % 64) % 64) 0 ++ lenB l.length
def outS (s : S8) : List UInt8 := [s.a, s.b, s.c, s.d, s.e, s.f, s.g, s.h].flatMap fun x => [byW x 0, byW x 1, byW x 2, byW x 3]
def shaF (l : List UInt8) : List UInt8 := outS (takeS ((padS l).length / 64) startS (padS l))
end Go.Proofs.YtgfinhkplijhbaaGreatDoor
namespace Go.Proofs.YtgfinhkplijhbaaGreatDoor

def v32 (x : UInt32) : Value := .int .u32 x.toNat
/-- The first words, then noughts, 64 in all. -/
def rowW (l : List UInt32) : Array Value := (l.map v32 ++ List.replicate (64 - l.length) (Value.int .u32 0)).toArray
theorem rowW_size (l : List UInt32) (h : l.length ≤ 64) : (rowW l).size = 64 := by simp [rowW]; omega
theorem rowW_get (l : List UInt32) (i : Nat) (h : i < l.length) : (rowW l)[i]? = some (.int .u32 (l.getD i 0).toNat) := by
  unfold rowW
  rw [List.getElem?_toArray, List.getElem?_append_left (by simpa using h), List.getElem?_map, List.getElem?_eq_getElem h, List.getD_eq_getElem?_getD, List.getElem?_eq_getElem h]; rfl
theorem rowW_set (l : List UInt32) (x : UInt32) (h : l.length < 64) : (rowW l).setIfInBounds l.length (.int .u32 x.toNat) = rowW (l ++ [x]) := by
  apply Array.ext_getElem?
  intro i
  obtain ⟨k, hk⟩ : ∃ k, 64 - l.length = k + 1 := ⟨63 - l.length, by omega⟩
  have hk2 : 64 - (l ++ [x]).length = k := by simp; omega
  unfold rowW
  rw [hk, hk2, Array.getElem?_setIfInBounds, List.getElem?_toArray, List.getElem?_toArray]
  by_cases hi : i < l.length
  · rw [if_neg (by omega), List.getElem?_append_left (by simpa using hi), List.map_append, List.append_assoc, List.getElem?_append_left (by simpa using hi)]
  · by_cases he : l.length = i
    · subst he
      rw [if_pos rfl]
      simp [List.replicate_succ, v32]
    · rw [if_neg he, List.map_append, List.append_assoc, List.getElem?_append_right (by simp; omega), List.getElem?_append_right (by simp; omega), List.length_map]
      obtain ⟨j, hj⟩ : ∃ j, i - l.length = j + 1 := ⟨i - l.length - 1, by omega⟩
      rw [hj]
      simp [List.replicate_succ]
theorem rowW_zero (l : List UInt32) (i : Nat) (h : l.length ≤ i) (h2 : i < 64) : (rowW l)[i]? = some (.int .u32 0) := by
  unfold rowW
  rw [List.getElem?_toArray, List.getElem?_append_right (by simpa using h), List.length_map, List.getElem?_replicate, if_pos (by omega)]
end Go.Proofs.YtgfinhkplijhbaaGreatDoor
namespace Go.Proofs.YtgfinhkplijhbaaGreatDoor
open Go.RowKit

theorem race_off (w : World) : (callFunc 153 #[]).run Tryz.prog w = .ok (.value (.tuple #[])) w := run_call_mark0 Tryz.func153 (by kernel_rfl) (by kernel_rfl) (by kernel_rfl) .disable (by kernel_rfl) w
theorem race_on (w : World) : (callFunc 155 #[]).run Tryz.prog w = .ok (.value (.tuple #[])) w := run_call_mark0 Tryz.func155 (by kernel_rfl) (by kernel_rfl) (by kernel_rfl) .enable (by kernel_rfl) w
theorem race_took (a : Addr) (w : World) : (callFunc 156 #[.pointer (some a)]).run Tryz.prog w = .ok (.value (.tuple #[])) w := run_call_marked Tryz.func156 (by kernel_rfl) (by kernel_rfl) (by kernel_rfl) .acquire (by kernel_rfl) a w
theorem race_gave (a : Addr) (w : World) : (callFunc 158 #[.pointer (some a)]).run Tryz.prog w = .ok (.value (.tuple #[])) w := run_call_marked Tryz.func158 (by kernel_rfl) (by kernel_rfl) (by kernel_rfl) .releaseMerge (by kernel_rfl) a w

theorem store_deferred (a : Addr) (x : Value) (u : FrameMode) (w : World) (hc : w.cell? a = some x) (hz : w.frozen? a = false) :
    CallsD Tryz.prog 141 #[.pointer (some a), .bool true] u w fun e u' w' => u' = u ∧ (e = .returned (.tuple #[]) ∧ w' = w.drew.setCell a (.int .u32 1)) := by
  have hc' : w.drew.cell? a = some x := by go_simp
  have hz' : w.drew.frozen? a = false := by go_simp
  have hst := run_call_store (P := Tryz.prog) Tryz.func149 (by kernel_rfl) (by kernel_rfl) (by kernel_rfl) (by kernel_rfl) (k := .u32) (y := 1) hc' hz'
  go_enter_d Tryz.func141, Tryz.ntmps141
  go_wp2
  go_region_calls
  all_goals (go_end0; exact ⟨rfl, rfl⟩)

set_option maxRecDepth 100000 in
theorem unlock_deferred (a : Addr) (u : FrameMode) (w : World) (hc : w.cell? a = some (.int .i32 1)) (hz : w.frozen? a = false) :
    CallsD Tryz.prog 140 #[.pointer (some a)] u w fun e u' w' => u' = u ∧ (e = .returned (.tuple #[]) ∧ w' = w.setCell a (.int .i32 0)) := by
  have hd := race_off
  have he := race_on
  have hr := race_gave
  have hadd := run_call_add (P := Tryz.prog) Tryz.func159 (by kernel_rfl) (by kernel_rfl) (by kernel_rfl) .i32 (by kernel_rfl) (y := -1) (s := 0) hc hz (by simp [go_sem]; rfl)
  have hcv := run_convert_to_unsafe (P := Tryz.prog) (src := 185) (dst := 165) Tryz.underlying185 Tryz.underlying165 (by kernel_rfl) hc
  go_enter_d Tryz.func140, Tryz.ntmps140
  go_wp2
  go_end0
  go_wp2
  go_end0
  exact ⟨rfl, rfl⟩

set_option maxRecDepth 100000 in
theorem lock_free (a : Addr) (w : World) (hc : w.cell? a = some (.int .i32 0)) (hz : w.frozen? a = false) :
    Calls Tryz.prog 139 #[.pointer (some a)] w fun e w' => e = .returned (.tuple #[]) ∧ w' = w.setCell a (.int .i32 1) := by
  have hd := race_off
  have he := race_on
  have ha := race_took
  have hcas := run_call_cas_hit (P := Tryz.prog) Tryz.func154 (by kernel_rfl) (by kernel_rfl) (by kernel_rfl) .i32 (by kernel_rfl) (y := 1) hc hz
  have hc' : (w.setCell a (.int .i32 1)).cell? a = some (.int .i32 1) := World.cell?_setCell_same w a _ hc
  have hcv := run_convert_to_unsafe (P := Tryz.prog) (src := 185) (dst := 165) Tryz.underlying185 Tryz.underlying165 (by kernel_rfl) hc'
  go_enter Tryz.func139, Tryz.ntmps139
  go_wp2
  first | go_end0 | (simp only [Exit.inBlock, Exit.then]; refine bodyPost_ret (results_none rfl _ _ _) rfl ?_) | refine bodyPost_ret (results_none rfl _ _ _) rfl ?_
  go_wp2
  go_end0
  exact ⟨rfl, rfl⟩
end Go.Proofs.YtgfinhkplijhbaaGreatDoor
namespace Go.Proofs.YtgfinhkplijhbaaGreatDoor
open Go.RowKit

/-- The slice that starts at a reads as the fields l. -/
def FieldsAt (w : World) (a : Option Addr) (l : List (ByteArray × ByteArray)) : Prop :=
  ∀ k (h : k < l.length), ∃ b off, a = some ⟨b, off, none⟩ ∧ w.cell? ⟨b, off + k * 2, none⟩ = some (.string l[k].1) ∧ w.cell? ⟨b, off + k * 2 + 1, none⟩ = some (.string l[k].2)
end Go.Proofs.YtgfinhkplijhbaaGreatDoor
