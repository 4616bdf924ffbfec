/-
  Bytes appended to a row of the call's own, whatever slice they come from.
  Words of 32 bits: what the walk calls them, and what they are.
  Words read from bytes, and written as bytes.
  One block's sum, as plain mathematics over the words' own operations.
  A row of bytes that the call itself made, at or behind a base: append of one byte, of bytes, of a string; a row of texts that came in.
  The sum of bytes: the program's and the reference's.
-/
import Derived.Test.YtihbjkdgfflnfaaProg
import Derived.LoopTactic
import Derived.Outline
import Derived.WalkSpells
import Derived.WalkLawsBesides
import Derived.IntWalk
import Derived.Laws.BitsAllLaws
import Derived.Deep.QuietTactic
import Derived.BigQuiet
import Derived.Laws.IdiomStrings
import Derived.Laws.BytesString
import Derived.Test.YtihbjkdgfflnfaaMg0
import Derived.Test.YtihbjkdgfflnfaaMg6
namespace Go.Proofs.Ytihbjkdgfflnfaa
open Go.RowKit

theorem byteInfo : (Try.prog.info? 5).map (fun i => (i.zero, i.size, i.bytes)) = some (some (.int .u8 0), 1, 1) := by kernel_rfl

/-- The bytes d lie in a row of the call's own, which the slice value v holds. -/
def OwnBytes (w : World) (v : Value) (d : List UInt8) : Prop := w.ownsRow 0 5 1 v d.length (Lib.byteCells d)
theorem ownBytes_nil (w : World) : OwnBytes w (.slice none 0 0) [] := World.ownsRow_nil w 0 _ 1
theorem OwnBytes.shape {w : World} {v : Value} {d : List UInt8} (h : OwnBytes w v d) : ∃ a c, v = .slice a d.length c ∧ BytesAt w a d ∧ (a = none → c = 0) := by
  have h' := h
  rcases h.2 with ⟨hv, h2⟩ | ⟨g, cap, cur, hv, _⟩
  · refine ⟨none, 0, by rw [hv, h2], ?_, fun _ => rfl⟩
    have e : d = [] := List.eq_nil_of_length_eq_zero h2
    rw [e]; exact bytesAt_nil w _
  · unfold OwnBytes at h'
    rw [hv] at h'
    exact ⟨_, _, hv, bytesAt_own h', fun e => by cases e⟩
theorem OwnBytes.bytes {w : World} {a : Option Addr} {c n : Nat} {l : List UInt8} (h : OwnBytes w (.slice a n c) l) : BytesAt w a l ∧ (a = none → c = 0) := by
  obtain ⟨a', c', e, h1, h2⟩ := h.shape
  injection e with e1 e2 e3
  subst e1; subst e3
  exact ⟨h1, h2⟩
theorem OwnBytes.spares {F : Nat → Prop} {w w' : World} {v : Value} {d : List UInt8} (h : OwnBytes w v d) (hs : Spares F w w') (hn : ∀ g, v.ownBlock = some g → ¬ F g) : OwnBytes w' v d := hs.own h hn
theorem OwnBytes.lt {w : World} {v : Value} {d : List UInt8} (h : OwnBytes w v d) : ∀ g, v.ownBlock = some g → g < w.heap.size := fun g hg => (World.ownsRow.lt h g hg).2
/-- An own row's block holds cells of bytes. -/
theorem OwnBytes.kind {w : World} {v : Value} {d : List UInt8} (h : OwnBytes w v d) : ∀ g, v.ownBlock = some g → ∃ cs, w.heap[g]? = some (.cells cs 5 (0, 0)) := by
  intro g hg
  rcases h.2 with ⟨rfl, _⟩ | ⟨g', cap, cur, rfl, _, hgg, _⟩
  · simp [Value.ownBlock] at hg
  · simp [Value.ownBlock] at hg
    subst hg
    exact ⟨cur, hgg⟩

/-- []byte as a string. -/
theorem conv_bytes {w : World} {a : Option Addr} {l : List UInt8} (h : BytesAt w a l) (c : Nat) : (convert 49 9 (.slice a l.length c)).run Try.prog w = .ok (.string ⟨l.toArray⟩) w := by
  by_cases he : l = []
  · subst he
    rw [run_convert_bytes_string w 49 9 5 a _ c Try.underlying49 Try.underlying5 Try.underlying9]
    cases a <;> simp [Conv.bytesToString, loadCells] <;> rfl
  · obtain ⟨b, off, rfl, _⟩ := h 0 (List.length_pos_iff.2 he)
    refine run_convert_bytes_back (P := Try.prog) w 49 9 5 ⟨b, off, none⟩ c l Try.underlying49 Try.underlying5 Try.underlying9 (fun j hj => ?_)
    have := h.cells j (.int .u8 l[j].toNat) (by unfold Lib.byteCells; rw [List.getElem?_map, List.getElem?_eq_getElem hj]; rfl)
    exact this
section
variable {w : World}
theorem wpList_append_bytes {ops : Array Oper} {rest : List Oper} {o : Oper} {a : Act} {Q : Exit → Act → World → Prop} (hgd : o.guard = none) (s x : Operand)
    (ho : o.op = .call { callee := .builtin .append, args := #[s, x], argTypes := #[49, 49] })
    (v : Value) (d : List UInt8) (hs : a.eval s = v) (hown : OwnBytes w v d)
    (ad : Option Addr) (c : Nat) (l : List UInt8) (hx : a.eval x = .slice ad l.length c) (hat : BytesAt w ad l) (hnil : ad = none → c = 0)
    (hlen : d.length + l.length ≤ 140737488355328)
    (hK : ∀ ao c' w', OwnBytes w' (.slice ao (d.length + l.length) c') (d ++ l) → w.grownBy w' v.ownBlock → (∀ g, (Value.slice ao (d.length + l.length) c').ownBlock = some g → v.ownBlock = some g ∨ w.heap.size ≤ g) → wpList Try.prog ops Q rest (a.put o.dst (.slice ao (d.length + l.length) c')) w') : wpList Try.prog ops Q (o :: rest) a w := by
  have h : ∀ v' w', OwnBytes w' v' (d ++ l) → w.grownBy w' v.ownBlock → (∀ g, v'.ownBlock = some g → v.ownBlock = some g ∨ w.heap.size ≤ g) → wpList Try.prog ops Q rest (a.put o.dst v') w' := by
    intro v' w' h1 h2 h3
    obtain ⟨ao, c', rfl, _⟩ := h1.shape
    rw [List.length_append] at h1 h3 ⊢
    exact hK ao c' w' h1 h2 h3
  obtain ⟨i0, hi, hz0, hz1, hz2⟩ := info_parts byteInfo
  cases ad with
  | none =>
    obtain rfl := hnil rfl
    have hl : l = [] := by
      cases l with
      | nil => rfl
      | cons y l => obtain ⟨_, _, e, _⟩ := hat 0 (by simp); cases e
    subst hl
    refine wpList_append_own_none hgd s x 49 ho 0 5 i0 1 Try.underlying49 hi v d.length (Lib.byteCells d) hs hown hx ?_
    exact h v w (by rw [List.append_nil]; exact hown) ⟨rfl, rfl, rfl, Nat.le_refl _, fun _ _ _ => rfl⟩ (fun g hg => .inl hg)
  | some ad =>
    by_cases he : l = []
    · subst he
      refine wpList_append_fresh hgd s x 49 ho 5 i0 (.int .u8 0) 1 1 Try.underlying49 hi hz0 hz1 hz2 rfl (by decide) v d.length (Lib.byteCells d) hs hown ad 0 c [] hx rfl (by simp) (by simp) (by unfold maxLen; simp at hlen; omega) (by simpa using hlen) ?_
      intro v' w' h1 h2 h3
      exact h v' w' (by unfold OwnBytes; simpa using h1) h2 h3
    · obtain ⟨b, off, hab, _⟩ := hat 0 (List.length_pos_iff.2 he)
      injection hab with hab
      subst hab
      refine wpList_append_fresh hgd s x 49 ho 5 i0 (.int .u8 0) 1 1 Try.underlying49 hi hz0 hz1 hz2 rfl (by decide) v d.length (Lib.byteCells d) hs hown ⟨b, off, none⟩ l.length c (Lib.byteCells l) hx (by simp [byteCells_len]) hat.cells (byteCells_one l) (by unfold maxLen; omega) (by omega) ?_
      intro v' w' h1 h2 h3
      exact h v' w' (by unfold OwnBytes; rw [List.length_append, byteCells_app]; exact h1) h2 h3
end
end Go.Proofs.Ytihbjkdgfflnfaa
namespace Go.Proofs.Ytihbjkdgfflnfaa
open Go.RowKit

def addW (x y : UInt32) : UInt32 := x + y
def xorW (x y : UInt32) : UInt32 := x ^^^ y
def andW (x y : UInt32) : UInt32 := x &&& y
def orW (x y : UInt32) : UInt32 := x ||| y
def notW (x : UInt32) : UInt32 := ~~~x
def shrW (x : UInt32) (n : Nat) : UInt32 := UInt32.ofNat (x.toNat / 2 ^ n)
def shlW (x : UInt32) (n : Nat) : UInt32 := UInt32.ofNat (x.toNat * 2 ^ n)
def rotW (x : UInt32) (n : Nat) : UInt32 := orW (shlW x (32 - n)) (shrW x n)

end Go.Proofs.Ytihbjkdgfflnfaa
namespace Go.Proofs.Ytihbjkdgfflnfaa
open Go.RowKit

def beW (a b c d : UInt8) : UInt32 := UInt32.ofNat (a.toNat * 16777216 + b.toNat * 65536 + c.toNat * 256 + d.toNat)

theorem heap_set {w : World} {g : Nat} {t : TypeId} {cs : Array Value} (h : w.heap[g]? = some (.cells cs t (0, 0))) (i : Nat) (u : Value) : (w.setCell ⟨g, i, none⟩ u).heap[g]? = some (.cells (cs.setIfInBounds i u) t (0, 0)) := by
  simp [World.setCell, Array.getElem?_modify, h]
def byW (x : UInt32) (i : Nat) : UInt8 := UInt8.ofNat (x.toNat / 256 ^ (3 - i))
theorem spares_set {g : Nat} {w w' : World} (h : Spares (fun b => b = g) w w') (i : Nat) (u : Value) : Spares (fun b => b = g) w (w'.setCell ⟨g, i, none⟩ u) := h.setCell (p := ⟨g, i, none⟩) (.inl rfl) u
end Go.Proofs.Ytihbjkdgfflnfaa
namespace Go.Proofs.Ytihbjkdgfflnfaa

def smallS (x : UInt32) : UInt32 := xorW (xorW (rotW x 7) (rotW x 18)) (shrW x 3)
def greatS (x : UInt32) : UInt32 := xorW (xorW (rotW x 17) (rotW x 19)) (shrW x 10)
/-- The next word of the schedule. -/
def nextW (l : List UInt32) : UInt32 := addW (addW (addW (l.getD (l.length - 16) 0) (smallS (l.getD (l.length - 15) 0))) (l.getD (l.length - 7) 0)) (greatS (l.getD (l.length - 2) 0))
def moreW : Nat → List UInt32 → List UInt32
  | 0, l => l
  | n + 1, l => moreW n (l ++ [nextW l])
structure S8 where
  (a b c d e f g h : UInt32)
def bigE (x : UInt32) : UInt32 := xorW (xorW (rotW x 6) (rotW x 11)) (rotW x 25)
def bigA (x : UInt32) : UInt32 := xorW (xorW (rotW x 2) (rotW x 13)) (rotW x 22)
def choose3 (e f g : UInt32) : UInt32 := xorW (andW e f) (andW (notW e) g)
def most3 (a b c : UInt32) : UInt32 := xorW (xorW (andW a b) (andW a c)) (andW b c)
def oneW (s : S8) (k w : UInt32) : UInt32 := addW (addW (addW (addW s.h (bigE s.e)) (choose3 s.e s.f s.g)) k) w
def stepS (s : S8) (k w : UInt32) : S8 :=
  ⟨addW (addW (oneW s k w) (bigA s.a)) (most3 s.a s.b s.c), s.a, s.b, s.c, addW s.d (oneW s k w), s.e, s.f, s.g⟩
/-- The rounds over constants and words. -/
def roundsS : S8 → List UInt32 → List UInt32 → S8
  | s, k :: ks, w :: ws => roundsS (stepS s k w) ks ws
  | s, _, _ => s
def addS (s t : S8) : S8 := ⟨addW s.a t.a, addW s.b t.b, addW s.c t.c, addW s.d t.d, addW s.e t.e, addW s.f t.f, addW s.g t.g, addW s.h t.h⟩
def wordAt (l : List UInt8) (i : Nat) : UInt32 := beW (l.getD (4 * i) 0) (l.getD (4 * i + 1) 0) (l.getD (4 * i + 2) 0) (l.getD (4 * i + 3) 0)
def wordsOf (n : Nat) (l : List UInt8) : List UInt32 := (List.range n).map (wordAt l)
def roundK : List UInt32 := ([1116352408, 1899447441, 3049323471, 3921009573, 961987163, 1508970993, 2453635748, 2870763221, 3624381080, 310598401, 607225278, 1426881987, 1925078388, 2162078206, 2614888103, 3248222580, 3835390401, 4022224774, 264347078, 604807628, 770255983, 1249150122, 1555081692, 1996064986, 2554220882, 2821834349, 2952996808, 3210313671, 3336571891, 3584528711, 113926993, 338241895, 666307205, 773529912, 1294757372, 1396182291, 1695183700, 1986661051, 2177026350, 2456956037, 2730485921, 2820302411, 3259730800, 3345764771, 3516065817, 3600352804, 4094571909, 275423344, 430227734, 506948616, 659060556, 883997877, 958139571, 1322822218, 1537002063, 1747873779, 1955562222, 2024104815, 2227730452, 2361852424, 2428436474, 2756734187, 3204031479, 3329325298] : List Nat).map UInt32.ofNat
def mixS (s : S8) (block : List UInt8) : S8 := addS s (roundsS s roundK (moreW 48 (wordsOf 16 block)))
/-- All whole blocks. -/
def takeS : Nat → S8 → List UInt8 → S8
  | 0, s, _ => s
  | n + 1, s, l => takeS n (mixS s (l.take 64)) (l.drop 64)
def startS : S8 := ⟨1779033703, 3144134277, 1013904242, 2773480762, 1359893119, 2600822924, 528734635, 1541459225⟩
def lenB (n : Nat) : List UInt8 := (List.range 8).map fun i => UInt8.ofNat (n * 8 / 256 ^ (7 - i))
/-- The text as it is summed. -/
def padS (l : List UInt8) : List UInt8 := l ++ [128] ++ List.replicate ((119 - l.length % 64) % 64) 0 ++ lenB l.length
def outS (s : S8) : List UInt8 := [s.a, s.b, s.c, s.d, s.e, s.f, s.g, s.h].flatMap fun x => [byW x 0, byW x 1, byW x 2, byW x 3]
def shaF (l : List UInt8) : List UInt8 := outS (takeS ((padS l).length / 64) startS (padS l))
end Go.Proofs.Ytihbjkdgfflnfaa
namespace Go.Proofs.Ytihbjkdgfflnfaa
open Go.RowKit

def Row8 (B : Nat) (w : World) (v : Value) (d : List UInt8) : Prop := w.ownsRow B 5 1 v d.length (Lib.byteCells d)
theorem row8_nil (B : Nat) (w : World) : Row8 B w (.slice none 0 0) [] := World.ownsRow_nil w B _ 1
theorem Row8.shape {B : Nat} {w : World} {v : Value} {d : List UInt8} (h : Row8 B w v d) : ∃ a c, v = .slice a d.length c ∧ BytesAt w a d ∧ (a = none → c = 0) ∧ d.length ≤ c := by
  have h' := h
  rcases h.2 with ⟨hv, h2⟩ | ⟨g, cap, cur, hv, _, _, hc, _⟩
  · refine ⟨none, 0, by rw [hv, h2], ?_, fun _ => rfl, by omega⟩
    have e : d = [] := List.eq_nil_of_length_eq_zero h2
    rw [e]; exact bytesAt_nil w _
  · unfold Row8 at h'
    rw [hv] at h'
    exact ⟨_, _, hv, bytesAt_own h', (fun e => by cases e), hc⟩
theorem Row8.lt {B : Nat} {w : World} {v : Value} {d : List UInt8} (h : Row8 B w v d) : ∀ g, v.ownBlock = some g → B ≤ g ∧ g < w.heap.size := World.ownsRow.lt h
theorem Row8.spares {B : Nat} {F : Nat → Prop} {w w' : World} {v : Value} {d : List UInt8} (h : Row8 B w v d) (hs : Spares F w w') (hn : ∀ g, v.ownBlock = some g → ¬ F g) : Row8 B w' v d := hs.own h hn
def atLeast (B : Nat) : Nat → Prop := fun b => B ≤ b
section
variable {w : World}
theorem row8_grown {B : Nat} {v : Value} {d : List UInt8} {w' : World} (h : Row8 B w v d) (hg : w.grownBy w' v.ownBlock) : Spares (atLeast B) w w' :=
  (Spares.refl _ w).grown hg fun k hk => .inl (h.lt k hk).1
/-- append(v, x...) of bytes. -/
theorem wpList_row_bytes {ops : Array Oper} {rest : List Oper} {o : Oper} {a : Act} {Q : Exit → Act → World → Prop} (hgd : o.guard = none) (s x : Operand)
    (ho : o.op = .call { callee := .builtin .append, args := #[s, x], argTypes := #[49, 49] })
    (B : Nat) (v : Value) (d : List UInt8) (hs : a.eval s = v) (hown : Row8 B w v d)
    (ad : Option Addr) (c n : Nat) (l : List UInt8) (hx : a.eval x = .slice ad n c) (hn : n = l.length) (hat : BytesAt w ad l) (hnil : ad = none → c = 0)
    (hlen : d.length + n ≤ 140737488355328) (hB : B ≤ w.heap.size)
    (hK : ∀ v' w', Row8 B w' v' (d ++ l) → Spares (atLeast B) w w' → wpList Try.prog ops Q rest (a.put o.dst v') w') : wpList Try.prog ops Q (o :: rest) a w := by
  subst hn
  obtain ⟨i0, hi, hz0, hz1, hz2⟩ := info_parts byteInfo
  cases ad with
  | none =>
    obtain rfl := hnil rfl
    have hl : l = [] := by
      cases l with
      | nil => rfl
      | cons y l => obtain ⟨_, _, e, _⟩ := hat 0 (by simp); cases e
    subst hl
    refine wpList_append_own_none hgd s x 49 ho B 5 i0 1 Try.underlying49 hi v d.length (Lib.byteCells d) hs hown hx ?_
    exact hK v w (by rw [List.append_nil]; exact hown) (Spares.refl _ _)
  | some ad =>
    by_cases he : l = []
    · subst he
      refine wpList_append_own w hgd s x 49 ho B 5 i0 (.int .u8 0) 1 1 Try.underlying49 hi hz0 hz1 hz2 rfl (by decide) v d.length (Lib.byteCells d) hs hown ad 0 c [] hx rfl (by simp) (by simp) (by unfold maxLen; simp at hlen; omega) (by simpa using hlen) hB ?_
      intro v' w' h1 h2 h3
      exact hK v' w' (by unfold Row8; simpa using h1) (row8_grown hown h2)
    · obtain ⟨b, off, hab, _⟩ := hat 0 (List.length_pos_iff.2 he)
      injection hab with hab
      subst hab
      refine wpList_append_own w hgd s x 49 ho B 5 i0 (.int .u8 0) 1 1 Try.underlying49 hi hz0 hz1 hz2 rfl (by decide) v d.length (Lib.byteCells d) hs hown ⟨b, off, none⟩ l.length c (Lib.byteCells l) hx (by simp [byteCells_len]) hat.cells (byteCells_one l) (by unfold maxLen; omega) (by omega) hB ?_
      intro v' w' h1 h2 h3
      exact hK v' w' (by unfold Row8; rw [List.length_append, byteCells_app]; exact h1) (row8_grown hown h2)
/-- append(v, x) of one byte: the row of one is made just before. -/
theorem wpList_row_one {ops : Array Oper} {rest : List Oper} {o : Oper} {a : Act} {Q : Exit → Act → World → Prop} (hgd : o.guard = none) (s y : Operand)
    (ho : o.op = .call { callee := .builtin .append, args := #[s, y], argTypes := #[49, 49] })
    (B : Nat) (v : Value) (d : List UInt8) (hs : a.eval s = v) (hown : Row8 B w v d) (x : UInt8) (X : Int)
    (hy : a.eval y = .slice (some ⟨w.heap.size, 0, none⟩) 1 1) (hX : X = (x.toNat : Int)) (hlen : d.length + 1 ≤ 140737488355328) (hB : B ≤ w.heap.size)
    (hK : ∀ v' w', Row8 B w' v' (d ++ [x]) → Spares (atLeast B) w w' → wpList Try.prog ops Q rest (a.put o.dst v') w') : wpList Try.prog ops Q (o :: rest) a (w.alloc (.cells #[.int .u8 X] 5)) := by
  subst hX
  have hs1 : Spares nowhere w (w.alloc (.cells #[.int .u8 (x.toNat : Int)] 5)) := (Spares.refl _ _).alloc _
  refine wpList_row_bytes hgd s y ho B v d hs (hown.spares hs1 (fun _ _ h => h)) (some ⟨w.heap.size, 0, none⟩) 1 1 [x] hy rfl ?_ (fun e => by cases e) hlen (Nat.le_trans hB hs1.size) ?_
  · intro k hk
    obtain rfl : k = 0 := by simpa using hk
    exact ⟨w.heap.size, 0, rfl, (Lib.cell_of_heap (heap_alloc_new w _) 0).trans rfl⟩
  · intro v' w' h1 h2
    exact hK v' w' h1 ((hs1.mono (fun _ h => by cases h)).trans h2)
end
/-- A row of texts that came in. -/
def StrsAt (w : World) (a : Option Addr) (ps : List ByteArray) : Prop :=
  ∀ k (h : k < ps.length), ∃ b off, a = some ⟨b, off, none⟩ ∧ w.cell? ⟨b, off + k, none⟩ = some (.string ps[k])
theorem StrsAt.spares {F : Nat → Prop} {w w' : World} {a : Option Addr} {l : List ByteArray} (h : StrsAt w a l) (hs : Spares F w w') (hn : ∀ b off, a = some ⟨b, off, none⟩ → ¬ F b) : StrsAt w' a l := by
  intro k hk
  obtain ⟨b, off, rfl, hc⟩ := h k hk
  have hlt : b < w.heap.size := by
    rcases Nat.lt_or_ge b w.heap.size with h | h
    · exact h
    · simp [World.cell?, Array.getElem?_eq_none h] at hc
  exact ⟨b, off, rfl, (hs.cell (p := ⟨b, off + k, none⟩) hlt (hn _ _ rfl)).trans hc⟩
end Go.Proofs.Ytihbjkdgfflnfaa
namespace Go.Proofs.Ytihbjkdgfflnfaa
open Go.RowKit CrcMath

/-- The table of four bits, where the program keeps it. -/
def Steps (w : World) : Prop := ∀ r, r < 16 → w.cell? ⟨0, r, none⟩ = some (.int .u32 (tab.getD r 0 : Nat))

end Go.Proofs.Ytihbjkdgfflnfaa
