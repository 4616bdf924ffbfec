/-
  What a call spares: all blocks but those of a footprint; and append's law that tells where the row lies afterwards.
  What Cache-Control says, as a function of the parts; seconds.
  A value without its quotes, in the program and in the reference: as many seconds.
-/
import Derived.WalkKit
import Derived.Below
import Derived.Lib.Hide
import Derived.WalkSmall
import Derived.Laws.OwnMore
import Derived.Laws.AppendOwnNone
import Derived.Lib.AppendStr
import Derived.Lib.UnsafeStr
import Derived.ArgAppend
import Derived.Test.YtaimhfnddolilaaGreatDoorMg0
namespace Go.Proofs.YtaimhfnddolilaaGreatDoor
open Go.RowKit

/-- All that stood in w stands in w' as it did, but for the blocks of F. -/
structure Spares (F : Nat → Prop) (w w' : World) : Prop where
  os : w'.os = w.os
  tape : w'.tape = w.tape
  output : w'.output = w.output
  size : w.heap.size ≤ w'.heap.size
  block : ∀ k, k < w.heap.size → ¬ F k → w'.heap[k]? = w.heap[k]?
def nowhere : Nat → Prop := fun _ => False
theorem Spares.refl (F : Nat → Prop) (w : World) : Spares F w w := ⟨rfl, rfl, rfl, Nat.le_refl _, fun _ _ _ => rfl⟩
theorem Spares.trans' {F F' : Nat → Prop} {w w' w'' : World} (h : Spares F w w') (k : Spares F' w' w'') (hF : ∀ b, F' b → F b ∨ w.heap.size ≤ b) : Spares F w w'' :=
  ⟨k.os.trans h.os, k.tape.trans h.tape, k.output.trans h.output, Nat.le_trans h.size k.size, fun b hb hn => by
    rw [k.block b (Nat.lt_of_lt_of_le hb h.size) (fun hf => (hF b hf).elim hn (fun hge => absurd hb (Nat.not_lt.2 hge)))]
    exact h.block b hb hn⟩
theorem Spares.trans {F : Nat → Prop} {w w' w'' : World} (h : Spares F w w') (k : Spares F w' w'') : Spares F w w'' := h.trans' k fun _ hb => .inl hb
theorem Spares.mono {F F' : Nat → Prop} {w w' : World} (h : Spares F w w') (hF : ∀ b, F b → F' b ∨ w.heap.size ≤ b) : Spares F' w w' := (Spares.refl F' w).trans' h hF
theorem Spares.alloc {F : Nat → Prop} {w w' : World} (h : Spares F w w') (o : Obj) : Spares F w (w'.alloc o) :=
  h.trans ⟨rfl, rfl, rfl, by simp, fun b hb _ => Below.heap_alloc w' o b hb⟩
theorem Spares.drew {F : Nat → Prop} {w w' : World} (h : Spares F w w') : Spares F w w'.drew := h.trans ⟨rfl, rfl, rfl, Nat.le_refl _, fun _ _ _ => rfl⟩
theorem Spares.drewN {F : Nat → Prop} {w w' : World} (h : Spares F w w') (n : Nat) : Spares F w (w'.drewN n) := h.trans ⟨rfl, rfl, rfl, Nat.le_refl _, fun _ _ _ => rfl⟩
theorem Spares.setCell {F : Nat → Prop} {w w' : World} (h : Spares F w w') {p : Addr} (hp : F p.block ∨ w.heap.size ≤ p.block) (u : Value) : Spares F w (w'.setCell p u) :=
  h.trans' (F' := fun b => b = p.block) ⟨rfl, rfl, rfl, by simp, fun b _ hn => Below.heap_setCell w' p u b hn⟩ (fun b hb => by subst hb; exact hp)
theorem Spares.grown {F : Nat → Prop} {w w' w'' : World} {row : Option Nat} (h : Spares F w w') (hg : w'.grownBy w'' row) (hrow : ∀ k, row = some k → F k ∨ w.heap.size ≤ k) : Spares F w w'' :=
  h.trans' (F' := fun b => row = some b) ⟨hg.os, hg.tape, hg.output, hg.size, fun b hb hn => hg.block b hb (fun e => hn e.symm)⟩ hrow
theorem Below.spares {F : Nat → Prop} {w w' : World} {B : Nat} (h : Below B w w') (hB : ∀ k, B ≤ k → F k ∨ w.heap.size ≤ k) : Spares F w w' :=
  ⟨h.os, h.tape, h.output, h.size, fun b hb hn => by
    rcases Nat.lt_or_ge b B with hlt | hge
    · exact h.block b hlt
    · exact (hB b hge).elim (fun e => absurd e hn) (fun e => absurd hb (Nat.not_lt.2 e))⟩
theorem Spares.below {F : Nat → Prop} {w w' : World} {B : Nat} (h : Spares F w w') (hB : B ≤ w.heap.size) (hF : ∀ k, k < B → ¬ F k) : Below B w w' :=
  ⟨h.os, h.tape, h.output, h.size, fun b hb => h.block b (Nat.lt_of_lt_of_le hb hB) (hF b hb)⟩
theorem Spares.below0 {w w' : World} (h : Spares nowhere w w') : Below w.heap.size w w' := h.below (Nat.le_refl _) (fun _ _ h => h)
theorem Spares.heap {F : Nat → Prop} {w w' : World} (h : Spares F w w') {b : Nat} {o : Obj} (hb : w.heap[b]? = some o) (hn : ¬ F b) : w'.heap[b]? = some o := by
  rw [h.block b (Array.getElem?_eq_some_iff.1 hb).1 hn]; exact hb
theorem Spares.cell {F : Nat → Prop} {w w' : World} (h : Spares F w w') {p : Addr} (hp : p.block < w.heap.size) (hn : ¬ F p.block) : w'.cell? p = w.cell? p := World.cell?_of_block (h.block _ hp hn)
theorem Spares.own {F : Nat → Prop} {w w' : World} (h : Spares F w w') {B n size : Nat} {e : TypeId} {v : Value} {xs : List Value} (ho : w.ownsRow B e size v n xs) (hn : ∀ g, v.ownBlock = some g → ¬ F g) : w'.ownsRow B e size v n xs := by
  refine ⟨ho.1, ?_⟩
  rcases ho.2 with h0 | ⟨g, cap, cur, hv, hB, hg, hrest⟩
  · exact .inl h0
  · exact .inr ⟨g, cap, cur, hv, hB, h.heap hg (hn g (by rw [hv]; rfl)), hrest⟩

section
variable {P : Program} {w : World}
theorem append_where (t ty e : TypeId) (i : TypeInfo) (z : Value) (size bytes : Nat) (ht : P.underlying t = some (.slice e)) (hi : P.info? e = some i) (hz : i.zero = some z)
    (hsize : i.size = size) (hby : i.bytes = bytes) (hzs : z.cells.size = size) (hsz : 0 < size)
    (base : Nat) (v : Value) (n : Nat) (xs : List Value) (hown : w.ownsRow base e size v n xs)
    (a : Addr) (m c : Nat) (news : List Value) (hl : news.length = m * size) (hnews : ∀ j u, news[j]? = some u → w.cell? (a.add j) = some u) (h1 : ∀ u ∈ news, u.oneCell' = true)
    (h63 : n + m ≤ maxLen) (hbytes : (n + m) * bytes ≤ 140737488355328) {v' : Value} {w' : World}
    (hrun : (Builtin.append_ #[t, t] ty #[v, .slice (some a) m c]).run P w = .ok v' w') : ∀ g, v'.ownBlock = some g → v.ownBlock = some g ∨ w.heap.size ≤ g := by
  subst hsize
  subst hby
  intro g hg
  rcases hown.2 with ⟨rfl, rfl⟩ | ⟨k, cap, cur, rfl, _, hk, _, _, hcs, _⟩
  · obtain rfl : xs = [] := List.eq_nil_of_length_eq_zero (by simpa using hown.1)
    obtain ⟨v2, w2, hr, ho, _, _⟩ := run_append_own (P := P) w w.heap.size t ty e i z i.size i.bytes ht hi hz rfl rfl hzs hsz _ 0 [] (World.ownsRow_nil w _ e _) a m c news hl hnews h1 h63 hbytes (Nat.le_refl _)
    rw [hr] at hrun
    injection hrun with e1 e2
    subst e1
    exact .inr (ho.lt g hg).1
  · by_cases hroom : n + m ≤ cap
    · have hfit : n * i.size + news.length ≤ cur.size := by rw [hl, hcs, ← Nat.add_mul]; exact Nat.mul_le_mul_right _ hroom
      have hr := run_append_room (P := P) w t ty e i ht hi k n cap cur hk a m c news hl hnews h1 hroom hfit
      rw [hr] at hrun
      injection hrun with e1 e2
      subst e1
      exact .inl hg
    · have holds : ∀ j u, xs[j]? = some u → w.cell? ((⟨k, 0, none⟩ : Addr).add j) = some u := hown.cells (g := k) rfl
      have hs63 : n + m ≤ 9223372036854775807 := by simp only [maxLen] at h63; omega
      have hr := run_append_grow (P := P) w t ty e i z ht hi hz ⟨k, 0, none⟩ n cap xs hown.1 holds a m c news hl hnews (by omega) (by omega) (growslice_fits (by omega) hbytes)
      rw [hr] at hrun
      injection hrun with e1 e2
      subst e1
      refine .inr ?_
      simp only [Value.ownBlock, Option.some.injEq] at hg
      omega

/-- append of a slice's cells to a row of the call's own, and where the row lies then. -/
theorem wpList_append_fresh {ops : Array Oper} {rest : List Oper} {o : Oper} {a : Act} {Q : Exit → Act → World → Prop} (hgd : o.guard = none) (s x : Operand) (t : TypeId)
    (ho : o.op = .call { callee := .builtin .append, args := #[s, x], argTypes := #[t, t] })
    (e : TypeId) (i : TypeInfo) (z : Value) (size bytes : Nat) (ht : P.underlying t = some (.slice e)) (hi : P.info? e = some i) (hz : i.zero = some z)
    (hsize : i.size = size) (hby : i.bytes = bytes) (hzs : z.cells.size = size) (hsz : 0 < size)
    (v : Value) (n : Nat) (xs : List Value) (hs : a.eval s = v) (hown : w.ownsRow 0 e size v n xs)
    (ad : Addr) (m c : Nat) (news : List Value) (hx : a.eval x = .slice (some ad) m c) (hl : news.length = m * size) (hnews : ∀ j u, news[j]? = some u → w.cell? (ad.add j) = some u) (h1 : ∀ u ∈ news, u.oneCell' = true)
    (h63 : n + m ≤ maxLen) (hbytes : (n + m) * bytes ≤ 140737488355328)
    (h : ∀ v' w', w'.ownsRow 0 e size v' (n + m) (xs ++ news) → w.grownBy w' v.ownBlock → (∀ g, v'.ownBlock = some g → v.ownBlock = some g ∨ w.heap.size ≤ g) → wpList P ops Q rest (a.put o.dst v') w') : wpList P ops Q (o :: rest) a w := by
  refine wpList_plain hgd fun K hK => ?_
  obtain ⟨v', w', hr, h2, h3, _⟩ := run_append_own (P := P) w 0 t o.type e i z size bytes ht hi hz hsize hby hzs hsz v n xs hown ad m c news hl hnews h1 h63 hbytes (Nat.zero_le _)
  have h4 := append_where t o.type e i z size bytes ht hi hz hsize hby hzs hsz 0 v n xs hown ad m c news hl hnews h1 h63 hbytes hr
  unfold Oper.wp
  simp [execOp, ho, resolve, invoke, builtin, hs, hx, hr, Result.andThen]
  exact hK _ _ (h v' w' h2 h3 h4)
end

/-- The slice that starts at a reads as the bytes l. -/
def BytesAt (w : World) (a : Option Addr) (l : List UInt8) : Prop :=
  ∀ k (h : k < l.length), ∃ b off, a = some ⟨b, off, none⟩ ∧ w.cell? ⟨b, off + k, none⟩ = some (.int .u8 l[k].toNat)
theorem bytesAt_nil (w : World) (a : Option Addr) : BytesAt w a [] := fun _ h => absurd h (Nat.not_lt_zero _)
theorem BytesAt.cells {w : World} {b off : Nat} {l : List UInt8} (h : BytesAt w (some ⟨b, off, none⟩) l) : ∀ j u, (Lib.byteCells l)[j]? = some u → w.cell? ((⟨b, off, none⟩ : Addr).add j) = some u := by
  intro j u hj
  unfold Lib.byteCells at hj
  rw [List.getElem?_map] at hj
  obtain ⟨x, hx, rfl⟩ := Option.map_eq_some_iff.1 hj
  obtain ⟨hlt, rfl⟩ := List.getElem?_eq_some_iff.1 hx
  obtain ⟨b', off', he, hc⟩ := h j hlt
  injection he with he
  injection he with h1 h2 h3
  subst h1; subst h2
  rw [Addr.add_lit]
  exact hc
theorem BytesAt.spares {F : Nat → Prop} {w w' : World} {a : Option Addr} {l : List UInt8} (h : BytesAt w a l) (hs : Spares F w w') (hn : ∀ b off, a = some ⟨b, off, none⟩ → ¬ F b) : BytesAt w' a l := by
  intro k hk
  obtain ⟨b, off, rfl, hc⟩ := h k hk
  have hlt : b < w.heap.size := by
    rcases Nat.lt_or_ge b w.heap.size with h | h
    · exact h
    · simp [World.cell?, Array.getElem?_eq_none h] at hc
  exact ⟨b, off, rfl, (hs.cell (p := ⟨b, off + k, none⟩) hlt (hn _ _ rfl)).trans hc⟩
theorem BytesAt.spares' {F : Nat → Prop} {w w' : World} {a : Option Addr} {l : List UInt8} (h : BytesAt w a l) (hs : Spares F w w') (hn : 0 < l.length → ∀ b off, a = some ⟨b, off, none⟩ → ¬ F b) : BytesAt w' a l := by
  by_cases hl : 0 < l.length
  · exact h.spares hs (hn hl)
  · exact fun k hk => absurd hk (by omega)
theorem bytesAt_own {w : World} {base n c : Nat} {e : TypeId} {a : Option Addr} {l : List UInt8} (h : w.ownsRow base e 1 (.slice a n c) n (Lib.byteCells l)) : BytesAt w a l := by
  intro k hk
  rcases h.2 with ⟨h1, h2⟩ | ⟨g, cap, cur, hv, _⟩
  · subst h2
    have := h.1
    simp [Lib.byteCells] at this
    subst this
    exact absurd hk (Nat.not_lt_zero _)
  · injection hv with hv _ _
    subst hv
    refine ⟨g, 0, rfl, ?_⟩
    have := h.cells (g := g) rfl k (.int .u8 l[k].toNat) (by unfold Lib.byteCells; rw [List.getElem?_map, List.getElem?_eq_getElem hk]; rfl)
    rw [Addr.add_lit] at this
    exact this
theorem byteCells_len (l : List UInt8) : (Lib.byteCells l).length = l.length := by simp [Lib.byteCells]
theorem byteCells_app (a b : List UInt8) : Lib.byteCells (a ++ b) = Lib.byteCells a ++ Lib.byteCells b := by simp [Lib.byteCells]
theorem byteCells_one (l : List UInt8) : ∀ u ∈ Lib.byteCells l, u.oneCell' = true := by
  intro u hu
  obtain ⟨x, _, rfl⟩ := List.mem_map.1 hu
  rfl
end Go.Proofs.YtaimhfnddolilaaGreatDoor
namespace Go.Proofs.YtaimhfnddolilaaGreatDoor.CtrlS
open HeadMath

def maxAge : Int := 2147483647
def stepS (n : Int) (c : UInt8) : Int := min (max n 0 * 10 + ((c.toNat : Int) - 48)) maxAge
/-- How many seconds a text says; -1: none. -/
def secF (l : List UInt8) : Int := if l.all digitB then l.foldl stepS (-1) else -1
theorem stepS_in (n : Int) (c : UInt8) (h : digitB c = true) : 0 ≤ stepS n c ∧ stepS n c ≤ maxAge := by
  unfold digitB at h
  rw [decide_eq_true_iff] at h
  unfold stepS maxAge
  omega
theorem fold_in : ∀ (l : List UInt8) (n : Int), l.all digitB = true → -1 ≤ n → n ≤ maxAge → -1 ≤ l.foldl stepS n ∧ l.foldl stepS n ≤ maxAge
  | [], _, _, h1, h2 => ⟨h1, h2⟩
  | c :: l, n, h, _, _ => by
    rw [List.all_cons, Bool.and_eq_true] at h
    have := stepS_in n c h.1
    exact fold_in l _ h.2 (by omega) this.2
theorem secF_in (l : List UInt8) : -1 ≤ secF l ∧ secF l ≤ maxAge := by
  unfold secF
  split
  · exact fold_in l (-1) (by assumption) (Int.le_refl _) (by unfold maxAge; omega)
  · exact ⟨Int.le_refl _, by unfold maxAge; omega⟩
theorem secF_bad {l : List UInt8} {c : UInt8} (hc : c ∈ l) (h : digitB c = false) : secF l = -1 := by
  unfold secF
  rw [if_neg]
  intro ha
  rw [List.all_eq_true.1 ha c hc] at h
  cases h
/-- The scan at place k. -/
theorem secF_end {l : List UInt8} (h : l.all digitB = true) : secF l = l.foldl stepS (-1) := by unfold secF; rw [if_pos h]

structure Ctl where
  noStore : Bool
  noCache : Bool
  priv : Bool
  pub : Bool
  must : Bool
  prox : Bool
  only : Bool
  anyStale : Bool
  maxA : Int
  sMax : Int
  minF : Int
  maxS : Int
deriving DecidableEq
def ctl0 : Ctl := ⟨false, false, false, false, false, false, false, false, -1, -1, -1, -1⟩
def Ctl.cells (c : Ctl) : List Value := [.bool c.noStore, .bool c.noCache, .bool c.priv, .bool c.pub, .bool c.must, .bool c.prox, .bool c.only, .bool c.anyStale, .int .i64 c.maxA, .int .i64 c.sMax, .int .i64 c.minF, .int .i64 c.maxS]
def Ctl.ok (c : Ctl) : Prop := (-1 ≤ c.maxA ∧ c.maxA ≤ maxAge) ∧ (-1 ≤ c.sMax ∧ c.sMax ≤ maxAge) ∧ (-1 ≤ c.minF ∧ c.minF ≤ maxAge) ∧ (-1 ≤ c.maxS ∧ c.maxS ≤ maxAge)
def leastF (old n : Int) : Int := if old = -1 ∨ n < old then n else old

def noStoreB : List UInt8 := [110, 111, 45, 115, 116, 111, 114, 101]
def noCacheB : List UInt8 := [110, 111, 45, 99, 97, 99, 104, 101]
def privateB : List UInt8 := [112, 114, 105, 118, 97, 116, 101]
def publicB : List UInt8 := [112, 117, 98, 108, 105, 99]
def mustB : List UInt8 := [109, 117, 115, 116, 45, 114, 101, 118, 97, 108, 105, 100, 97, 116, 101]
def proxyB : List UInt8 := [112, 114, 111, 120, 121, 45, 114, 101, 118, 97, 108, 105, 100, 97, 116, 101]
def onlyB : List UInt8 := [111, 110, 108, 121, 45, 105, 102, 45, 99, 97, 99, 104, 101, 100]
def maxAgeB : List UInt8 := [109, 97, 120, 45, 97, 103, 101]
def sMaxB : List UInt8 := [115, 45, 109, 97, 120, 97, 103, 101]
def minFreshB : List UInt8 := [109, 105, 110, 45, 102, 114, 101, 115, 104]
def maxStaleB : List UInt8 := [109, 97, 120, 45, 115, 116, 97, 108, 101]
def namesL : List (List UInt8) := [noStoreB, noCacheB, privateB, publicB, mustB, proxyB, onlyB, maxAgeB, sMaxB, minFreshB, maxStaleB]
/-- Which of the names it is: 11: none of them. -/
def kindF (name : List UInt8) : Nat := namesL.findIdx (name == ·)
/-- What a part of that kind does: has: there is a value; n: its seconds. -/
def actK (k : Nat) (has : Bool) (n : Int) (c : Ctl) : Ctl :=
  match k with
  | 0 => { c with noStore := true } | 1 => { c with noCache := true } | 2 => { c with priv := true } | 3 => { c with pub := true } | 4 => { c with must := true } | 5 => { c with prox := true } | 6 => { c with only := true }
  | 7 => { c with maxA := leastF c.maxA n } | 8 => { c with sMax := leastF c.sMax n } | 9 => { c with minF := leastF c.minF n }
  | 10 => if has then { c with maxS := leastF c.maxS n } else { c with anyStale := true }
  | _ => c
theorem kind_le (name : List UInt8) : kindF name ≤ 11 := List.findIdx_le_length
/-- The tests that a switch over the names makes: all ahead of its own say no. -/
theorem kind_not (name : List UInt8) (j : Nat) (hj : j < namesL.length) (h : j < kindF name) : (name == namesL[j]) = false := by
  have := List.not_of_lt_findIdx h
  simpa using this
theorem kind_is (name : List UInt8) (h : kindF name < namesL.length) : (name == namesL[kindF name]) = true := List.findIdx_getElem (w := h)
theorem leastF_in {old n : Int} (h1 : -1 ≤ old ∧ old ≤ maxAge) (h2 : 0 ≤ n ∧ n ≤ maxAge) : -1 ≤ leastF old n ∧ leastF old n ≤ maxAge := by unfold leastF; split <;> omega
theorem actK_ok {k : Nat} {has : Bool} {n : Int} {c : Ctl} (hc : c.ok) (hn : 0 ≤ n ∧ n ≤ maxAge) : (actK k has n c).ok := by
  obtain ⟨h1, h2, h3, h4⟩ := hc
  unfold actK
  split
  all_goals first
    | exact ⟨h1, h2, h3, h4⟩
    | exact ⟨leastF_in h1 hn, h2, h3, h4⟩
    | exact ⟨h1, leastF_in h2 hn, h3, h4⟩
    | exact ⟨h1, h2, leastF_in h3 hn, h4⟩
    | (split <;> first | exact ⟨h1, h2, h3, leastF_in h4 hn⟩ | exact ⟨h1, h2, h3, h4⟩)
end Go.Proofs.YtaimhfnddolilaaGreatDoor.CtrlS
namespace Go.Proofs.YtaimhfnddolilaaGreatDoor.CtrlS
open HeadMath

/-- What stands between the quotes, behind the first of them; none, if the text doesn't end with the second. -/
def walkP : List UInt8 → List UInt8 → Option (List UInt8)
  | [], _ => none
  | [c], acc => if c = 34 then some acc else none
  | c :: d :: r, acc => if c = 34 then none else if c = 92 then walkP r (acc ++ [d]) else walkP (d :: r) (acc ++ [c])
def walkR : List UInt8 → List UInt8 → List UInt8
  | [], acc => acc
  | [c], acc => acc ++ [c]
  | c :: d :: r, acc => if c = 92 then walkR r (acc ++ [d]) else walkR (d :: r) (acc ++ [c])
def unqF : List UInt8 → List UInt8
  | 34 :: r => (walkP r []).getD (34 :: r)
  | l => l
def unqR : List UInt8 → List UInt8
  | 34 :: r => if r.getLast? = some 34 then walkR r.dropLast [] else 34 :: r
  | l => l
theorem walkR_mem : ∀ (n : Nat) (r acc : List UInt8), r.length ≤ n → ∀ c ∈ acc, c ∈ walkR r acc := by
  intro n
  induction n with
  | zero =>
    intro r acc hn c hc
    obtain rfl : r = [] := List.eq_nil_of_length_eq_zero (by omega)
    exact hc
  | succ n ih =>
    intro r acc hn c hc
    match r, hn with
    | [], _ => exact hc
    | [d], _ => rw [walkR]; exact List.mem_append_left _ hc
    | d :: e :: r, hn =>
      rw [walkR]
      simp only [List.length_cons] at hn
      split
      · exact ih _ _ (by omega) _ (List.mem_append_left _ hc)
      · exact ih _ _ (by simp only [List.length_cons]; omega) _ (List.mem_append_left _ hc)
theorem walk_both : ∀ (n : Nat) (r acc : List UInt8), r.length ≤ n →
    (r.getLast? = some 34 → walkP r acc = some (walkR r.dropLast acc) ∨ (walkP r acc = none ∧ ∃ c ∈ walkR r.dropLast acc, digitB c = false)) ∧ (¬ r.getLast? = some 34 → walkP r acc = none) := by
  intro n
  induction n with
  | zero =>
    intro r acc hn
    obtain rfl : r = [] := List.eq_nil_of_length_eq_zero (by omega)
    exact ⟨fun h => (by cases h), fun _ => rfl⟩
  | succ n ih =>
    intro r acc hn
    match r, hn with
    | [], _ => exact ⟨fun h => (by cases h), fun _ => rfl⟩
    | [c], _ =>
      refine ⟨fun h => .inl ?_, fun h => ?_⟩
      · obtain rfl : c = 34 := by simpa using h
        rfl
      · have hc : ¬ c = 34 := by simpa using h
        rw [walkP, if_neg hc]
    | c :: d :: r, hn =>
      simp only [List.length_cons] at hn
      rw [walkP]
      by_cases h34 : c = 34
      · rw [if_pos h34]
        refine ⟨fun _ => .inr ⟨rfl, ?_⟩, fun _ => rfl⟩
        subst h34
        rw [List.dropLast_cons_of_ne_nil (by simp)]
        refine ⟨34, ?_, rfl⟩
        cases hd : (d :: r).dropLast with
        | nil => simp [walkR]
        | cons e t =>
          rw [walkR, if_neg (by decide)]
          exact walkR_mem _ _ _ (Nat.le_refl _) _ (by simp)
      · rw [if_neg h34]
        by_cases h92 : c = 92
        · rw [if_pos h92]
          subst h92
          cases r with
          | nil =>
            refine ⟨fun h => .inr ⟨rfl, 92, ?_, rfl⟩, fun _ => rfl⟩
            simp [walkR]
          | cons e t =>
            have := ih (e :: t) (acc ++ [d]) (by simp only [List.length_cons] at hn ⊢; omega)
            rw [List.dropLast_cons_of_ne_nil (by simp), List.dropLast_cons_of_ne_nil (by simp), walkR, if_pos rfl]
            rw [List.getLast?_cons_cons, List.getLast?_cons_cons]
            exact this
        · rw [if_neg h92]
          have := ih (d :: r) (acc ++ [c]) (by simp only [List.length_cons]; omega)
          rw [List.getLast?_cons_cons]
          refine ⟨fun h => ?_, this.2⟩
          have h1 := this.1 h
          rw [List.dropLast_cons_of_ne_nil (by simp)]
          cases hd : (d :: r).dropLast with
          | nil => rw [hd] at h1; simpa [walkR] using h1
          | cons e t => rw [hd] at h1; rw [walkR, if_neg h92]; exact h1
theorem walkP_len : ∀ (n : Nat) (r acc : List UInt8), r.length ≤ n → ∀ x, walkP r acc = some x → x.length ≤ acc.length + r.length := by
  intro n
  induction n with
  | zero =>
    intro r acc hn x hx
    obtain rfl : r = [] := List.eq_nil_of_length_eq_zero (by omega)
    cases hx
  | succ n ih =>
    intro r acc hn x hx
    match r, hn, hx with
    | [], _, hx => cases hx
    | [c], _, hx =>
      rw [walkP] at hx
      split at hx
      · injection hx with hx; subst hx; simp
      · cases hx
    | c :: d :: r, hn, hx =>
      simp only [List.length_cons] at hn
      rw [walkP] at hx
      split at hx
      · cases hx
      · split at hx
        · have := ih r (acc ++ [d]) (by omega) x hx
          simp at this ⊢; omega
        · have := ih (d :: r) (acc ++ [c]) (by simp only [List.length_cons]; omega) x hx
          simp at this ⊢; omega
theorem unqF_len (l : List UInt8) : (unqF l).length ≤ l.length := by
  unfold unqF
  split
  · rename_i r
    cases h : walkP r [] with
    | none => simp
    | some x =>
      have := walkP_len r.length r [] (Nat.le_refl _) x h
      simp at this ⊢; omega
  · exact Nat.le_refl _
theorem digit_quote : digitB 34 = false := rfl
/-- As many seconds, whichever way the quotes are taken off. -/
theorem sec_unq (l : List UInt8) : secF (unqR l) = secF (unqF l) := by
  unfold unqR unqF
  split
  · rename_i r
    have h := walk_both r.length r [] (Nat.le_refl _)
    by_cases hl : r.getLast? = some 34
    · rw [if_pos hl]
      rcases h.1 hl with e | ⟨e, c, hc, hd⟩
      · rw [e]; rfl
      · rw [e, secF_bad hc hd]
        exact (secF_bad (l := 34 :: r) (c := 34) (by simp) digit_quote).symm
    · rw [if_neg hl, h.2 hl]
      rfl
  · rfl
end Go.Proofs.YtaimhfnddolilaaGreatDoor.CtrlS
