/-
  What a call spares: all blocks but those of a footprint; and append's law that tells where the row lies afterwards.
-/
import Derived.WalkKit
import Derived.Below
import Derived.Lib.Hide
import Derived.WalkSmall
import Derived.Laws.OwnMore
import Derived.Laws.AppendOwnNone
import Derived.Lib.AppendStr
import Derived.Lib.UnsafeStr
import Derived.ArgAppend
namespace Go.Proofs.Ytihbjkdgfflnfaa
open Go.RowKit

/-- All that stood in w stands in w' as it did, but for the blocks of F. -/
structure Spares (F : Nat → Prop) (w w' : World) : Prop where
  os : w'.os = w.os
  tape : w'.tape = w.tape
  output : w'.output = w.output
  size : w.heap.size ≤ w'.heap.size
  block : ∀ k, k < w.heap.size → ¬ F k → w'.heap[k]? = w.heap[k]?
def nowhere : Nat → Prop := fun _ => False
theorem Spares.refl (F : Nat → Prop) (w : World) : Spares F w w := ⟨rfl, rfl, rfl, Nat.le_refl _, fun _ _ _ => rfl⟩
theorem Spares.trans' {F F' : Nat → Prop} {w w' w'' : World} (h : Spares F w w') (k : Spares F' w' w'') (hF : ∀ b, F' b → F b ∨ w.heap.size ≤ b) : Spares F w w'' :=
  ⟨k.os.trans h.os, k.tape.trans h.tape, k.output.trans h.output, Nat.le_trans h.size k.size, fun b hb hn => by
    rw [k.block b (Nat.lt_of_lt_of_le hb h.size) (fun hf => (hF b hf).elim hn (fun hge => absurd hb (Nat.not_lt.2 hge)))]
    exact h.block b hb hn⟩
theorem Spares.trans {F : Nat → Prop} {w w' w'' : World} (h : Spares F w w') (k : Spares F w' w'') : Spares F w w'' := h.trans' k fun _ hb => .inl hb
theorem Spares.mono {F F' : Nat → Prop} {w w' : World} (h : Spares F w w') (hF : ∀ b, F b → F' b ∨ w.heap.size ≤ b) : Spares F' w w' := (Spares.refl F' w).trans' h hF
theorem Spares.alloc {F : Nat → Prop} {w w' : World} (h : Spares F w w') (o : Obj) : Spares F w (w'.alloc o) :=
  h.trans ⟨rfl, rfl, rfl, by simp, fun b hb _ => Below.heap_alloc w' o b hb⟩
theorem Spares.drew {F : Nat → Prop} {w w' : World} (h : Spares F w w') : Spares F w w'.drew := h.trans ⟨rfl, rfl, rfl, Nat.le_refl _, fun _ _ _ => rfl⟩
theorem Spares.drewN {F : Nat → Prop} {w w' : World} (h : Spares F w w') (n : Nat) : Spares F w (w'.drewN n) := h.trans ⟨rfl, rfl, rfl, Nat.le_refl _, fun _ _ _ => rfl⟩
theorem Spares.setCell {F : Nat → Prop} {w w' : World} (h : Spares F w w') {p : Addr} (hp : F p.block ∨ w.heap.size ≤ p.block) (u : Value) : Spares F w (w'.setCell p u) :=
  h.trans' (F' := fun b => b = p.block) ⟨rfl, rfl, rfl, by simp, fun b _ hn => Below.heap_setCell w' p u b hn⟩ (fun b hb => by subst hb; exact hp)
theorem Spares.grown {F : Nat → Prop} {w w' w'' : World} {row : Option Nat} (h : Spares F w w') (hg : w'.grownBy w'' row) (hrow : ∀ k, row = some k → F k ∨ w.heap.size ≤ k) : Spares F w w'' :=
  h.trans' (F' := fun b => row = some b) ⟨hg.os, hg.tape, hg.output, hg.size, fun b hb hn => hg.block b hb (fun e => hn e.symm)⟩ hrow
theorem Below.spares {F : Nat → Prop} {w w' : World} {B : Nat} (h : Below B w w') (hB : ∀ k, B ≤ k → F k ∨ w.heap.size ≤ k) : Spares F w w' :=
  ⟨h.os, h.tape, h.output, h.size, fun b hb hn => by
    rcases Nat.lt_or_ge b B with hlt | hge
    · exact h.block b hlt
    · exact (hB b hge).elim (fun e => absurd e hn) (fun e => absurd hb (Nat.not_lt.2 e))⟩
theorem Spares.below {F : Nat → Prop} {w w' : World} {B : Nat} (h : Spares F w w') (hB : B ≤ w.heap.size) (hF : ∀ k, k < B → ¬ F k) : Below B w w' :=
  ⟨h.os, h.tape, h.output, h.size, fun b hb => h.block b (Nat.lt_of_lt_of_le hb hB) (hF b hb)⟩
theorem Spares.below0 {w w' : World} (h : Spares nowhere w w') : Below w.heap.size w w' := h.below (Nat.le_refl _) (fun _ _ h => h)
theorem Spares.heap {F : Nat → Prop} {w w' : World} (h : Spares F w w') {b : Nat} {o : Obj} (hb : w.heap[b]? = some o) (hn : ¬ F b) : w'.heap[b]? = some o := by
  rw [h.block b (Array.getElem?_eq_some_iff.1 hb).1 hn]; exact hb
theorem Spares.cell {F : Nat → Prop} {w w' : World} (h : Spares F w w') {p : Addr} (hp : p.block < w.heap.size) (hn : ¬ F p.block) : w'.cell? p = w.cell? p := World.cell?_of_block (h.block _ hp hn)
theorem Spares.own {F : Nat → Prop} {w w' : World} (h : Spares F w w') {B n size : Nat} {e : TypeId} {v : Value} {xs : List Value} (ho : w.ownsRow B e size v n xs) (hn : ∀ g, v.ownBlock = some g → ¬ F g) : w'.ownsRow B e size v n xs := by
  refine ⟨ho.1, ?_⟩
  rcases ho.2 with h0 | ⟨g, cap, cur, hv, hB, hg, hrest⟩
  · exact .inl h0
  · exact .inr ⟨g, cap, cur, hv, hB, h.heap hg (hn g (by rw [hv]; rfl)), hrest⟩

section
variable {P : Program} {w : World}
theorem append_where (t ty e : TypeId) (i : TypeInfo) (z : Value) (size bytes : Nat) (ht : P.underlying t = some (.slice e)) (hi : P.info? e = some i) (hz : i.zero = some z)
    (hsize : i.size = size) (hby : i.bytes = bytes) (hzs : z.cells.size = size) (hsz : 0 < size)
    (base : Nat) (v : Value) (n : Nat) (xs : List Value) (hown : w.ownsRow base e size v n xs)
    (a : Addr) (m c : Nat) (news : List Value) (hl : news.length = m * size) (hnews : ∀ j u, news[j]? = some u → w.cell? (a.add j) = some u) (h1 : ∀ u ∈ news, u.oneCell' = true)
    (h63 : n + m ≤ maxLen) (hbytes : (n + m) * bytes ≤ 140737488355328) {v' : Value} {w' : World}
    (hrun : (Builtin.append_ #[t, t] ty #[v, .slice (some a) m c]).run P w = .ok v' w') : ∀ g, v'.ownBlock = some g → v.ownBlock = some g ∨ w.heap.size ≤ g := by
  subst hsize
  subst hby
  intro g hg
  rcases hown.2 with ⟨rfl, rfl⟩ | ⟨k, cap, cur, rfl, _, hk, _, _, hcs, _⟩
  · obtain rfl : xs = [] := List.eq_nil_of_length_eq_zero (by simpa using hown.1)
    obtain ⟨v2, w2, hr, ho, _, _⟩ := run_append_own (P := P) w w.heap.size t ty e i z i.size i.bytes ht hi hz rfl rfl hzs hsz _ 0 [] (World.ownsRow_nil w _ e _) a m c news hl hnews h1 h63 hbytes (Nat.le_refl _)
    rw [hr] at hrun
    injection hrun with e1 e2
    subst e1
    exact .inr (ho.lt g hg).1
  · by_cases hroom : n + m ≤ cap
    · have hfit : n * i.size + news.length ≤ cur.size := by rw [hl, hcs, ← Nat.add_mul]; exact Nat.mul_le_mul_right _ hroom
      have hr := run_append_room (P := P) w t ty e i ht hi k n cap cur hk a m c news hl hnews h1 hroom hfit
      rw [hr] at hrun
      injection hrun with e1 e2
      subst e1
      exact .inl hg
    · have holds : ∀ j u, xs[j]? = some u → w.cell? ((⟨k, 0, none⟩ : Addr).add j) = some u := hown.cells (g := k) rfl
      have hs63 : n + m ≤ 9223372036854775807 := by simp only [maxLen] at h63; omega
      have hr := run_append_grow (P := P) w t ty e i z ht hi hz ⟨k, 0, none⟩ n cap xs hown.1 holds a m c news hl hnews (by omega) (by omega) (growslice_fits (by omega) hbytes)
      rw [hr] at hrun
      injection hrun with e1 e2
      subst e1
      refine .inr ?_
      simp only [Value.ownBlock, Option.some.injEq] at hg
      omega

/-- append of a slice's cells to a row of the call's own, and where the row lies then. -/
theorem wpList_append_fresh {ops : Array Oper} {rest : List Oper} {o : Oper} {a : Act} {Q : Exit → Act → World → Prop} (hgd : o.guard = none) (s x : Operand) (t : TypeId)
    (ho : o.op = .call { callee := .builtin .append, args := #[s, x], argTypes := #[t, t] })
    (e : TypeId) (i : TypeInfo) (z : Value) (size bytes : Nat) (ht : P.underlying t = some (.slice e)) (hi : P.info? e = some i) (hz : i.zero = some z)
    (hsize : i.size = size) (hby : i.bytes = bytes) (hzs : z.cells.size = size) (hsz : 0 < size)
    (v : Value) (n : Nat) (xs : List Value) (hs : a.eval s = v) (hown : w.ownsRow 0 e size v n xs)
    (ad : Addr) (m c : Nat) (news : List Value) (hx : a.eval x = .slice (some ad) m c) (hl : news.length = m * size) (hnews : ∀ j u, news[j]? = some u → w.cell? (ad.add j) = some u) (h1 : ∀ u ∈ news, u.oneCell' = true)
    (h63 : n + m ≤ maxLen) (hbytes : (n + m) * bytes ≤ 140737488355328)
    (h : ∀ v' w', w'.ownsRow 0 e size v' (n + m) (xs ++ news) → w.grownBy w' v.ownBlock → (∀ g, v'.ownBlock = some g → v.ownBlock = some g ∨ w.heap.size ≤ g) → wpList P ops Q rest (a.put o.dst v') w') : wpList P ops Q (o :: rest) a w := by
  refine wpList_plain hgd fun K hK => ?_
  obtain ⟨v', w', hr, h2, h3, _⟩ := run_append_own (P := P) w 0 t o.type e i z size bytes ht hi hz hsize hby hzs hsz v n xs hown ad m c news hl hnews h1 h63 hbytes (Nat.zero_le _)
  have h4 := append_where t o.type e i z size bytes ht hi hz hsize hby hzs hsz 0 v n xs hown ad m c news hl hnews h1 h63 hbytes hr
  unfold Oper.wp
  simp [execOp, ho, resolve, invoke, builtin, hs, hx, hr, Result.andThen]
  exact hK _ _ (h v' w' h2 h3 h4)
end

/-- The slice that starts at a reads as the bytes l. -/
def BytesAt (w : World) (a : Option Addr) (l : List UInt8) : Prop :=
  ∀ k (h : k < l.length), ∃ b off, a = some ⟨b, off, none⟩ ∧ w.cell? ⟨b, off + k, none⟩ = some (.int .u8 l[k].toNat)
theorem bytesAt_nil (w : World) (a : Option Addr) : BytesAt w a [] := fun _ h => absurd h (Nat.not_lt_zero _)
theorem BytesAt.cells {w : World} {b off : Nat} {l : List UInt8} (h : BytesAt w (some ⟨b, off, none⟩) l) : ∀ j u, (Lib.byteCells l)[j]? = some u → w.cell? ((⟨b, off, none⟩ : Addr).add j) = some u := by
  intro j u hj
  unfold Lib.byteCells at hj
  rw [List.getElem?_map] at hj
  obtain ⟨x, hx, rfl⟩ := Option.map_eq_some_iff.1 hj
  obtain ⟨hlt, rfl⟩ := List.getElem?_eq_some_iff.1 hx
  obtain ⟨b', off', he, hc⟩ := h j hlt
  injection he with he
  injection he with h1 h2 h3
  subst h1; subst h2
  rw [Addr.add_lit]
  exact hc
theorem BytesAt.spares {F : Nat → Prop} {w w' : World} {a : Option Addr} {l : List UInt8} (h : BytesAt w a l) (hs : Spares F w w') (hn : ∀ b off, a = some ⟨b, off, none⟩ → ¬ F b) : BytesAt w' a l := by
  intro k hk
  obtain ⟨b, off, rfl, hc⟩ := h k hk
  have hlt : b < w.heap.size := by
    rcases Nat.lt_or_ge b w.heap.size with h | h
    · exact h
    · simp [World.cell?, Array.getElem?_eq_none h] at hc
  exact ⟨b, off, rfl, (hs.cell (p := ⟨b, off + k, none⟩) hlt (hn _ _ rfl)).trans hc⟩
theorem BytesAt.spares' {F : Nat → Prop} {w w' : World} {a : Option Addr} {l : List UInt8} (h : BytesAt w a l) (hs : Spares F w w') (hn : 0 < l.length → ∀ b off, a = some ⟨b, off, none⟩ → ¬ F b) : BytesAt w' a l := by
  by_cases hl : 0 < l.length
  · exact h.spares hs (hn hl)
  · exact fun k hk => absurd hk (by omega)
theorem bytesAt_own {w : World} {base n c : Nat} {e : TypeId} {a : Option Addr} {l : List UInt8} (h : w.ownsRow base e 1 (.slice a n c) n (Lib.byteCells l)) : BytesAt w a l := by
  intro k hk
  rcases h.2 with ⟨h1, h2⟩ | ⟨g, cap, cur, hv, _⟩
  · subst h2
    have := h.1
    simp [Lib.byteCells] at this
    subst this
    exact absurd hk (Nat.not_lt_zero _)
  · injection hv with hv _ _
    subst hv
    refine ⟨g, 0, rfl, ?_⟩
    have := h.cells (g := g) rfl k (.int .u8 l[k].toNat) (by unfold Lib.byteCells; rw [List.getElem?_map, List.getElem?_eq_getElem hk]; rfl)
    rw [Addr.add_lit] at this
    exact this
theorem byteCells_len (l : List UInt8) : (Lib.byteCells l).length = l.length := by simp [Lib.byteCells]
theorem byteCells_app (a b : List UInt8) : Lib.byteCells (a ++ b) = Lib.byteCells a ++ Lib.byteCells b := by simp [Lib.byteCells]
theorem byteCells_one (l : List UInt8) : ∀ u ∈ Lib.byteCells l, u.oneCell' = true := by
  intro u hu
  obtain ⟨x, _, rfl⟩ := List.mem_map.1 hu
  rfl
end Go.Proofs.Ytihbjkdgfflnfaa
