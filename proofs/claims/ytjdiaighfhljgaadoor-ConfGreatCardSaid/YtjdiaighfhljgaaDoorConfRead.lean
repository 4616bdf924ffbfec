/-
  conf.read: one line, kind by kind.
-/
import Derived.Test.YtjdiaighfhljgaaDoorConfMath
import Derived.Deep.AppendLies
import Derived.Laws.OwnMore
namespace Go.Proofs.YtjdiaighfhljgaaDoor
open Go.RowKit GlobMath DateMath

/-- The settings in block p; the rules' row lies at or behind B. -/
def IsC (B p : Nat) (c : ConfS) (w : World) : Prop := p < B ∧ B ≤ w.heap.size ∧ ∃ v xs, w.heap[p]? = some (.cells #[v, .bool c.ranges, .string c.console, .int .i64 c.log] 27 (0, 0)) ∧ w.ownsRow B 50 4 v c.n xs
def foot (B p : Nat) : Nat → Prop := fun b => b = p ∨ B ≤ b
theorem IsC.spares {B p : Nat} {c : ConfS} {w w' : World} (h : IsC B p c w) (hs : Spares nowhere w w') : IsC B p c w' := by
  obtain ⟨h1, h2, v, xs, h3, h4⟩ := h
  exact ⟨h1, Nat.le_trans h2 hs.size, v, xs, hs.heap h3 (fun h => h), hs.own h4 (fun _ _ h => h)⟩
/-- A cell of the settings is written. -/
theorem IsC.set {B p i : Nat} {c d : ConfS} {u : Value} {w : World} (h : IsC B p c w) (hd : ∀ v : Value, (#[v, .bool c.ranges, .string c.console, .int .i64 c.log] : Array Value).setIfInBounds i u = #[v, .bool d.ranges, .string d.console, .int .i64 d.log]) (hn : d.n = c.n) : IsC B p d (w.setCell ⟨p, i, none⟩ u) := by
  obtain ⟨h1, h2, v, xs, h3, h4⟩ := h
  have hs : Spares (fun b => b = p) w (w.setCell ⟨p, i, none⟩ u) := Spares.setCell (F := fun b => b = p) (Spares.refl _ w) (p := ⟨p, i, none⟩) (.inl rfl) _
  refine ⟨h1, Nat.le_trans h2 hs.size, v, xs, ?_, ?_⟩
  · simp only [World.setCell, Array.getElem?_modify, h3]
    simp [hd]
  · rw [hn]
    refine hs.own h4 (fun g hg e => ?_)
    have := (World.ownsRow.lt h4 g hg).1
    omega
theorem IsC.put {B p : Nat} {c : ConfS} {w : World} (_h : IsC B p c w) (i : Nat) (u : Value) : Spares (foot B p) w (w.setCell ⟨p, i, none⟩ u) := Spares.setCell (F := foot B p) (Spares.refl _ w) (p := ⟨p, i, none⟩) (.inl (.inl rfl)) _
def FaultE : Ending := .panicked [{ v := .iface 36 (.agg #[]), recovered := false }]
def Fell (w : World) (e : Ending) (w' : World) : Prop := e = FaultE ∧ w' = w
def ReadPost (B p : Nat) (c : ConfS) (k : Kind) (w : World) (e : Ending) (w' : World) : Prop :=
  (match stepC c k with
    | some d => e = .returned (.tuple #[]) ∧ IsC B p d w'
    | none => e = FaultE ∧ IsC B p c w') ∧ Spares (foot B p) w w'
theorem readPost_some {B p : Nat} {c d : ConfS} {k : Kind} {w w' : World} {e : Ending} (h : stepC c k = some d) (he : e = .returned (.tuple #[])) (hi : IsC B p d w') (hs : Spares (foot B p) w w') : ReadPost B p c k w e w' := ⟨by rw [h]; exact ⟨he, hi⟩, hs⟩
theorem readPost_none {B p : Nat} {c : ConfS} {k : Kind} {w w' : World} {e : Ending} (h : stepC c k = none) (he : e = FaultE) (hi : IsC B p c w') (hs : Spares (foot B p) w w') : ReadPost B p c k w e w' := ⟨by rw [h]; exact ⟨he, hi⟩, hs⟩
theorem spares_foot {B p : Nat} {w w' : World} (h : Spares nowhere w w') : Spares (foot B p) w w' := h.mono (fun _ h => by cases h)
theorem below_none {w w' : World} (h : Below w.heap.size w w') : Spares nowhere w w' := Below.spares h (fun _ hk => .inr hk)

theorem demand_yes (w : World) : Calls Tryd.prog 15 #[.bool true] w fun e w' => e = .returned (.tuple #[]) ∧ w' = w := by
  go_enter Tryd.func15, Tryd.ntmps15
  go_wp2
  first | go_end0 | (simp only [Exit.inBlock, Exit.then]; refine bodyPost_ret (results_none rfl _ _ _) rfl ?_) | refine bodyPost_ret (results_none rfl _ _ _) rfl ?_
  exact ⟨rfl, rfl⟩
theorem demand_no (w : World) : Calls Tryd.prog 15 #[.bool false] w (Fell w) := by
  go_enter Tryd.func15, Tryd.ntmps15
  go_wp2
  exact ⟨rfl, rfl, rfl⟩
set_option maxHeartbeats 4000000 in
theorem read_quiet (B p : Nat) (c : ConfS) (s : ByteArray) (w : World) (hs : s.size ≤ 1000000) (hk : KindOf s .quiet) (hC : IsC B p c w) : Calls Tryd.prog 11 #[.pointer (some ⟨p, 0, none⟩), .string s] w (ReadPost B p c .quiet w) := by
  have HC := Lib.hid hC
  clear hC
  have cW := fun w => words_any s w hs
  unfold WordsPost at cW
  rcases hk with hL | ⟨x, r, hL, hx, h35⟩
  · simp only [hL] at cW
    go_enter Tryd.func11, Tryd.ntmps11
    go_wp2_with fail
    refine (cW w).mono ?_
    rintro e v2 ⟨v, rfl, hr, hb⟩
    have HS := Lib.hid (below_none hb)
    rcases hr.shape with ⟨rfl, hl0⟩ | ⟨g, cp, rfl, _, hg, hc, hcells⟩
    · clear hr hl0 hb cW
      go_wp2
      first | go_end0 | (simp only [Exit.inBlock, Exit.then]; refine bodyPost_ret (results_none rfl _ _ _) rfl ?_) | refine bodyPost_ret (results_none rfl _ _ _) rfl ?_
      exact readPost_some (d := c) rfl rfl (HC.out.spares HS.out) (spares_foot HS.out)
    · clear hr hb cW hcells
      go_wp2
      first | go_end0 | (simp only [Exit.inBlock, Exit.then]; refine bodyPost_ret (results_none rfl _ _ _) rfl ?_) | refine bodyPost_ret (results_none rfl _ _ _) rfl ?_
      exact readPost_some (d := c) rfl rfl (HC.out.spares HS.out) (spares_foot HS.out)
  · simp only [hL] at cW
    have q : ((x[0].toNat : Int) == 35) = true := by rw [h35]; rfl
    clear h35
    go_enter Tryd.func11, Tryd.ntmps11
    go_wp2_with fail
    refine (cW w).mono ?_
    rintro e v2 ⟨v, rfl, hr, hb⟩
    have HS := Lib.hid (below_none hb)
    rcases hr.shape with ⟨rfl, hl0⟩ | ⟨g, cp, rfl, _, hg, hc, hcells⟩
    · cases hl0
    · have c0 : v2.cell? ⟨g, 0, none⟩ = some (.string x) := hcells 0 (Nat.zero_lt_succ _)
      have e0 : (((x :: r).length : Int) == 0) = false := by simp; omega
      obtain ⟨n, hn⟩ : ∃ n, (x :: r).length = n := ⟨_, rfl⟩
      rw [hn] at hc e0 ⊢
      have h1 : 1 ≤ n := by rw [← hn]; simp
      clear hr hb cW hcells hn
      go_wp2
      first | go_end0 | (simp only [Exit.inBlock, Exit.then]; refine bodyPost_ret (results_none rfl _ _ _) rfl ?_) | refine bodyPost_ret (results_none rfl _ _ _) rfl ?_
      exact readPost_some (d := c) rfl rfl (HC.out.spares HS.out) (spares_foot HS.out)
end Go.Proofs.YtjdiaighfhljgaaDoor
