/-
  A Reader's calls: whatever there is to read, whether it failed or not.
-/
import Derived.Test.YtekdkaiammebnaaDoorCodeCatch
namespace Go.Proofs.YtekdkaiammebnaaDoor
open Go.RowKit CodeMath

def IsRS (F : Nat → Prop) (p : Nat) (s : Option (List UInt8)) (w : World) : Prop := match s with
  | some l => IsR F p l false w
  | none => ∃ l, IsR F p l true w
theorem IsRS.spares {F G : Nat → Prop} {p : Nat} {s : Option (List UInt8)} {w w' : World} (h : IsRS F p s w) (hs : Spares G w w') (hn : ∀ k, F k → ¬ G k) : IsRS F p s w' := by
  cases s with
  | some l => exact IsR.spares h hs hn
  | none => obtain ⟨l, h⟩ := h; exact ⟨l, h.spares hs hn⟩
/-- A failure is noted in the Reader, and nothing else of it turns. -/
theorem IsR.fail {F : Nat → Prop} {p : Nat} {l : List UInt8} {f : Bool} {w : World} (h : IsR F p l f w) : w.cell? ⟨p, 1, none⟩ = some (.bool f) ∧ w.frozen? ⟨p, 1, none⟩ = false ∧ IsR F p l true (w.setCell ⟨p, 1, none⟩ (.bool true)) := by
  obtain ⟨h1, h2, a, c, h3, h4, h5, h6, h7⟩ := h
  have hs : Spares (fun b => b = p) w (w.setCell ⟨p, 1, none⟩ (.bool true)) := Spares.setCell (F := fun b => b = p) (Spares.refl _ w) (p := ⟨p, 1, none⟩) (.inl rfl) _
  exact ⟨by rw [Lib.cell_of_heap h3]; rfl, Lib.frozen_of_heap h3 1, h1, fun k hk => Nat.lt_of_lt_of_le (h2 k hk) hs.size, a, c, heap_set h3 1 _, h4.spares hs (fun b off e => (h7 b off e).2), h5, h6, h7⟩

def Numbered (F : Nat → Prop) (p : Nat) (r : Nat × Option (List UInt8)) (w : World) (e : Ending) (w' : World) : Prop := e = .returned (.int .u64 r.1) ∧ IsRS F p r.2 w' ∧ Spares (fun b => b = p) w w'

theorem box_cells (w : World) (t1 t2 : TypeId) (x y : Value) (o1 o2 : Obj) (h1 : o1 = .cells #[x] t1) (h2 : o2 = .cells #[y] t2) : ((w.alloc o1).alloc o2).heap[w.heap.size]? = some (.cells #[x] t1 (0, 0)) ∧ ((w.alloc o1).alloc o2).heap[w.heap.size + 1]? = some (.cells #[y] t2 (0, 0)) := by
  subst h1; subst h2
  refine ⟨?_, ?_⟩
  · rw [Lib.alloc_old _ _ _ (by simp)]; exact heap_alloc_new w _
  · have := heap_alloc_new (w.alloc (.cells #[x] t1)) (.cells #[y] t2)
    simpa using this

theorem one_set {w : World} {g : Nat} {t : TypeId} {x : Value} (h : w.heap[g]? = some (.cells #[x] t (0, 0))) (u : Value) : (w.setCell ⟨g, 0, none⟩ u).cell? ⟨g, 0, none⟩ = some u := by
  rw [Lib.cell_of_heap (heap_set h 0 u)]; rfl

set_option maxRecDepth 100000 in
set_option maxHeartbeats 1000000 in
theorem rNum_some (F : Nat → Prop) (p : Nat) (l : List UInt8) (w : World) (h : IsR F p l false w) (hl : l.length ≤ 140737488355328) :
    Calls Tryd.prog 20 #[.pointer (some ⟨p, 0, none⟩)] w (Numbered F p (readNum (some l)) w) := by
  have H := Lib.hid ((h.alloc (.cells #[.pointer (some ⟨p, 0, none⟩)] 40)).alloc (.cells #[.int .u64 0] 28))
  have hp : p < w.heap.size := h.2.1 p h.1
  have HF2 := Lib.hid h.2.1
  have hmf : ∀ (fn : Fn) (first cap : Array Value) (w : World), (Instr.makeFunc fn first cap).run Tryd.prog w = .ok (.func fn first cap) w := fun _ _ _ _ => rfl
  clear h
  go_enter_defers Tryd.func20, Tryd.ntmps20
  go_wp2_with fail
  refine (num_any F p l _ H.out hl).mono ?_
  rintro e w1 ⟨h1, hs1⟩
  obtain ⟨e1, e2⟩ := box_cells w 40 28 (.pointer (some ⟨p, 0, none⟩)) (.int .u64 0) _ _ rfl rfl
  replace e1 := hs1.heap e1 (by omega)
  replace e2 := hs1.heap e2 (by omega)
  have c1 : w1.cell? ⟨w.heap.size, 0, none⟩ = some (.pointer (some ⟨p, 0, none⟩)) := by rw [Lib.cell_of_heap e1]; rfl
  have c2 : w1.cell? ⟨w.heap.size + 1, 0, none⟩ = some (.int .u64 0) := by rw [Lib.cell_of_heap e2]; rfl
  have f2 : w1.frozen? ⟨w.heap.size + 1, 0, none⟩ = false := Lib.frozen_of_heap e2 0
  have HS : Hid (Spares (fun b => b = p) w w1) := Lib.hid (((Spares.refl _ w).alloc _).alloc _ |>.trans hs1)
  have E2 := Lib.hid e2
  clear e1 e2 hs1
  obtain ⟨r, hr⟩ : ∃ r, numR 10 0 l = r := ⟨_, rfl⟩
  rw [hr] at h1
  cases r with
  | none =>
    obtain ⟨rfl, l', f', h1⟩ := h1
    have HE : Hid (readNum (some l) = (0, none)) := Lib.hid (by simp only [readNum, hr])
    obtain ⟨x1, x2, x3⟩ := h1.fail
    have X3 := Lib.hid x3
    have hpn : ¬ w.heap.size + 1 = p := by omega
    clear h1 hr x3
    go_wp2
    refine leaves_cons (f := 33) (args := #[.pointer (some ⟨w.heap.size, 0, none⟩), .pointer (some ⟨w.heap.size + 1, 0, none⟩)]) (by simp) (by simp [go_sem]) ?_
    refine (numCatch_panicking p w.heap.size (w.heap.size + 1) 71 _ f' _ [] _ c1 x1 x2 c2 f2 hpn).mono ?_
    rintro e u' w'' ⟨rfl, rfl, rfl⟩
    have hsp : Spares (fun b => b = p) w1 (w1.setCell ⟨p, 1, none⟩ (.bool true)) := Spares.setCell (F := fun b => b = p) (Spares.refl _ w1) (p := ⟨p, 1, none⟩) (.inl rfl) _
    have d2 := one_set (hsp.heap E2.out (by omega)) (.int .u64 0)
    simp [Leaves, settle, results, Tryd.results20, go_sem, d2]
    have hs3 : Spares (fun b => b = w.heap.size + 1) (w1.setCell ⟨p, 1, none⟩ (.bool true)) ((w1.setCell ⟨p, 1, none⟩ (.bool true)).setCell ⟨w.heap.size + 1, 0, none⟩ (.int .u64 0)) := Spares.setCell (F := fun b => b = w.heap.size + 1) (Spares.refl _ _) (p := ⟨w.heap.size + 1, 0, none⟩) (.inl rfl) _
    exact ⟨by rw [HE.out]; rfl, by rw [HE.out]; exact ⟨l', X3.out.spares hs3 (fun k hk e => absurd (HF2.out k hk) (by omega))⟩, (HS.out.trans hsp).trans' hs3 (fun b hb => .inr (by omega))⟩
  | some r =>
    obtain ⟨n, t⟩ := r
    obtain ⟨rfl, h1⟩ := h1
    have HE : Hid (readNum (some l) = (n, some t)) := Lib.hid (by simp only [readNum, hr])
    have H1 := Lib.hid h1
    clear h1 hr
    go_wp2
    refine leaves_cons (f := 33) (args := #[.pointer (some ⟨w.heap.size, 0, none⟩), .pointer (some ⟨w.heap.size + 1, 0, none⟩)]) (by simp) (by simp [go_sem]) ?_
    refine (numCatch_idle w.heap.size (w.heap.size + 1) _).mono ?_
    rintro e u' w'' ⟨rfl, rfl, rfl⟩
    have d2 := one_set E2.out (.int .u64 n)
    have hs3 : Spares (fun b => b = w.heap.size + 1) w1 (w1.setCell ⟨w.heap.size + 1, 0, none⟩ (.int .u64 n)) := Spares.setCell (F := fun b => b = w.heap.size + 1) (Spares.refl _ _) (p := ⟨w.heap.size + 1, 0, none⟩) (.inl rfl) _
    simp [Leaves, settle, results, Tryd.results20, go_sem, d2]
    exact ⟨by rw [HE.out], by rw [HE.out]; exact H1.out.spares hs3 (fun k hk e => absurd (HF2.out k hk) (by omega)), HS.out.trans' hs3 (fun b hb => .inr (by omega))⟩

set_option maxRecDepth 100000 in
set_option maxHeartbeats 1000000 in
theorem rNum_none (F : Nat → Prop) (p : Nat) (l : List UInt8) (w : World) (h : IsR F p l true w) :
    Calls Tryd.prog 20 #[.pointer (some ⟨p, 0, none⟩)] w (Numbered F p (readNum none) w) := by
  have h' := (h.alloc (.cells #[.pointer (some ⟨p, 0, none⟩)] 40)).alloc (.cells #[.int .u64 0] 28)
  have H := Lib.hid h'
  have hp : p < w.heap.size := h.2.1 p h.1
  have HF2 := Lib.hid h.2.1
  obtain ⟨x1, x2, x3⟩ := h'.fail
  have X3 := Lib.hid x3
  obtain ⟨e1, e2⟩ := box_cells w 40 28 (.pointer (some ⟨p, 0, none⟩)) (.int .u64 0) _ _ rfl rfl
  have E1 := Lib.hid e1
  have E2 := Lib.hid e2
  have X1 := Lib.hid x1
  have X2 := Lib.hid x2
  have hmf : ∀ (fn : Fn) (first cap : Array Value) (w : World), (Instr.makeFunc fn first cap).run Tryd.prog w = .ok (.func fn first cap) w := fun _ _ _ _ => rfl
  clear h h' x1 x2 x3 e1 e2
  go_enter_defers Tryd.func20, Tryd.ntmps20
  go_wp2_with fail
  refine (num_failed F p l _ H.out).mono ?_
  rintro e w1 ⟨rfl, hw⟩
  have c1 : w1.cell? ⟨w.heap.size, 0, none⟩ = some (.pointer (some ⟨p, 0, none⟩)) := by rw [← hw, Lib.cell_of_heap E1.out]; rfl
  have c2 : w1.cell? ⟨w.heap.size + 1, 0, none⟩ = some (.int .u64 0) := by rw [← hw, Lib.cell_of_heap E2.out]; rfl
  have f2 : w1.frozen? ⟨w.heap.size + 1, 0, none⟩ = false := by rw [← hw]; exact Lib.frozen_of_heap E2.out 0
  have x1 : w1.cell? ⟨p, 1, none⟩ = some (.bool true) := by rw [← hw]; exact X1.out
  have x2 : w1.frozen? ⟨p, 1, none⟩ = false := by rw [← hw]; exact X2.out
  have HS : Hid (Spares (fun b => b = p) w w1) := Lib.hid (by rw [← hw]; exact ((Spares.refl _ w).alloc _).alloc _)
  have X4 : Hid (IsR F p l true (w1.setCell ⟨p, 1, none⟩ (.bool true))) := Lib.hid (by rw [← hw]; exact X3.out)
  have E3 : Hid (w1.heap[w.heap.size + 1]? = some (.cells #[.int .u64 0] 28 (0, 0))) := Lib.hid (by rw [← hw]; exact E2.out)
  have hpn : ¬ w.heap.size + 1 = p := by omega
  clear hw
  go_wp2
  refine leaves_cons (f := 33) (args := #[.pointer (some ⟨w.heap.size, 0, none⟩), .pointer (some ⟨w.heap.size + 1, 0, none⟩)]) (by simp) (by simp [go_sem]) ?_
  refine (numCatch_panicking p w.heap.size (w.heap.size + 1) 71 _ true _ [] _ c1 x1 x2 c2 f2 hpn).mono ?_
  rintro e u' w'' ⟨rfl, rfl, rfl⟩
  have hsp : Spares (fun b => b = p) w1 (w1.setCell ⟨p, 1, none⟩ (.bool true)) := Spares.setCell (F := fun b => b = p) (Spares.refl _ w1) (p := ⟨p, 1, none⟩) (.inl rfl) _
  have d2 := one_set (hsp.heap E3.out (by omega)) (.int .u64 0)
  simp [Leaves, settle, results, Tryd.results20, go_sem, d2]
  have hs3 : Spares (fun b => b = w.heap.size + 1) (w1.setCell ⟨p, 1, none⟩ (.bool true)) ((w1.setCell ⟨p, 1, none⟩ (.bool true)).setCell ⟨w.heap.size + 1, 0, none⟩ (.int .u64 0)) := Spares.setCell (F := fun b => b = w.heap.size + 1) (Spares.refl _ _) (p := ⟨w.heap.size + 1, 0, none⟩) (.inl rfl) _
  exact ⟨rfl, ⟨l, X4.out.spares hs3 (fun k hk e => absurd (HF2.out k hk) (by omega))⟩, (HS.out.trans hsp).trans' hs3 (fun b hb => .inr (by omega))⟩
theorem rNum_any (F : Nat → Prop) (p : Nat) (s : Option (List UInt8)) (w : World) (h : IsRS F p s w) (hl : ∀ l, s = some l → l.length ≤ 140737488355328) :
    Calls Tryd.prog 20 #[.pointer (some ⟨p, 0, none⟩)] w (Numbered F p (readNum s) w) := by
  cases s with
  | some l => exact rNum_some F p l w h (hl l rfl)
  | none => obtain ⟨l, h⟩ := h; exact rNum_none F p l w h
end Go.Proofs.YtekdkaiammebnaaDoor
