/-
  chunk.Open: a body in chunks.
-/
import Derived.Deep.AppendLies
import Derived.Test.YtjpmofnnjdhamaaGreatDoorMg3
import Derived.Test.YtjpmofnnjdhamaaGreatDoorMg4
namespace Go.Proofs.YtjpmofnnjdhamaaGreatDoor
open Go.RowKit HeadMath NormMath NormS HeadS ChunkMath

def OpenPost (b : Bs) (r : Except Nat (Bs × Bs)) (w : World) (e : Ending) (w' : World) : Prop := (match r with
  | .error n => e = .returned (.tuple #[.slice none 0 0, .int .i64 0, .int .i64 n])
  | .ok (body, s) => ∃ v, e = .returned (.tuple #[v, .int .i64 ((b.length - s.length : Nat) : Int), .int .i64 0]) ∧ Row8 w.heap.size w' v body) ∧ Spares nowhere w w'
/-- Where Open stands: its three boxes, its reader, the body so far. -/
structure OpenAt (w : World) (a : Option Addr) (c : Nat) (b body : Bs) (j : Nat) (v : Value) (wr : World) : Prop where
  b0 : wr.heap[w.heap.size]? = some (.cells #[v] 23 (0, 0))
  b1 : wr.heap[w.heap.size + 1]? = some (.cells #[.int .i64 0] 3 (0, 0))
  b2 : wr.heap[w.heap.size + 2]? = some (.cells #[.int .i64 0] 36 (0, 0))
  own : Row8 (w.heap.size + 4) wr v body
  rd : IsR (w.heap.size + 3) a c b j wr
  sp : Spares nowhere w wr
  most : body.length ≤ 65536
  low : 0 < b.length → ∀ x o, a = some ⟨x, o, none⟩ → x < w.heap.size
theorem results_open {w : World} {p q r : Nat} {x y z : Value} (tmps : Array Value) (h2 : tmps.getD 2 undef = .pointer (some ⟨p, 0, none⟩)) (h3 : tmps.getD 3 undef = .pointer (some ⟨q, 0, none⟩)) (h4 : tmps.getD 4 undef = .pointer (some ⟨r, 0, none⟩))
    (hp : w.heap[p]? = some (.cells #[x] 23 (0, 0))) (hq : w.heap[q]? = some (.cells #[y] 3 (0, 0))) (hr : w.heap[r]? = some (.cells #[z] 36 (0, 0))) :
    (results Tryz.f75 tmps).run Tryz.prog w = .ok (.tuple #[x, y, z]) w := by
  have h2' : tmps[2]?.getD undef = .pointer (some ⟨p, 0, none⟩) := by simpa using h2
  have h3' : tmps[3]?.getD undef = .pointer (some ⟨q, 0, none⟩) := by simpa using h3
  have h4' : tmps[4]?.getD undef = .pointer (some ⟨r, 0, none⟩) := by simpa using h4
  have c1 : w.cell? ⟨p, 0, none⟩ = some x := by rw [Lib.cell_of_heap hp]; rfl
  have c2 : w.cell? ⟨q, 0, none⟩ = some y := by rw [Lib.cell_of_heap hq]; rfl
  have c3 : w.cell? ⟨r, 0, none⟩ = some z := by rw [Lib.cell_of_heap hr]; rfl
  simp [results, Tryz.results75, h2', h3', h4', asAddr, go_sem, c1, c2, c3]
def Doors (w : World) : List Deferred := [{ target := .fn (.func 104) #[.pointer (some ⟨w.heap.size, 0, none⟩), .pointer (some ⟨w.heap.size + 1, 0, none⟩), .pointer (some ⟨w.heap.size + 2, 0, none⟩)], args := #[] }]
theorem open_fell {w w5 : World} {R : Except Nat (Bs × Bs)} {n : Nat} {b : Bs} {x y z : Value} (tmps : Array Value) (hR : R = .error n) (h2 : tmps.getD 2 undef = .pointer (some ⟨w.heap.size, 0, none⟩)) (h3 : tmps.getD 3 undef = .pointer (some ⟨w.heap.size + 1, 0, none⟩)) (h4 : tmps.getD 4 undef = .pointer (some ⟨w.heap.size + 2, 0, none⟩))
    (b0 : w5.heap[w.heap.size]? = some (.cells #[x] 23 (0, 0))) (b1 : w5.heap[w.heap.size + 1]? = some (.cells #[y] 3 (0, 0))) (b2 : w5.heap[w.heap.size + 2]? = some (.cells #[z] 36 (0, 0))) (hs : Spares nowhere w w5) :
    Leaves Tryz.prog Tryz.f75 tmps (OpenPost b R w) (Doors w) (.panicking [{ v := .iface 128 (.agg #[.int .i64 n]), recovered := false }]) w5 := by
  unfold Doors
  refine leaves_cons (f := 104) (args := #[.pointer (some ⟨w.heap.size, 0, none⟩), .pointer (some ⟨w.heap.size + 1, 0, none⟩), .pointer (some ⟨w.heap.size + 2, 0, none⟩)]) (by simp) (by simp [go_sem]) ?_
  refine (catch_panicking w.heap.size (w.heap.size + 1) (w.heap.size + 2) n [] w5 x y z (by omega) (by omega) (by omega) b0 b1 b2).mono ?_
  rintro e u' w6 ⟨rfl, rfl, r0, r1, r2, hs6⟩
  refine ⟨_, results_open _ h2 h3 h4 r0 r1 r2, ?_⟩
  subst hR
  exact ⟨rfl, hs.trans' hs6 (fun k hk => .inr (by omega))⟩
theorem open_done {w w5 : World} {R : Except Nat (Bs × Bs)} {n : Nat} {b body s : Bs} {v : Value} (tmps : Array Value) (hR : R = .ok (body, s)) (hn : n = b.length - s.length) (h2 : tmps.getD 2 undef = .pointer (some ⟨w.heap.size, 0, none⟩)) (h3 : tmps.getD 3 undef = .pointer (some ⟨w.heap.size + 1, 0, none⟩)) (h4 : tmps.getD 4 undef = .pointer (some ⟨w.heap.size + 2, 0, none⟩))
    (b0 : w5.heap[w.heap.size]? = some (.cells #[v] 23 (0, 0))) (b1 : w5.heap[w.heap.size + 1]? = some (.cells #[.int .i64 n] 3 (0, 0))) (b2 : w5.heap[w.heap.size + 2]? = some (.cells #[.int .i64 0] 36 (0, 0))) (ho : Row8 w.heap.size w5 v body) (hs : Spares nowhere w w5) :
    Leaves Tryz.prog Tryz.f75 tmps (OpenPost b R w) (Doors w) .returning w5 := by
  unfold Doors
  refine leaves_cons (f := 104) (args := #[.pointer (some ⟨w.heap.size, 0, none⟩), .pointer (some ⟨w.heap.size + 1, 0, none⟩), .pointer (some ⟨w.heap.size + 2, 0, none⟩)]) (by simp) (by simp [go_sem]) ?_
  refine (catch_idle w.heap.size (w.heap.size + 1) (w.heap.size + 2) w5).mono ?_
  rintro e u' w6 ⟨rfl, rfl, hs6⟩
  refine ⟨_, results_open _ h2 h3 h4 (hs6.heap b0 (fun h => h)) (hs6.heap b1 (fun h => h)) (hs6.heap b2 (fun h => h)), ?_⟩
  subst hR
  subst hn
  exact ⟨⟨v, rfl, ho.spares hs6 (fun _ _ h => h)⟩, hs.trans hs6⟩
theorem chunkG_line {F : Bs → Bool} {f e : Nat} {body s : Bs} (h : lineF s = .error e) : chunkG F (f + 1) body s = .error e := by rw [chunkG, h]
theorem chunkG_none {F : Bs → Bool} {f : Nat} {body s t r : Bs} (h : lineF s = .ok (t, r)) (hn : lengthF t = none) : chunkG F (f + 1) body s = .error 94 := by rw [chunkG, h]; simp only [hn]
theorem chunkG_zero {F : Bs → Bool} {f : Nat} {body s t r : Bs} (h : lineF s = .ok (t, r)) (hn : lengthF t = some 0) : chunkG F (f + 1) body s = match trailG F (r.length + 1) 0 r with
    | .error e => .error e
    | .ok r2 => .ok (body, r2) := by rw [chunkG, h]; simp only [hn, if_true]; cases trailG F (r.length + 1) 0 r <;> rfl
theorem chunkG_long {F : Bs → Bool} {f n : Nat} {body s t r : Bs} (h : lineF s = .ok (t, r)) (hn : lengthF t = some n) (h0 : n ≠ 0) (hl : 65536 < body.length + n) : chunkG F (f + 1) body s = .error 93 := by rw [chunkG, h]; simp only [hn]; rw [if_neg h0, if_pos hl]
theorem chunkG_short {F : Bs → Bool} {f n : Nat} {body s t r : Bs} (h : lineF s = .ok (t, r)) (hn : lengthF t = some n) (h0 : n ≠ 0) (hl : ¬ 65536 < body.length + n) (hr : r.length < n) : chunkG F (f + 1) body s = .error 92 := by rw [chunkG, h]; simp only [hn]; rw [if_neg h0, if_neg hl, if_pos hr]
/-- Behind a chunk's bytes. -/
def restG (F : Bs → Bool) (f : Nat) (body s : Bs) : Except Nat (Bs × Bs) := match wantF 13 s with
  | .error e => .error e
  | .ok r2 => match wantF 10 r2 with
    | .error e => .error e
    | .ok r3 => chunkG F f body r3
theorem chunkG_more {F : Bs → Bool} {f n : Nat} {body s t r : Bs} (h : lineF s = .ok (t, r)) (hn : lengthF t = some n) (h0 : n ≠ 0) (hl : ¬ 65536 < body.length + n) (hr : ¬ r.length < n) : chunkG F (f + 1) body s = restG F f (body ++ r.take n) (r.drop n) := by rw [chunkG, h]; simp only [hn]; rw [if_neg h0, if_neg hl, if_neg hr]; rfl
theorem restG_one {F : Bs → Bool} {f e : Nat} {body s : Bs} (h : wantF 13 s = .error e) : restG F f body s = .error e := by rw [restG, h]
theorem restG_two {F : Bs → Bool} {f e : Nat} {body s r : Bs} (h : wantF 13 s = .ok r) (h2 : wantF 10 r = .error e) : restG F f body s = .error e := by rw [restG, h]; simp only [h2]
theorem restG_ok {F : Bs → Bool} {f : Nat} {body s r t : Bs} (h : wantF 13 s = .ok r) (h2 : wantF 10 r = .ok t) : restG F f body s = chunkG F f body t := by rw [restG, h]; simp only [h2]
end Go.Proofs.YtjpmofnnjdhamaaGreatDoor
