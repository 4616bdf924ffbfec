/-
  A slice of slices of bytes that came in.
-/
import Derived.Test.YtekdkaiammebnaaDoorCodeCuts
import Derived.Deep.Slices
namespace Go.Proofs.YtekdkaiammebnaaDoor
open Go.ChangeShapes Go.WideShapes Go.ChangeAt Go.RowKit

theorem bytes_of_trod {H : Type} {W : World} {enc : TypeId × Value → H} {v : Value} {y : DataW H × List MemPlace} {fuel : Nat}
    (hf : DataW.trod enc Tryd.prog W 0 (fun _ => true) true fuel 27 [v] = some y) :
    ∃ (l : List UInt8) (a : Option Addr) (c : Nat), v = .slice a l.length c ∧ BytesAt W a l ∧ (a = none → c = 0) ∧ l.length ≤ maxLen := by
  obtain ⟨d, p⟩ := y
  have hs : ∃ a n c, v = .slice a n c := by
    rcases open_ints Tryd.underlying27 Tryd.underlying5 (by kernel_rfl) hf with ⟨hcs, _⟩ | ⟨x, l, c, zs, hcs, _⟩
    · injection hcs with hcs; exact ⟨_, _, _, hcs⟩
    · injection hcs with hcs; exact ⟨_, _, _, hcs⟩
  obtain ⟨a, n, c, rfl⟩ := hs
  obtain ⟨l, rfl, h1, h2, h3, _⟩ := bytes_open (v := .slice a n c) (d := d) (p := p) rfl (by simpa [Value.cells] using hf)
  exact ⟨l, a, c, rfl, h1, h2, h3⟩
theorem rows_open {H : Type} {W : World} {enc : TypeId × Value → H} {d : DataW H} {p : List MemPlace} {fuel : Nat} {a : Option Addr} {len cap : Nat}
    (hf : DataW.trod enc Tryd.prog W 0 (fun _ => true) true fuel 54 (Value.slice a len cap).cells.toList = some (d, p)) :
    ∃ ls : List (List UInt8), ls.length = len ∧ RowsAt W a ls ∧ len ≤ maxLen ∧ ∀ j (h : j < ls.length), ls[j].length ≤ maxLen := by
  rcases Deep.open_slice1 Tryd.underlying54 (by kernel_rfl) hf with ⟨hcs, _⟩ | ⟨x, len', cap', m, n, V, D, Pl, hcs, _, hl, hm, hmm, _, hV⟩
  · simp [Value.cells] at hcs
    obtain ⟨rfl, rfl, rfl⟩ := hcs
    exact ⟨[], rfl, fun k h => absurd h (Nat.not_lt_zero _), Nat.zero_le _, fun j h => absurd h (Nat.not_lt_zero _)⟩
  · simp [Value.cells] at hcs
    obtain ⟨rfl, rfl, rfl⟩ := hcs
    simp only [if_true] at hmm
    subst hmm
    have hx : ∀ i : Fin len, ∃ l : List UInt8, ∃ (b off : Nat) (ak : Option Addr) (ck : Nat), some x = some ⟨b, off, none⟩ ∧ W.cell? ⟨b, off + i.val, none⟩ = some (.slice ak l.length ck) ∧ BytesAt W ak l ∧ (ak = none → ck = 0) ∧ l.length ≤ maxLen := by
      intro i
      obtain ⟨hc, ht⟩ := hV i.val (by have := i.isLt; omega)
      obtain ⟨l, ak, ck, hv, h1, h2, h3⟩ := bytes_of_trod ht
      obtain ⟨b, off, spot⟩ := x
      have hspot : spot = none := by
        have h0 := World.cell?_spot (hV 0 (by have := i.isLt; omega)).1
        simpa [Addr.add] using h0
      subst hspot
      rw [Addr.add_lit, hv] at hc
      exact ⟨l, b, off, ak, ck, rfl, hc, h1, h2, h3⟩
    refine ⟨List.ofFn fun i => Classical.choose (hx i), by simp, ?_, by omega, ?_⟩
    · intro k hk
      have hk' : k < len := by simpa using hk
      obtain ⟨b, off, ak, ck, h1, h2, h3, h4, _⟩ := Classical.choose_spec (hx ⟨k, hk'⟩)
      refine ⟨b, off, ak, ck, h1, ?_, ?_, h4⟩
      · simpa using h2
      · simpa using h3
    · intro j hj
      have hj' : j < len := by simpa using hj
      obtain ⟨_, _, _, _, _, _, _, _, h5⟩ := Classical.choose_spec (hx ⟨j, hj'⟩)
      simpa using h5
theorem cuts_of (ls : List (List UInt8)) (a : Option Addr) (cap : Nat) (k : Int) (w : World) (hT : Steps w) (hin : RowsAt w a ls) (hmax : ls.length ≤ maxLen) (hwide : ∀ j (h : j < ls.length), ls[j].length ≤ maxLen) (hk : (Lit.int .i64 k).wf = true) :
    Calls Tryd.prog 7 #[.slice a ls.length cap, .int .i64 k] w (Knows w) :=
  cuts_any ls a cap k w hT hin hmax hwide (by have := bounds_i64 hk; omega)
end Go.Proofs.YtekdkaiammebnaaDoor
