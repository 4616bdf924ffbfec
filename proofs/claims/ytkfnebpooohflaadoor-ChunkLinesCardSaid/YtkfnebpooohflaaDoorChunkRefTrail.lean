/-
  The reference's trailers: lines read as fields, one more each time.
-/
import Derived.Test.YtkfnebpooohflaaDoorChunkRefLine
import Derived.Test.YtkfnebpooohflaaDoorChunkRefLength
import Derived.Test.YtkfnebpooohflaaDoorChunkOpen
import Derived.Test.YtkfnebpooohflaaDoorChunkBack
import Derived.Test.YtkfnebpooohflaaDoorHeadRefParse
import Derived.Test.YtkfnebpooohflaaDoorRowS
namespace Go.Proofs.YtkfnebpooohflaaDoor
open Go.RowKit HeadMath NormMath NormS HeadS ChunkMath

theorem rowS_in {B : Nat} {w : World} {v : Value} {l : List ByteArray} (h : RowS B w v l) : ∃ a c, v = .slice a l.length c ∧ StrsIn w.heap.size w a l := by
  rcases h.shape with ⟨rfl, rfl⟩ | ⟨g, c, rfl, _, hg, _, hcell⟩
  · exact ⟨none, 0, rfl, fun j hj => absurd hj (Nat.not_lt_zero _)⟩
  · exact ⟨_, c, rfl, fun j hj => ⟨g, 0, rfl, hg, by rw [Nat.zero_add]; exact hcell j hj⟩⟩
def BadLine (T : ByteArray) (n : Nat) : Prop := (fieldOf T).isSome = false ∨ n = 100
theorem refLines_any (ls : List ByteArray) (T : ByteArray) (a : Option Addr) (c n : Nat) (w : World) (hin : StrsIn w.heap.size w a (ls ++ [T])) (hn : n = (ls ++ [T]).length) (hsm : Small (ls ++ [T])) (h100 : ls.length ≤ 100) (hp : (parseF ls).isSome = true) : Calls Tryd.prog 30 #[.slice a n c] w fun e w' => (∃ v z, e = .returned (.tuple #[v, .int .i64 z]) ∧ ((¬ BadLine T ls.length ∧ z = 0 ∧ (parseF (ls ++ [T])).isSome = true) ∨ (BadLine T ls.length ∧ (z = 91 ∨ z = 90)))) ∧ Spares nowhere w w' := by
  have hlen : (ls ++ [T]).length = ls.length + 1 := by simp
  refine (refParse_any (ls ++ [T]) a c n w hin hn hsm (by omega)).mono ?_
  have hsn := parseF_snoc ls T
  obtain ⟨fs0, hfs0⟩ := Option.isSome_iff_exists.1 hp
  rw [hfs0] at hsn
  rintro e w' ⟨hb, ⟨h, rfl⟩ | ⟨h, h1, rfl⟩ | ⟨h, fs, v, h1, rfl, _⟩⟩
  · exact ⟨⟨_, _, rfl, .inr ⟨.inr (by omega), .inl rfl⟩⟩, Below.spares hb (fun k hk => .inr hk)⟩
  · refine ⟨⟨_, _, rfl, .inr ⟨.inl ?_, .inr rfl⟩⟩, Below.spares hb (fun k hk => .inr hk)⟩
    rw [h1] at hsn
    cases hf : fieldOf T with
    | none => rfl
    | some f => rw [hf] at hsn; cases hsn
  · refine ⟨⟨_, _, rfl, .inl ⟨?_, rfl, by rw [h1]; rfl⟩⟩, Below.spares hb (fun k hk => .inr hk)⟩
    rintro (hf | hf)
    · rw [h1] at hsn
      cases hf2 : fieldOf T with
      | none => rw [hf2] at hsn; cases hsn
      | some f => rw [hf2] at hf; cases hf
    · omega
theorem line_drop {b t r : Bs} {j : Nat} (hj : j ≤ b.length) (h : lineF (b.drop j) = .ok (t, r)) : r = b.drop (b.length - r.length) ∧ j + 2 ≤ b.length - r.length ∧ r.length ≤ b.length ∧ t.length ≤ b.length := by
  obtain ⟨u, h1, h2, h3, _⟩ := lineG_split (b.drop j) [] t r h
  have hl := congrArg List.length h1
  rw [List.length_drop, List.length_append] at hl
  have e : b.length - r.length = j + u.length := by omega
  refine ⟨?_, by omega, by omega, by simp at h3; omega⟩
  rw [e, ← List.drop_drop, h1, List.drop_left]
theorem lineG_err : ∀ (s acc : Bs), lineG acc s ≠ .error 0
  | [], acc => by rw [lineG]; intro h; cases h
  | c :: s, acc => by
    by_cases h13 : c = 13
    · subst h13
      cases s with
      | nil => rw [lineG_cr]; intro h; cases h
      | cons d s =>
        by_cases h10 : d = 10
        · subst h10; rw [lineG_end]; intro h; cases h
        · rw [lineG_bad h10]; intro h; cases h
    · by_cases hb : c = 10 ∨ 1024 ≤ acc.length
      · rw [lineG, if_neg h13, if_pos hb]; intro h; cases h
      · rw [lineG, if_neg h13, if_neg hb]
        exact lineG_err s _
theorem lineF_err {s : Bs} {x : Nat} (hx : x = 0) : lineF s ≠ .error x := by subst hx; exact lineG_err s []
/-- Behind a chunk's bytes: what of CR LF is still to come. -/
def restH (F : Bs → Bool) (f : Nat) (body : Bs) : Nat → Bs → Except Nat (Bs × Bs)
  | 0, s => restG F f body s
  | 1, s => match wantF 10 s with
    | .error e => .error e
    | .ok r3 => chunkG F f body r3
  | _, s => chunkG F f body s
theorem restH_nil {F : Bs → Bool} {f m : Nat} {body : Bs} (hm : m < 2) : restH F f body m [] = .error 92 := by
  rcases (show m = 0 ∨ m = 1 by omega) with rfl | rfl <;> rfl
theorem restH_0 {F : Bs → Bool} {f : Nat} {body s : Bs} : restH F f body 0 (13 :: s) = restH F f body 1 s := rfl
theorem restH_1 {F : Bs → Bool} {f : Nat} {body s : Bs} : restH F f body 1 (10 :: s) = restH F f body 2 s := rfl
theorem restH_bad0 {F : Bs → Bool} {f : Nat} {body s : Bs} {d : UInt8} (h : d ≠ 13) : restH F f body 0 (d :: s) = .error 94 := restG_one (wantF_no h)
theorem restH_bad1 {F : Bs → Bool} {f : Nat} {body s : Bs} {d : UInt8} (h : d ≠ 10) : restH F f body 1 (d :: s) = .error 94 := by
  show (match wantF 10 (d :: s) with | .error e => (.error e : Except Nat (Bs × Bs)) | .ok r3 => chunkG F f body r3) = _
  rw [wantF_no h]
def afterT (body : Bs) : Except Nat Bs → Except Nat (Bs × Bs)
  | .error e => .error e
  | .ok r => .ok (body, r)
theorem chunkG_zeroT {F : Bs → Bool} {f : Nat} {body s t r : Bs} (h : lineF s = .ok (t, r)) (hn : lengthF t = some 0) : chunkG F (f + 1) body s = afterT body (trailG F (r.length + 1) 0 r) := by
  rw [chunkG_zero h hn]
  cases trailG F (r.length + 1) 0 r <;> rfl
theorem openPost_error {b : Bs} {r : Except Nat (Bs × Bs)} {n : Nat} {w w' : World} {e : Ending} (h : r = .error n) (he : e = .returned (.tuple #[.slice none 0 0, .int .i64 0, .int .i64 n])) (hs : Spares nowhere w w') : OpenPost b r w e w' := by subst h; exact ⟨he, hs⟩
theorem openPost_ok {b body s : Bs} {r : Except Nat (Bs × Bs)} {w w' : World} {e : Ending} {v : Value} (h : r = .ok (body, s)) (he : e = .returned (.tuple #[v, .int .i64 ((b.length - s.length : Nat) : Int), .int .i64 0])) (hr : Row8 w.heap.size w' v body) (hs : Spares nowhere w w') : OpenPost b r w e w' := by subst h; exact ⟨⟨v, he, hr⟩, hs⟩
end Go.Proofs.YtkfnebpooohflaaDoor
