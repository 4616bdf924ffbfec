/-
  What the program's Dots calls: the pieces of a path, and their join; a row of texts made with room.
-/
import Derived.Test.YtokgpmelhmaokaaDoorNormRefDots
import Derived.Test.YtokgpmelhmaokaaDoorShelf
import Derived.Lib.SplitLaws
namespace Go.Proofs.YtokgpmelhmaokaaDoor
open Go.RowKit HeadMath NormMath

section
variable {w : World}
/-- make([]string, 0, n). -/
theorem wpList_make_rowS {ops : Array Oper} {rest : List Oper} {o : Oper} {a : Act} {Q : Exit → Act → World → Prop} (hgd : o.guard = none) (c : Operand) (l : Operand) (hop : o.op = Op.makeSlice 30 l c)
    (B : Nat) (kl kc : IntKind) (C : Int) (n : Nat) (hl : a.eval l = .int kl 0) (hc : a.eval c = .int kc C) (hC : C = (n : Int)) (hn : n ≤ 1000000000000) (hB : B ≤ w.heap.size)
    (hK : ∀ v' w', RowS B w' v' [] → Spares nowhere w w' → wpList Tryd.prog ops Q rest (a.put o.dst v') w') : wpList Tryd.prog ops Q (o :: rest) a w := by
  obtain ⟨i0, hi, hz0, hz1, hz2⟩ := info_parts textInfo
  refine wpList_make_own w hgd l c 30 hop B 9 i0 (.string ⟨#[]⟩) 1 Tryd.underlying30 hi hz0 hz1 kl kc C n hl hc hC (by rw [hz2]; omega) (by unfold maxLen; omega) hB ?_
  intro w' h1 h2
  exact hK _ w' h1 ((Spares.refl _ w).grown h2 fun k hk => by cases hk)
end
theorem splitS_len (l : List UInt8) : (splitS l).length ≤ l.length + 1 := by
  induction l with
  | nil => simp [splitS]
  | cons c t ih =>
    unfold splitS
    by_cases h : c = 47
    · rw [if_pos h]; simp; omega
    · rw [if_neg h]
      cases hs : splitS t with
      | nil => simp
      | cons x r => rw [hs] at ih; simp at ih ⊢; omega
theorem splitS_mem (l : List UInt8) : ∀ x ∈ splitS l, x.length ≤ l.length := by
  induction l with
  | nil => intro x hx; simp [splitS] at hx; subst hx; simp
  | cons c t ih =>
    intro x hx
    unfold splitS at hx
    by_cases h : c = 47
    · rw [if_pos h] at hx
      rcases List.mem_cons.1 hx with h1 | h1
      · subst h1; simp
      · have := ih x h1; simp; omega
    · rw [if_neg h] at hx
      cases hs : splitS t with
      | nil => rw [hs] at hx; simp at hx; subst hx; simp
      | cons y r =>
        rw [hs] at hx ih
        simp only [List.mem_cons] at hx
        rcases hx with h1 | h1
        · subst h1; have := ih y (by simp); simp; omega
        · have := ih x (by simp [h1]); simp; omega
/-- The pieces of a text. -/
theorem pieces_any (s : ByteArray) (w : World) (hs : s.size ≤ 1000000) (m : Int) (hm : w.cell? ⟨1, 0, none⟩ = some (.int .i64 m)) :
    Calls Tryd.prog 27 #[.string s, .string ⟨#[47]⟩] w fun e w' => ∃ L : List ByteArray, datas L = splitS s.data.toList ∧ L ≠ [] ∧ SmallR L ∧ L.length ≤ 1000001 ∧ e = .returned (.slice (some ⟨w.heap.size, 0, none⟩) L.length L.length) ∧ w' = w.alloc (.cells (L.map Value.string).toArray 9) := by
  refine (Tryd.strings_Split s ⟨#[47]⟩ m w (by omega) hm (by decide)).mono ?_
  rintro e w' ⟨rfl, rfl⟩
  have hd : datas (Lib.splitB ⟨#[47]⟩ 0 (Lib.countB s ⟨#[47]⟩) s) = splitS s.data.toList := split_pieces s
  have hl : (Lib.splitB ⟨#[47]⟩ 0 (Lib.countB s ⟨#[47]⟩) s).length = Lib.countB s ⟨#[47]⟩ + 1 := Lib.splitB_all ⟨#[47]⟩ (by decide) 0 _ s rfl
  have hl2 := splitS_len s.data.toList
  rw [← hd, datas_len, size_list] at hl2
  refine ⟨_, hd, fun h => ?_, fun x hx => ?_, by omega, by rw [hl], rfl⟩
  · rw [h] at hl; simp at hl
  · have h1 : x.data.toList ∈ splitS s.data.toList := by rw [← hd]; exact List.mem_map_of_mem hx
    have h2 := splitS_mem _ _ h1
    rw [size_list, size_list] at h2
    omega
theorem join_len : ∀ (l : List Seg), (Lib.join l [47]).length ≤ ((l.map ([47] ++ ·)).flatten).length := by
  intro l
  by_cases h : l = []
  · subst h; simp [Lib.join_nil]
  · have := join_slash l h
    have h2 := congrArg List.length this
    simp only [List.length_append, List.length_cons, List.length_nil] at h2
    omega
/-- The join of a row that the call made. -/
theorem join_any {B : Nat} (R : List ByteArray) (v : Value) (w : World) (hr : RowS B w v R) (hz : SmallR R) (hl : R.length ≤ 2000000) :
    Calls Tryd.prog 29 #[v, .string ⟨#[47]⟩] w fun e w' => ∃ T : ByteArray, T.data.toList = Lib.join (datas R) [47] ∧ T.size ≤ 3000000000000 ∧ e = .returned (.string T) ∧ Spares nowhere w w' := by
  have h1 : (Lib.join (datas R) [47]).length ≤ 3000000000000 := by
    have h2 := join_len (datas R)
    have h3 := catF_len hz
    unfold catF at h3
    omega
  have key : ∀ T : ByteArray, T.data.toList = Lib.join (datas R) [47] → T.size ≤ 3000000000000 := by
    intro T hT
    rw [← size_list, hT]
    exact h1
  rcases hr.shape with ⟨rfl, rfl⟩ | ⟨g, c, rfl, _, hg, hc, hcells⟩
  · refine (Tryd.strings_Join_none none 0 ⟨#[47]⟩ w).mono ?_
    rintro e w' ⟨rfl, rfl⟩
    exact ⟨_, by simp [datas, Lib.join_nil], by decide, rfl, Spares.refl _ _⟩
  · refine (Tryd.strings_Join g 0 c R ⟨#[47]⟩ w (fun j x hx => ?_) hg (by omega) hc ?_).mono ?_
    · obtain ⟨hj, rfl⟩ := List.getElem?_eq_some_iff.1 hx
      rw [Nat.zero_add]
      exact hcells j hj
    · exact Nat.le_trans h1 (by decide)
    · rintro e w' ⟨rfl, hb⟩
      have hT : (⟨(Lib.join (R.map (·.data.toList)) [47]).toArray⟩ : ByteArray).data.toList = Lib.join (datas R) [47] := by simp [datas]
      exact ⟨_, hT, key _ hT, rfl, Below.spares hb (fun k hk => .inr hk)⟩
/-- What a slash ahead of a path takes off. -/
theorem trim_slash (s : ByteArray) : Lib.trimPrefix s.data.toList [47] = stripF s.data.toList := by
  cases h : s.data.toList with
  | nil => simp [Lib.trimPrefix, Lib.hasPrefix, stripF]
  | cons c t =>
    by_cases hc : c = 47
    · subst hc; simp [Lib.trimPrefix, Lib.hasPrefix, stripF]
    · simp [Lib.trimPrefix, Lib.hasPrefix, stripF, hc, Ne.symm hc]
theorem trim_any (s : ByteArray) (w : World) (hs : s.size ≤ 1000000) : Calls Tryd.prog 28 #[.string s, .string ⟨#[47]⟩] w fun e w' => ∃ p : ByteArray, p.data.toList = stripF s.data.toList ∧ p.size ≤ 1000000 ∧ e = .returned (.string p) ∧ w' = w := by
  refine (Tryd.strings_TrimPrefix s ⟨#[47]⟩ w).mono ?_
  rintro e w' ⟨rfl, rfl⟩
  have hT : (⟨(Lib.trimPrefix s.data.toList [47]).toArray⟩ : ByteArray).data.toList = stripF s.data.toList := by rw [← trim_slash]
  refine ⟨_, hT, ?_, rfl, rfl⟩
  rw [← size_list, hT]
  cases h : s.data.toList with
  | nil => simp [stripF]
  | cons c t =>
    have h2 := size_list s
    rw [h] at h2
    simp at h2
    show (if c = 47 then t else c :: t).length ≤ _
    split
    · omega
    · rw [List.length_cons]; omega
/-- The whole of the program's text. -/
theorem dots_joined {s : List UInt8} {L D : List Seg} {x : Seg} {R : List Seg} (hL : L = splitS (stripF s)) (hD : L = D ++ [x]) (hR : R = (if x = [] then D else D ++ [x]).foldl stepD []) {l : List UInt8} (hl : l = [47] ++ Lib.join (if openD x && !R.isEmpty then R ++ [[]] else R) [47]) : dotsF s = l := by
  unfold dotsF
  rw [← hL, dotsL_at hD, hl, ← text_same]
  unfold textP foldD
  rw [hR]
theorem text_ahead {T : ByteArray} {l : List UInt8} (h : l = [47] ++ T.data.toList) : (⟨l.toArray⟩ : ByteArray) = ⟨#[47]⟩ ++ T := by
  subst h
  apply ByteArray.ext
  apply Array.toList_inj.1
  simp [ByteArray.data_append]
theorem fold_on {M R R' : List ByteArray} {k : Nat} {u : ByteArray} (h : datas R = (datas (M.take k)).foldl stepD []) (hk : k < M.length) (hu : M[k] = u) (hR : datas R' = stepD (datas R) u.data.toList) : datas R' = (datas (M.take (k + 1))).foldl stepD [] := by
  rw [List.take_add_one, List.getElem?_eq_getElem hk, hu, hR, h]
  show _ = (datas (M.take k ++ [u])).foldl stepD []
  rw [datas_app, List.foldl_append]
  rfl
theorem SmallR.push {R : List ByteArray} {u : ByteArray} (h : SmallR R) (hu : u.size ≤ 1000001) : SmallR (R ++ [u]) := by
  intro x hm
  rcases List.mem_append.1 hm with h1 | h1
  · exact h x h1
  · simp at h1
    subst h1
    exact hu
theorem datas_ne {R : List ByteArray} (h : R ≠ []) : (datas R).isEmpty = false := by
  cases R with
  | nil => exact absurd rfl h
  | cons x r => rfl
theorem cell_of_lit (w : World) (L : List ByteArray) (j : Nat) (hj : j < L.length) : (w.alloc (.cells (L.map Value.string).toArray 9)).cell? ⟨w.heap.size, j, none⟩ = some (.string L[j]) := by
  simp [go_sem, hj]
theorem dots_frame {w w2 wr w3 : World} (h1 : Spares nowhere w w2) (h2 : Spares (atLeast (w.heap.size + 1)) w2 wr) (h3 : Spares nowhere wr w3) : Spares (atLeast w.heap.size) w w3 :=
  ((h1.mono (fun _ h => by cases h)).trans' h2 (fun b hb => .inr (by unfold atLeast at hb; omega))).trans' h3 (fun _ h => by cases h)
theorem wrap_len {n : Nat} (h : n ≤ 2000000) : wrap64 (n : Int) = (n : Int) := by unfold wrap64; omega
theorem cast_le {a c : Nat} (h : a + 1 ≤ c) : (a : Int) ≤ (c : Int) := by omega
theorem pop_len {R0 : List ByteArray} {x : ByteArray} {k : Nat} (h : (R0 ++ [x]).length ≤ k) : R0.length ≤ k := by simp at h; omega
end Go.Proofs.YtokgpmelhmaokaaDoor
