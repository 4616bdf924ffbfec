/-
  glob's Valid and Match answer what the mathematics says.
-/
import Derived.Test.YtalehempjdjehaaGlobParse
namespace Go.Proofs.Ytalehempjdjehaa
open Go.RowKit GlobMath

theorem parse_none (p : ByteArray) (w : World) (hp : p.size ≤ 140737488351232) (h : (if 200 < p.data.toList.length then none else parts p.data.toList) = none) :
    Calls Try.prog 15 #[.string p] w fun e w' => e = .returned (.tuple #[.slice none 0 0, .bool false]) ∧ Below w.heap.size w w' := by
  refine (parse_any p w hp).mono fun e w' hh => ?_
  unfold ParsePost at hh
  rw [h] at hh
  exact hh
def PartsPost (w : World) (l : List (Nat × UInt8)) (e : Ending) (w' : World) : Prop :=
  ∃ v, e = .returned (.tuple #[v, .bool true]) ∧ w'.ownsRow w.heap.size 39 2 v l.length (partCells l) ∧ Below w.heap.size w w'
theorem parse_some (p : ByteArray) (w : World) (l : List (Nat × UInt8)) (hp : p.size ≤ 140737488351232) (h : (if 200 < p.data.toList.length then none else parts p.data.toList) = some l) :
    Calls Try.prog 15 #[.string p] w (PartsPost w l) := by
  refine (parse_any p w hp).mono fun e w' hh => ?_
  unfold ParsePost at hh
  rw [h] at hh
  exact hh

theorem valid_eq (p : List UInt8) : validF p = ((if 200 < p.length then none else parts p).isSome) := by
  unfold validF
  by_cases h : 200 < p.length
  · rw [if_pos h]; simp; omega
  · rw [if_neg h]; simp; omega

set_option maxHeartbeats 400000 in
theorem valid_any (p : ByteArray) (w : World) (hp : p.size ≤ 140737488351232) :
    Calls Try.prog 11 #[.string p] w fun e w' => e = .returned (.int .i64 (if validF p.data.toList = true then 0 else 120)) ∧ Below w.heap.size w w' := by
  rw [valid_eq]
  generalize hq : (if 200 < p.data.toList.length then none else parts p.data.toList) = q
  have HQ := Lib.hid hq
  clear hq
  cases q with
  | none =>
    go_enter Try.func11, Try.ntmps11
    go_wp2_with (go_at_call 15; refine (parse_none p w hp HQ.out).mono ?_; rintro e w1 ⟨rfl, hb⟩)
    go_ret
    exact ⟨rfl, hb⟩
  | some l =>
    go_enter Try.func11, Try.ntmps11
    go_wp2_with (go_at_call 15; refine (parse_some p w l hp HQ.out).mono ?_; rintro e w1 ⟨v, rfl, hown, hb⟩)
    go_ret
    exact ⟨rfl, hb⟩

theorem next_any (k n g : Nat) (c : UInt8) (f : Nat → Bool) (s : ByteArray) (w : World) (hk : k ≤ 3) (hn : s.size < n) (hn' : n ≤ s.size + 1) (hs : s.size ≤ 1000000000000)
    (hr : Blk w g 4 (rowCells n f)) :
    Calls Try.prog 16 #[.agg #[.int .i64 k, .int .u8 c.toNat], .slice (some ⟨g, 0, none⟩) n n, .string s] w (NextPost w n (af (k, c) f s.data.toList)) := by
  rcases (show k = 0 ∨ k = 1 ∨ k = 2 ∨ k = 3 from by omega) with rfl | rfl | rfl | rfl
  · exact next_short 0 n g c f s w (by omega) (by decide) (by decide) hn hn' hs hr
  · exact next_short 1 n g c f s w (by omega) (by decide) (by decide) hn hn' hs hr
  · exact next_long2 n g c f s w hn hn' hs hr
  · exact next_long3 n g c f s w hn hn' hs hr

theorem matchF_eq (p s : List UInt8) : matchF p s = (match (if 200 < p.length then none else parts p) with | none => false | some l => rowF s l s.length) := by
  unfold matchF
  by_cases h : 200 < p.length
  · rw [if_pos h, if_pos h]
  · rw [if_neg h, if_neg h]
    cases parts p <;> rfl

theorem partCells_at (l : List (Nat × UInt8)) (k : Nat) (h : k < l.length) : (partCells l)[k * 2]? = some (.int .i64 l[k].1) ∧ (partCells l)[k * 2 + 1]? = some (.int .u8 l[k].2.toNat) := by
  induction l generalizing k with
  | nil => simp at h
  | cons x l ih =>
    have e : partCells (x :: l) = .int .i64 x.1 :: .int .u8 x.2.toNat :: partCells l := by simp [partCells]
    cases k with
    | zero => simp [e]
    | succ k =>
      have := ih k (by simpa using h)
      rw [e, show (k + 1) * 2 = k * 2 + 1 + 1 from by omega]
      simpa using this

set_option maxHeartbeats 400000 in
theorem match_none (p s : ByteArray) (w : World) (hp : p.size ≤ 140737488351232) (h : (if 200 < p.data.toList.length then none else parts p.data.toList) = none) :
    Calls Try.prog 9 #[.string p, .string s] w fun e w' => e = .returned (.bool false) ∧ Below w.heap.size w w' := by
  have HQ := Lib.hid h
  clear h
  go_enter Try.func9, Try.ntmps9
  go_wp2_with (go_at_call 15; refine (parse_none p w hp HQ.out).mono ?_; rintro e w1 ⟨rfl, hb⟩)
  go_ret
  exact ⟨rfl, hb⟩

set_option maxHeartbeats 2000000 in
theorem match_some (p s : ByteArray) (l : List (Nat × UInt8)) (w : World) (hp : p.size ≤ 140737488351232) (hs : s.size ≤ 1000000000000) (hk : ∀ x ∈ l, x.1 ≤ 3) (hll : l.length ≤ 140737488351232) (h : (if 200 < p.data.toList.length then none else parts p.data.toList) = some l) :
    Calls Try.prog 9 #[.string p, .string s] w fun e w' => e = .returned (.bool (rowF s.data.toList l s.size)) ∧ Below w.heap.size w w' := by
  have HQ := Lib.hid h
  have HK := Lib.hid hk
  clear h hk
  obtain ⟨i0, hi, hz0, hz1, hz2⟩ := info_parts boolInfo
  go_enter Try.func9, Try.ntmps9
  go_wp2_with fail
  refine (parse_some p w l hp HQ.out).mono ?_
  rintro e w1 ⟨v, rfl, hown, hb⟩
  obtain ⟨ao, cap, rfl, hcells⟩ : ∃ ao cap, v = .slice ao l.length cap ∧ (0 < l.length → ∃ g, ao = some ⟨g, 0, none⟩ ∧ g < w1.heap.size ∧ ∀ j u, (partCells l)[j]? = some u → w1.cell? ⟨g, j, none⟩ = some u) := by
    rcases hown.2 with ⟨hv, h0⟩ | ⟨g, cap, cur, hv, _, hg, _⟩
    · refine ⟨none, 0, by rw [hv]; cases l with | nil => rfl | cons x l => simp at h0, fun hpos => ?_⟩
      cases l with
      | nil => simp at hpos
      | cons x l => simp at h0
    · refine ⟨_, _, hv, fun _ => ⟨g, rfl, Blk.lt (t := 39) (cs := cur) hg, fun j u hu => ?_⟩⟩
      have := hown.cells (g := g) (by rw [hv]; rfl) j u hu
      by_cases hj : j = 0
      · subst hj; simpa [Addr.add] using this
      · simpa [Addr.add, hj] using this
  clear hown
  have HC := Lib.hid hcells
  clear hcells
  go_wp2_with (at_make; refine wpList_make_full _ rfl _ _ 29 rfl w1.heap.size 4 i0 (.bool false) 1 Try.underlying29 hi hz0 hz1 .i64 .i64 _ _ (s.size + 1) rfl rfl ?a1 ?a2 ?a3 ?a4 ?a5 ?_)
  case a1 => omega
  case a2 => omega
  case a3 => rw [hz2]; omega
  case a4 => unfold maxLen; omega
  case a5 => exact Nat.le_refl _
  intro w2 hown2 hg2
  have hb2 : Below w1.heap.size w1 w2 := (Below.refl _ _).grown hg2 (Nat.le_refl _) (by intro k hk; cases hk)
  have hA : Blk w2 w1.heap.size 4 (rowCells (s.size + 1) fun _ => false) := blk_made hown2
  clear hown2 hg2
  have a0 := hA.cell 0
  rw [rowCells_get _ (by omega)] at a0
  have af0 := hA.frozen 0
  go_wp2
  have hA1 := hA.set_ 0 (.bool true)
  rw [rowCells_set] at hA1
  have hb3 : Below w1.heap.size w1 (w2.setCell ⟨w1.heap.size, 0, none⟩ (.bool true)) := hb2.setCell (by simp) _
  clear a0 af0 hA hb2
  generalize w2.setCell ⟨w1.heap.size, 0, none⟩ (.bool true) = w3 at *
  go_loopw [7, 25] (fun r i wr => ∃ k : Nat, k ≤ l.length ∧ i = .int .i64 k ∧ (∃ g, r = .slice (some ⟨g, 0, none⟩) (s.size + 1) (s.size + 1) ∧ Blk wr g 4 (rowCells (s.size + 1) (rowF s.data.toList (l.take k)))) ∧ Below w1.heap.size w1 wr)
    (fun _ i _ => l.length - (intOf i).toNat)
  case atStart =>
    refine ⟨0, Nat.zero_le _, rfl, ⟨_, rfl, ?_⟩, hb3⟩
    rw [rowCells_congr (g := fun k => if k = 0 then true else false) (fun j _ => by by_cases h : j = 0 <;> simp [rowF, row0, h])]
    exact hA1
  case round =>
    obtain ⟨k, hkl, rfl, ⟨g, rfl, hrow⟩, hbr⟩ := hrel
    clear hA1 hb3
    by_cases hlt : k < l.length
    · obtain ⟨gp, rfl, hgp, hcl⟩ := HC.out (by omega)
      have hp2 := partCells_at l k hlt
      have x0 := (hbr.cell (p := ⟨gp, k * 2, none⟩) hgp).trans (hcl _ _ hp2.1)
      have x1 := (hbr.cell (p := ⟨gp, k * 2 + 1, none⟩) hgp).trans (hcl _ _ hp2.2)
      clear hcl hp2
      go_wp2_with fail
      refine (next_any l[k].1 (s.size + 1) g l[k].2 (rowF s.data.toList (l.take k)) s _ (HK.out _ (List.getElem_mem hlt)) (by omega) (by omega) hs (hrow.alloc _)).mono ?_
      rintro e w4 ⟨g', rfl, hrow', hb4⟩
      have hb5 : Below w1.heap.size w1 w4 := (hbr.alloc hbr.size _).trans (hb4.mono (by have := hbr.size; simp; omega))
      clear hb4 hrow x0 x1
      go_wp2
      go_roundw
      case rel =>
        refine ⟨k + 1, by omega, by go_num, ⟨g', rfl, ?_⟩, hb5⟩
        rw [List.take_succ_eq_append_getElem hlt, rowF_snoc]
        exact hrow'
      case measure => simp [intOf]; omega
    · have hk : k = l.length := by omega
      subst hk
      rw [List.take_length] at hrow
      have r0 := hrow.cell s.size
      rw [rowCells_get _ (by omega)] at r0
      go_wp2
      go_ret
      exact ⟨rfl, hb.trans (hbr.mono hb.size)⟩

theorem match_any (p s : ByteArray) (w : World) (hp : p.size ≤ 1000000000000) (hs : s.size ≤ 1000000000000) :
    Calls Try.prog 9 #[.string p, .string s] w fun e w' => e = .returned (.bool (matchF p.data.toList s.data.toList)) ∧ Below w.heap.size w w' := by
  have e := matchF_eq p.data.toList s.data.toList
  generalize hq : (if 200 < p.data.toList.length then none else parts p.data.toList) = q at e
  rw [e]
  cases q with
  | none => exact match_none p s w (by omega) hq
  | some l =>
    have hl : parts p.data.toList = some l := by
      split at hq
      · cases hq
      · exact hq
    have := parts_len hl
    rw [size_list] at this
    simp only [size_list]
    exact match_some p s l w (by omega) hs (parts_kind hl) (by omega) hq
end Go.Proofs.Ytalehempjdjehaa
