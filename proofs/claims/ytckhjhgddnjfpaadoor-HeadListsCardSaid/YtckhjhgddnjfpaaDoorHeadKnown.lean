/-
  The statements' first test: constants.
-/
import Derived.Test.YtckhjhgddnjfpaaDoorHeadLines
namespace Go.Proofs.YtckhjhgddnjfpaaDoor
open Go.RowKit HeadMath

def k1 : ByteArray := ⟨#[65, 58, 32, 32, 98, 32]⟩
def k2 : ByteArray := ⟨#[97, 58, 32, 34, 120, 44, 121, 34, 44, 32, 122]⟩
def k3 : ByteArray := ⟨#[65, 32, 98]⟩
def kv : ByteArray := ⟨#[34, 120, 44, 121, 34, 44, 32, 122]⟩
def kl : List (ByteArray × ByteArray) := [(⟨#[65]⟩, ⟨#[98]⟩), (⟨#[97]⟩, kv)]
theorem known_parse : parseF [k1, k2] = some kl := by kernel_rfl
theorem known_bad : parseF [k3] = none := by kernel_rfl
theorem known_get : getF ⟨#[97]⟩ kl = some ⟨#[98]⟩ := by kernel_rfl
theorem known_all : allF ⟨#[65]⟩ kl = [⟨#[98]⟩, kv] := by kernel_rfl
theorem known_parts1 : partsF ⟨#[98]⟩ = [⟨#[98]⟩] := by
  rw [partsF_take (by decide) (by decide), partsF_nil (by decide)]
  kernel_rfl
theorem known_parts2 : partsF kv = [⟨#[34, 120, 44, 121, 34]⟩, ⟨#[122]⟩] := by
  rw [partsF_take (by decide) (by decide), partsF_take (by decide) (by decide), partsF_nil (by decide)]
  kernel_rfl
def klist : List ByteArray := [⟨#[98]⟩, ⟨#[34, 120, 44, 121, 34]⟩, ⟨#[122]⟩]
theorem known_rows : rowsEq klist klist = true := (rowsEq_iff _ _).2 rfl
theorem known_list : listF ⟨#[65]⟩ kl = klist := by
  unfold listF klist
  rw [known_all]
  simp only [List.flatMap_cons, List.flatMap_nil, known_parts1, known_parts2]
  rfl
theorem known_token1 : tokenF [97, 45, 98] = true := by kernel_rfl
theorem known_token2 : tokenF [97, 32, 98] = false := by kernel_rfl
theorem known_lines : linesF [(⟨#[65]⟩, ⟨#[98]⟩)] = [65, 58, 32, 98, 13, 10] := by kernel_rfl
theorem known_same : sameF [97, 66] [65, 98] = true := by kernel_rfl

theorem fieldCells_at : ∀ (l : List (ByteArray × ByteArray)) (k : Nat) (h : k < l.length), (fieldCells l)[k * 2]? = some (.string l[k].1) ∧ (fieldCells l)[k * 2 + 1]? = some (.string l[k].2)
  | [], k, h => absurd h (by simp)
  | x :: l, 0, _ => by simp [fieldCells]
  | x :: l, k + 1, h => by
    have ih := fieldCells_at l k (by simpa using h)
    have e : ∀ j, (fieldCells (x :: l))[j + 2]? = (fieldCells l)[j]? := fun j => by simp [fieldCells]
    rw [show (k + 1) * 2 = k * 2 + 2 from by omega, show k * 2 + 2 + 1 = (k * 2 + 1) + 2 from by omega, e, e]
    exact ih
theorem fieldsIn_own {w : World} {base g c : Nat} {e : TypeId} {fs : List (ByteArray × ByteArray)} (h : w.ownsRow base e 2 (.slice (some ⟨g, 0, none⟩) fs.length c) fs.length (fieldCells fs)) : FieldsIn w.heap.size w (some ⟨g, 0, none⟩) fs := by
  intro j hj
  have hc := fieldCells_at fs j hj
  refine ⟨g, 0, rfl, (h.lt g rfl).2, ?_, ?_⟩
  · rw [Nat.zero_add, World.ownsRow.cellAt h _ (by omega)]; exact hc.1
  · rw [Nat.zero_add, World.ownsRow.cellAt h _ (by omega)]; exact hc.2
theorem FieldsIn.below {w w' : World} {B B' : Nat} {a : Option Addr} {l : List (ByteArray × ByteArray)} (h : FieldsIn B w a l) (hb : Below B w w') (hB : B ≤ B') : FieldsIn B' w' a l := by
  intro j hj
  obtain ⟨b, off, h1, h2, h3, h4⟩ := h j hj
  exact ⟨b, off, h1, Nat.lt_of_lt_of_le h2 hB, (hb.cell (p := ⟨b, off + j * 2, none⟩) h2).trans h3, (hb.cell (p := ⟨b, off + j * 2 + 1, none⟩) h2).trans h4⟩
theorem strsIn_own {w : World} {base g c : Nat} {e : TypeId} {r : List ByteArray} (h : w.ownsRow base e 1 (.slice (some ⟨g, 0, none⟩) r.length c) r.length (strCells r)) : StrsIn w.heap.size w (some ⟨g, 0, none⟩) r := by
  intro j hj
  refine ⟨g, 0, rfl, (h.lt g rfl).2, ?_⟩
  rw [Nat.zero_add, World.ownsRow.cellAt h _ (by omega), strCells_at hj]
theorem StrsIn.below {w w' : World} {B B' : Nat} {a : Option Addr} {l : List ByteArray} (h : StrsIn B w a l) (hb : Below B w w') (hB : B ≤ B') : StrsIn B' w' a l := by
  intro j hj
  obtain ⟨b, off, h1, h2, h3⟩ := h j hj
  exact ⟨b, off, h1, Nat.lt_of_lt_of_le h2 hB, (hb.cell (p := ⟨b, off + j, none⟩) h2).trans h3⟩
theorem strsIn_lit (w : World) (t : TypeId) (ls : List ByteArray) : StrsIn (w.alloc (.cells (strCells ls).toArray t)).heap.size (w.alloc (.cells (strCells ls).toArray t)) (some ⟨w.heap.size, 0, none⟩) ls := by
  intro j hj
  have hB := MBlk.new w t (strCells ls).toArray (0, 0)
  refine ⟨w.heap.size, 0, rfl, hB.lt, ?_⟩
  rw [Nat.zero_add, hB.cell j]
  have := strCells_at hj
  simpa using this

theorem parse_good {ls : List ByteArray} {a : Option Addr} {cap : Nat} {w : World} {fs : List (ByteArray × ByteArray)} (hfs : parseF ls = some fs) (h0 : 0 < fs.length) (hin : StrsIn w.heap.size w a ls) (hsm : Small ls) (hle : ls.length ≤ 100) :
    Calls Tryd.prog 13 #[.slice a ls.length cap] w fun e w' => ∃ g c, e = .returned (.tuple #[.slice (some ⟨g, 0, none⟩) fs.length c, .int .i64 0]) ∧ FieldsIn w'.heap.size w' (some ⟨g, 0, none⟩) fs ∧ Below w.heap.size w w' ∧ fs.length ≤ c := by
  refine (parse_some ls a cap w hin hsm (by omega)).mono ?_
  rintro e w' ⟨hb, ⟨h, _⟩ | ⟨_, h, _⟩ | ⟨_, fs', v, h, rfl, hown⟩⟩
  · omega
  · rw [hfs] at h; cases h
  · rw [hfs] at h
    cases h
    rcases hown.2 with ⟨_, h1⟩ | ⟨g, c, cur, rfl, _⟩
    · omega
    · rename_i hc
      exact ⟨g, c, rfl, fieldsIn_own hown, hb, hc.2.2.1⟩
theorem parse_bad {ls : List ByteArray} {a : Option Addr} {cap : Nat} {w : World} (hfs : parseF ls = none) (hin : StrsIn w.heap.size w a ls) (hsm : Small ls) (hle : ls.length ≤ 100) :
    Calls Tryd.prog 13 #[.slice a ls.length cap] w fun e w' => e = .returned (.tuple #[.slice none 0 0, .int .i64 90]) ∧ Below w.heap.size w w' := by
  refine (parse_some ls a cap w hin hsm (by omega)).mono ?_
  rintro e w' ⟨hb, ⟨h, _⟩ | ⟨_, _, rfl⟩ | ⟨_, fs', v, h, _⟩⟩
  · omega
  · exact ⟨rfl, hb⟩
  · rw [hfs] at h; cases h
theorem get_good {l : List (ByteArray × ByteArray)} {n v : ByteArray} {a : Option Addr} {cap : Nat} {w : World} (hv : getF n l = some v) (hin : FieldsIn w.heap.size w a l) (hsm : SmallF l) (hle : l.length ≤ 140737488351232) (hn : n.size ≤ 140737488351232) :
    Calls Tryd.prog 24 #[.slice a l.length cap, .string n] w fun e w' => e = .returned (.tuple #[.string v, .bool true]) ∧ Below w.heap.size w w' := by
  refine (get_any l n a cap w hin hsm hle hn).mono ?_
  rintro e w' ⟨hb, ⟨h, _⟩ | ⟨v', h, rfl⟩⟩
  · rw [hv] at h; cases h
  · rw [hv] at h; cases h
    exact ⟨rfl, hb⟩
theorem list_good {l : List (ByteArray × ByteArray)} {n : ByteArray} {r : List ByteArray} {a : Option Addr} {cap : Nat} {w : World} (hr : listF n l = r) (h0 : 0 < r.length) (hin : FieldsIn w.heap.size w a l) (hsm : SmallF l) (hle : l.length ≤ 1000000) (hvs : ∀ j (h : j < l.length), l[j].2.size ≤ 1000000) (hn : n.size ≤ 140737488351232) :
    Calls Tryd.prog 29 #[.slice a l.length cap, .string n] w fun e w' => ∃ g c, e = .returned (.slice (some ⟨g, 0, none⟩) r.length c) ∧ StrsIn w'.heap.size w' (some ⟨g, 0, none⟩) r ∧ Below w.heap.size w w' := by
  subst hr
  refine (list_any l n a cap w hin hsm hle hvs hn).mono ?_
  rintro e w' ⟨v, rfl, hown, hb⟩
  rcases hown.2 with ⟨_, h1⟩ | ⟨g, c, cur, rfl, _⟩
  · omega
  · exact ⟨g, c, rfl, strsIn_own hown, hb⟩
theorem small_of (ls : List ByteArray) (h : ∀ s ∈ ls, s.size ≤ 1000000) : Small ls := fun j hj => by have := h _ (List.getElem_mem hj); omega
theorem kl_sizes : ∀ j (h : j < kl.length), kl[j].1.size ≤ 1000000 ∧ kl[j].2.size ≤ 1000000 := by decide
theorem kl_small : SmallF kl := fun j h => by have := kl_sizes j h; omega

theorem FieldsIn.first {w : World} {B : Nat} {a : Option Addr} {f : ByteArray × ByteArray} {l : List (ByteArray × ByteArray)} (h : FieldsIn B w a (f :: l)) : FieldsIn B w a [f] := by
  intro j hj
  have hj0 : j = 0 := by simp at hj; omega
  subst hj0
  exact h 0 (by simp)

set_option maxHeartbeats 4000000 in
theorem known_any (w : World) : Calls Tryd.prog 11 #[] w fun e w' => e = .returned (.bool true) ∧ Below w.heap.size w w' := by
  go_enter Tryd.func11, Tryd.ntmps11
  go_wp2_with fail
  refine (parse_good (ls := [k1, k2]) known_parse (by decide) (strsIn_lit w 9 [k1, k2]) (small_of _ (by decide)) (by decide)).mono ?_
  rintro e w1 ⟨g, c, rfl, hf, hb, hgc⟩
  replace hgc : 2 ≤ c := hgc
  replace hb := ((Below.refl _ w).alloc (o := .cells (strCells [k1, k2]).toArray 9) (Nat.le_refl _)).trans (hb.mono (by simp))
  go_wp2_with fail
  have hs1 := strsIn_lit w1 9 [k3]
  refine (parse_bad (ls := [k3]) known_bad hs1 (small_of _ (by decide)) (by decide)).mono ?_
  rintro e w2 ⟨rfl, hb2⟩
  have hb2' := ((Below.refl _ w1).alloc (o := .cells (strCells [k3]).toArray 9) (Nat.le_refl _)).trans (hb2.mono (by simp))
  replace hf := hf.below hb2' hb2'.size
  replace hb := hb.trans (hb2'.mono hb.size)
  clear hs1 hb2 hb2'
  have hkl : kl.length = 2 := rfl
  go_wp2_with fail
  refine (get_good known_get hf kl_small (by decide) (by decide)).mono ?_
  rintro e w3 ⟨rfl, hb3⟩
  replace hf := hf.below hb3 hb3.size
  replace hb := hb.trans (hb3.mono hb.size)
  clear hb3
  go_wp2_with fail
  refine (list_good known_list (by decide) hf kl_small (by decide) (fun j h => (kl_sizes j h).2) (by decide)).mono ?_
  rintro e w4 ⟨g4, c4, rfl, hs4, hb4⟩
  replace hf := hf.below hb4 hb4.size
  replace hb := hb.trans (hb4.mono hb.size)
  clear hb4
  go_wp2_with fail
  have hs5 := strsIn_lit w4 9 klist
  have hb5 := (Below.refl _ w4).alloc (o := .cells (strCells klist).toArray 9) (Nat.le_refl _)
  replace hf := hf.below hb5 hb5.size
  replace hs4 := hs4.below hb5 hb5.size
  replace hb := hb.trans (hb5.mono hb.size)
  clear hb5
  refine (strings_any klist klist _ _ _ _ _ hs4 hs5 (by decide) (by decide)).mono ?_
  rintro e w5 ⟨m, rfl, rfl⟩
  rw [known_rows]
  have hb6 := below_drewN (Below.refl (w4.alloc (.cells (strCells klist).toArray 9)).heap.size (w4.alloc (.cells (strCells klist).toArray 9))) m
  replace hf := hf.below hb6 hb6.size
  replace hb := hb.trans (hb6.mono hb.size)
  clear hb6 hs4 hs5
  go_wp2_with fail
  refine (token_any _ _ (by decide)).mono ?_
  rintro e w6 ⟨rfl, rfl⟩
  rw [show tokenF _ = true from known_token1]
  go_wp2_with fail
  refine (token_any _ _ (by decide)).mono ?_
  rintro e w6 ⟨rfl, rfl⟩
  rw [show tokenF _ = false from known_token2]
  go_wp2_with fail
  replace hf := FieldsIn.first hf
  refine (lines_any [(⟨#[65]⟩, ⟨#[98]⟩)] _ _ _ hf (by decide) (by decide)).mono ?_
  rintro e w7 ⟨rfl, hb7⟩
  rw [known_lines]
  replace hb := hb.trans (hb7.mono hb.size)
  clear hb7 hf
  go_wp2_with fail
  refine (same_any _ _ _ (by decide) (by decide)).mono ?_
  rintro e w8 ⟨m8, rfl, rfl⟩
  rw [show sameF _ _ = true from known_same]
  have hb8 := below_drewN hb m8
  go_wp2
  go_ret
  exact ⟨rfl, hb8⟩
end Go.Proofs.YtckhjhgddnjfpaaDoor
