/-
  The law's own example.
-/
import Derived.Test.YtjdiaighfhljgaaDoorConfParse
namespace Go.Proofs.YtjdiaighfhljgaaDoor
open Go.RowKit GlobMath DateMath

def kOne : ByteArray := ⟨#[35, 32, 120, 10, 114, 97, 110, 103, 101, 115, 32, 111, 102, 102, 10, 32, 100, 101, 110, 121, 32, 68, 69, 76, 69, 84, 69, 32, 42, 32, 42, 42, 10]⟩
def kTwo : ByteArray := ⟨#[108, 111, 103, 32, 53, 10, 122, 122]⟩
def lnA : ByteArray := ⟨#[35, 32, 120]⟩
def lnB : ByteArray := ⟨#[114, 97, 110, 103, 101, 115, 32, 111, 102, 102]⟩
def lnC : ByteArray := ⟨#[32, 100, 101, 110, 121, 32, 68, 69, 76, 69, 84, 69, 32, 42, 32, 42, 42]⟩
def lnD : ByteArray := ⟨#[108, 111, 103, 32, 53]⟩
def lnE : ByteArray := ⟨#[122, 122]⟩
def emptyB : ByteArray := ⟨#[]⟩
theorem kind_empty : KindOf (trimR emptyB) .quiet := .inl (by kernel_rfl)
theorem kind_a : KindOf (trimR lnA) .quiet := .inr ⟨⟨#[35]⟩, [⟨#[120]⟩], by kernel_rfl, by decide, rfl⟩
theorem kind_b : KindOf (trimR lnB) .off := by show wordsL (trimR lnB) = _; kernel_rfl
theorem kind_c : KindOf (trimR lnC) .rule := ⟨⟨#[100, 101, 110, 121]⟩, [⟨#[68, 69, 76, 69, 84, 69]⟩, ⟨#[42]⟩, ⟨#[42, 42]⟩], by kernel_rfl, ⟨⟨by decide, by decide⟩, by kernel_rfl, by kernel_rfl, by kernel_rfl⟩, false, ⟨#[68, 69, 76, 69, 84, 69]⟩, ⟨#[42]⟩, ⟨#[42, 42]⟩, by kernel_rfl⟩
theorem kind_d : KindOf (trimR lnD) (.log 5) := ⟨⟨#[53]⟩, by kernel_rfl, by kernel_rfl⟩
theorem kind_e : KindOf (trimR lnE) .bad := ⟨lnE, [], by kernel_rfl, ⟨⟨by decide, by decide⟩, by kernel_rfl, by kernel_rfl, by kernel_rfl⟩, by kernel_rfl⟩
def lsOne : List (ByteArray × Kind) := [(lnA, .quiet), (lnB, .off), (lnC, .rule), (emptyB, .quiet)]
def lsTwo : List (ByteArray × Kind) := [(lnD, .log 5), (lnE, .bad)]
theorem one_any (m : Int) (w : World) (hm : w.cell? ⟨0, 0, none⟩ = some (.int .i64 m)) : Calls Tryd.prog 7 #[.string kOne] w (ConfPost (.inl (⟨1, false, consoleB, 100⟩, 4)) w) := by
  refine confParse_any kOne lsOne m w (by decide) hm (by kernel_rfl) (fun x hx => ?_) (by decide) (fun x hx => ?_)
  · simp only [lsOne, List.mem_cons, List.not_mem_nil, or_false] at hx
    rcases hx with rfl | rfl | rfl | rfl <;> decide
  · simp only [lsOne, List.mem_cons, List.not_mem_nil, or_false] at hx
    rcases hx with rfl | rfl | rfl | rfl
    · exact kind_a
    · exact kind_b
    · exact kind_c
    · exact kind_empty
theorem two_any (m : Int) (w : World) (hm : w.cell? ⟨0, 0, none⟩ = some (.int .i64 m)) : Calls Tryd.prog 7 #[.string kTwo] w (ConfPost (.inr 2) w) := by
  refine confParse_any kTwo lsTwo m w (by decide) hm (by kernel_rfl) (fun x hx => ?_) (by decide) (fun x hx => ?_)
  · simp only [lsTwo, List.mem_cons, List.not_mem_nil, or_false] at hx
    rcases hx with rfl | rfl <;> decide
  · simp only [lsTwo, List.mem_cons, List.not_mem_nil, or_false] at hx
    rcases hx with rfl | rfl
    · exact kind_d
    · exact kind_e
def Knows (w : World) (e : Ending) (w' : World) : Prop := e = .returned (.bool true) ∧ Below w.heap.size w w'
theorem conf_cells (w : World) (a b c d : Value) : ∀ i, (w.alloc (.cells #[a, b, c, d] 27)).cell? ⟨w.heap.size, i, none⟩ = #[a, b, c, d][i]? := fun i => Lib.cell_of_heap (heap_alloc_new w _) i
set_option maxHeartbeats 4000000 in
theorem known_any (m : Int) (w : World) (hm : w.cell? ⟨0, 0, none⟩ = some (.int .i64 m)) : Calls Tryd.prog 5 #[] w (Knows w) := by
  have h0 : 0 < w.heap.size := by
    rcases Nat.lt_or_ge 0 w.heap.size with h | h
    · exact h
    · simp [World.cell?, Array.getElem?_eq_none h] at hm
  have K1 := one_any m w hm
  unfold Knows
  go_enter Tryd.func5, Tryd.ntmps5
  go_wp2_with fail
  refine K1.mono ?_
  rintro e w1 ⟨⟨ra, rc, rfl⟩, hb1⟩
  obtain ⟨v1, hv1⟩ : ∃ v1, w1.alloc (.cells #[.slice ra 1 rc, .bool false, .string consoleB, .int .i64 100] 27) = v1 := ⟨_, rfl⟩
  have c1 := conf_cells w1 (.slice ra 1 rc) (.bool false) (.string consoleB) (.int .i64 100)
  rw [hv1] at c1
  have hb2 : Below w.heap.size w v1 := by rw [← hv1]; exact hb1.alloc hb1.size _
  have hz1 : v1.heap.size = w1.heap.size + 1 := by rw [← hv1]; simp
  have hm1 : v1.cell? ⟨0, 0, none⟩ = some (.int .i64 m) := (hb2.cell (p := ⟨0, 0, none⟩) h0).trans hm
  have HV1 := Lib.hid hv1
  have K2 := two_any m v1 hm1
  unfold ConfPost zeroConf at K2
  clear hv1 hb1 hm1 K1
  go_wp2_with fail
  change Calls _ _ _ (w1.alloc (.cells #[.slice ra 1 rc, .bool false, .string consoleB, .int .i64 100] 27)) _
  rw [HV1.out]
  refine K2.mono ?_
  rintro e w2 ⟨rfl, hb3⟩
  obtain ⟨v2, hv2⟩ : ∃ v2, w2.alloc (.cells #[.slice none 0 0, .bool false, .string ⟨#[]⟩, .int .i64 0] 27) = v2 := ⟨_, rfl⟩
  have hb4 : Below v1.heap.size v1 v2 := by rw [← hv2]; exact hb3.alloc hb3.size _
  have HV2 := Lib.hid hv2
  clear hv2 K2 hb3
  go_wp2_with fail
  change Calls _ _ _ (w2.alloc (.cells #[.slice none 0 0, .bool false, .string ⟨#[]⟩, .int .i64 0] 27)) _
  rw [HV2.out]
  refine (default_any v2).mono ?_
  rintro e w3 ⟨rfl, hs3⟩
  have hb5 : Below v1.heap.size v1 (w3.alloc (.cells #[.slice none 0 0, .bool true, .string consoleB, .int .i64 100] 27)) := (hb4.trans (hs3.below0.mono hb4.size)).alloc (Nat.le_trans hb4.size hs3.size) _
  have HB := Lib.hid (hb2.trans (hb5.mono hb2.size))
  have hk : ∀ i u, v1.cell? ⟨w1.heap.size, i, none⟩ = some u → (w3.alloc (.cells #[.slice none 0 0, .bool true, .string consoleB, .int .i64 100] 27)).cell? ⟨w1.heap.size, i, none⟩ = some u := fun i u h => (hb5.cell (p := ⟨w1.heap.size, i, none⟩) (by show w1.heap.size < _; omega)).trans h
  have d0 := hk 0 _ (c1 0)
  have d1 := hk 1 _ (c1 1)
  have d3 := hk 3 _ (c1 3)
  have q : (consoleB.toList == [99, 111, 110, 115, 111, 108, 101]) = true := by rw [Lib.toList_data]; rfl
  clear hk c1 hb2 hb4 hb5 hs3
  go_wp2
  go_ret
  exact ⟨rfl, HB.out⟩
end Go.Proofs.YtjdiaighfhljgaaDoor
