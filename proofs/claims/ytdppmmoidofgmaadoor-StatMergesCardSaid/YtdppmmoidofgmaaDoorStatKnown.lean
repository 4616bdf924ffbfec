/-
  The law's known case.
-/
import Derived.Test.YtdppmmoidofgmaaDoorStatAdd
import Derived.Test.YtdppmmoidofgmaaDoorStatText
import Derived.Test.YtdppmmoidofgmaaDoorStatQuant
namespace Go.Proofs.YtdppmmoidofgmaaDoor
open Go.RowKit

def knownC : Cs := addF zeroC 0 200 5
theorem known_fair : Fair knownC 1073741827 := (zero_fair.add 0 200 5).mono (by omega)
theorem known_len : knownC.length = 45 := known_fair.len
theorem known_of : ofF knownC 0 = 1 := by decide +kernel
theorem known_class : classF knownC 2 = 1 := by decide +kernel
theorem known_bytes : gI knownC 44 = 5 := by decide +kernel
theorem known_three : gI knownC 15 = 1 := by decide +kernel
theorem known_qu : quF knownC 50 = 7 := by decide +kernel
theorem known_text : textL knownC = [104, 105, 116, 32, 49, 10, 109, 105, 115, 115, 32, 48, 10, 99, 104, 101, 99, 107, 32, 48, 10, 100, 101, 110, 121, 32, 48, 10, 101, 114, 114, 111, 114, 32, 48, 10, 99, 111, 110, 115, 111, 108, 101, 32, 48, 10, 98, 121, 116, 101, 115, 32, 53, 10] := by decide +kernel
set_option maxRecDepth 100000 in
set_option maxHeartbeats 4000000 in
theorem known_any (w : World) (ht : TabW w) : Calls Tryd.prog 6 #[] w fun e w' => e = .returned (.bool true) ∧ Below w.heap.size w w' := by
  have HT := Lib.hid ht
  clear ht
  go_enter Tryd.func6, Tryd.ntmps6
  go_wp2_with fail
  refine (new_any _).mono ?_
  rintro e w1 ⟨rfl, rfl⟩
  have h1 := alloc_stat 56 w
  have hb1 : Below w.heap.size w (w.alloc (.cells zeroA 56)) := ((Spares.refl nowhere w).alloc _).below0
  have hz1 : (w.alloc (.cells zeroA 56)).heap.size = w.heap.size + 1 := by simp
  obtain ⟨w1, hw1⟩ : ∃ w1, w.alloc (.cells zeroA 56) = w1 := ⟨_, rfl⟩
  rw [hw1] at h1 hb1 hz1 ⊢
  have H1 := Lib.hid h1
  have HB1 := Lib.hid hb1
  clear h1 hb1 hw1
  go_wp2_with fail
  refine (add_any _ zeroC 0 200 5 0 w1 H1.out zero_fair (by decide) (by decide)).mono ?_
  rintro e w2 ⟨rfl, h2, hs2⟩
  have H2 : Hid (IsStat w.heap.size knownC w2) := Lib.hid h2
  have hb2 : Below w.heap.size w w2 := HB1.out.trans (hs2.below (by omega) (fun k hk e => by omega))
  have hz2 := hs2.size
  have HB2 := Lib.hid hb2
  clear h2 hs2 hb2
  go_wp2_with fail
  refine (sizes_any _ knownC w2 H2.out known_len).mono ?_
  rintro e w3 ⟨rfl, rfl⟩
  have hb3 : Below w2.heap.size w2 (w2.alloc (.cells (sizesA knownC 32) 2)) := ((Spares.refl nowhere w2).alloc _).below0
  have hc3 : (w2.alloc (.cells (sizesA knownC 32) 2)).cell? ⟨w2.heap.size, 3, none⟩ = some (.int .i64 1) := by
    rw [Lib.cell_of_heap (heap_alloc_new w2 _), Array.getElem?_eq_getElem (by rw [sizesA_size]; decide), sizesA_get, if_pos (by decide), show 12 + 3 = 15 from rfl, known_three]
  obtain ⟨w3, hw3⟩ : ∃ w3, w2.alloc (.cells (sizesA knownC 32) 2) = w3 := ⟨_, rfl⟩
  rw [hw3] at hb3 hc3 ⊢
  have H3 : Hid (IsStat w.heap.size knownC w3) := Lib.hid (StatAt.below H2.out hb3)
  have HB3 : Hid (Below w.heap.size w w3) := Lib.hid (HB2.out.trans (hb3.mono (by omega)))
  clear hb3 hw3
  have hbz := HB3.out.size
  go_wp2_with fail
  refine (of_any _ knownC 0 w3 H3.out known_len).mono ?_
  rintro e w4 ⟨rfl, rfl⟩
  rw [known_of]
  go_wp2_with fail
  refine (class_any _ knownC 2 _ H3.out known_len).mono ?_
  rintro e w4 ⟨rfl, rfl⟩
  rw [known_class]
  go_wp2_with fail
  refine (bytes_any _ knownC _ H3.out known_len).mono ?_
  rintro e w4 ⟨rfl, rfl⟩
  rw [known_bytes]
  go_wp2_with fail
  refine (quantile_any _ knownC 50 1073741827 _ H3.out known_fair (by decide)).mono ?_
  rintro e w5 ⟨rfl, hb5⟩
  rw [known_qu]
  have H5 : Hid (IsStat w.heap.size knownC w5) := Lib.hid (StatAt.below H3.out hb5)
  have HB5 : Hid (Below w.heap.size w w5) := Lib.hid (HB3.out.trans (hb5.mono hbz))
  clear hb5
  go_wp2_with fail
  refine (text_any _ knownC 1073741827 w5 H5.out known_fair (by decide) (HT.out.below HB5.out)).mono ?_
  rintro e w6 ⟨rfl, hb6⟩
  rw [known_text]
  have HB6 : Hid (Below w.heap.size w w6) := Lib.hid (HB5.out.trans (hb6.mono HB5.out.size))
  clear hb6
  go_wp2
  go_ret
  exact ⟨rfl, HB6.out⟩
end Go.Proofs.YtdppmmoidofgmaaDoor
