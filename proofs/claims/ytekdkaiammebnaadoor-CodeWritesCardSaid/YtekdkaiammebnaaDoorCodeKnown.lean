/-
  The laws' first test.
-/
import Derived.Test.YtekdkaiammebnaaDoorCodeHelp
import Derived.Test.YtekdkaiammebnaaDoorCodeCrc
import Derived.Lib.SlBytesConst
namespace Go.Proofs.YtekdkaiammebnaaDoor
open Go.RowKit CodeMath CrcMath

theorem Steps.spares {F : Nat → Prop} {w w' : World} (h : Steps w) (hs : Spares F w w') (h0 : ¬ F 0) : Steps w' := by
  intro r hr
  have hc := h r hr
  have hlt : 0 < w.heap.size := by
    rcases Nat.lt_or_ge 0 w.heap.size with h | h
    · exact h
    · simp [World.cell?, Array.getElem?_eq_none h] at hc
  exact (hs.cell (p := ⟨0, r, none⟩) hlt h0).trans hc
theorem Steps.lt {w : World} (h : Steps w) : 0 < w.heap.size := by
  have hc := h 0 (by omega)
  rcases Nat.lt_or_ge 0 w.heap.size with h | h
  · exact h
  · simp [World.cell?, Array.getElem?_eq_none h] at hc
theorem bytesAt_lit {w : World} (l : List UInt8) {t : TypeId} {r : Nat × Nat} : BytesAt (w.alloc (.cells (Lib.byteCells l).toArray t r)) (some ⟨w.heap.size, 0, none⟩) l := by
  intro k hk
  refine ⟨_, _, rfl, ?_⟩
  have h := heap_alloc_new w (.cells (Lib.byteCells l).toArray t r)
  simp only [World.cell?, h]
  simp [Lib.byteCells, hk]

def Knows (w : World) (e : Ending) (w' : World) : Prop := e = .returned (.bool true) ∧ Spares nowhere w w'
set_option maxRecDepth 100000 in
set_option maxHeartbeats 1000000 in
theorem known_any (w : World) (hT : Steps w) : Calls Tryd.prog 8 #[] w (Knows w) := by
  have HT := Lib.hid hT
  have hlt := hT.lt
  clear hT
  go_enter Tryd.func8, Tryd.ntmps8
  go_wp2_with fail
  refine (newWriter_any _).mono ?_
  rintro e w1 ⟨rfl, _, hw1, hs1⟩
  go_wp2_with fail
  refine (wNum_any _ _ [] 300 _ hw1 (by unfold U64; omega) (by simp)).mono ?_
  rintro e w2 ⟨rfl, F2, hw2, hm2⟩
  rw [numF_known, List.nil_append] at hw2
  have hs2 : Spares nowhere w w2 := hs1.trans' hm2.1 (fun b hb => .inr (by omega))
  have hF2 : ∀ k, F2 k → w.heap.size ≤ k := fun k hk => (hm2.2 k hk).elim (fun e => by omega) (fun h => Nat.le_trans hs1.size h)
  have HW2 := Lib.hid hw2
  have HS2 := Lib.hid hs2
  have HF2 := Lib.hid hF2
  clear hw1 hs1 hw2 hm2 hs2 hF2
  go_wp2_with fail
  refine (wBytes_any _ _ _ _ HW2.out (by simp)).mono ?_
  rintro e w3 ⟨a3, c3, rfl, ho3, hs3, hf3⟩
  have HO3 := Lib.hid ho3
  have HW3 := Lib.hid (HW2.out.spares hs3 (fun _ _ h => h))
  have HS3 := Lib.hid (HS2.out.trans hs3)
  clear ho3 hs3 hf3
  go_wp2_with fail
  refine (newReader_any [172, 2] a3 c3 _ HO3.out.bytes.1 HO3.out.bytes.2 (by simp)).mono ?_
  rintro e w4 ⟨p4, F4, rfl, hr4, hs4, hf4⟩
  have HW4 := Lib.hid (HW3.out.spares hs4 (fun _ _ h => h))
  have HR4 := Lib.hid hr4
  have HS4 := Lib.hid (HS3.out.trans hs4)
  have HF4 := Lib.hid (show ∀ k, F4 k → w.heap.size ≤ k from fun k hk => Nat.le_trans HS3.out.size (hf4 k hk))
  clear hr4 hs4 hf4
  go_wp2_with fail
  refine (wBytes_any _ _ _ _ HW4.out (by simp)).mono ?_
  rintro e w5 ⟨a5, c5, rfl, ho5, hs5, hf5⟩
  have HO5 := Lib.hid ((ho5.spares (F := nowhere) ((Spares.refl _ _).alloc (.cells #[.int .u8 172, .int .u8 2] 5)) (fun _ _ h => h)).bytes.1)
  have HR5 := Lib.hid ((HR4.out.spares hs5 (fun _ _ h => h)).alloc (.cells #[.int .u8 172, .int .u8 2] 5))
  have HS5 := Lib.hid (HS4.out.trans hs5)
  clear ho5 hs5 hf5
  go_wp2_with fail
  refine (bytes_any [172, 2] [172, 2] a5 (some ⟨w5.heap.size, 0, none⟩) c5 2 _ HO5.out (bytesAt_lit [172, 2])).mono ?_
  rintro e w6 ⟨rfl, rfl⟩
  rw [show (([172, 2] : List UInt8) == [172, 2]) = true by decide]
  go_wp2_with fail
  refine (rNum_any F4 p4 (some [172, 2]) _ HR5.out (fun l e => by injection e with e; subst e; decide)).mono ?_
  rw [show readNum (some [172, 2]) = (300, some []) by decide +kernel]
  rintro e w7 ⟨rfl, hr7, hs7⟩
  have HR7 := Lib.hid hr7
  have HS7 := Lib.hid ((HS5.out.alloc (.cells #[.int .u8 172, .int .u8 2] 5)).trans' hs7 (fun b hb => .inr (by subst hb; exact HF4.out _ HR4.out.1)))
  clear hr7 hs7
  go_wp2_with fail
  refine (done_any F4 p4 (some []) _ HR7.out (fun l e => by injection e with e; subst e; decide)).mono ?_
  rintro e w8 ⟨rfl, rfl⟩
  rw [show doneF (some []) = 0 from rfl]
  go_wp2_with fail
  refine (rNum_any F4 p4 (some []) _ HR7.out (fun l e => by injection e with e; subst e; decide)).mono ?_
  rw [show readNum (some []) = (0, none) by decide +kernel]
  rintro e w9 ⟨rfl, hr9, hs9⟩
  have HR9 := Lib.hid hr9
  have HS9 := Lib.hid (HS7.out.trans' hs9 (fun b hb => .inr (by subst hb; exact HF4.out _ HR4.out.1)))
  clear hr9 hs9
  go_wp2_with fail
  refine (done_any F4 p4 none _ HR9.out (fun l e => by cases e)).mono ?_
  rintro e w10 ⟨rfl, rfl⟩
  rw [show doneF none = 20 from rfl]
  have kc := fun (w : World) (C : Array Value) (n c : Nat) => Lib.run_convert_bytes_const (P := Tryd.prog) w 27 5 C n c Tryd.underlying27 Tryd.underlying5
  go_wp2_with fail
  refine (crc_any [49, 50, 51, 52, 53, 54, 55, 56, 57] _ _ _ (HT.out.spares (F := nowhere) (HS9.out.alloc _) (fun h => h)) (bytesAt_lit _) (by decide)).mono ?_
  rw [crc_known]
  rintro e w11 ⟨rfl, rfl⟩
  go_wp2
  go_ret
  exact ⟨rfl, HS9.out.alloc _⟩
end Go.Proofs.YtekdkaiammebnaaDoor
