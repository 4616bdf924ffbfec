/-
  The law's own example.
-/
import Derived.Test.YtkfnebpooohflaaDoorChunkOpenP
import Derived.Test.YtkfnebpooohflaaDoorChunkBytesP
import Derived.Lib.SlBytesConst
namespace Go.Proofs.YtkfnebpooohflaaDoor
open Go.RowKit HeadMath NormMath NormS HeadS ChunkMath

def ex1 : Bs := [51, 13, 10, 97, 98, 99, 13, 10, 48, 13, 10, 13, 10]
def ex2 : Bs := [122, 122, 13, 10]
def ex3 : Bs := [51, 13, 10, 97, 98]
def abc : Bs := [97, 98, 99]
def ex4 : Bs := [50, 13, 10, 97, 98, 13, 10, 49, 13, 10, 99, 13, 10, 48, 13, 10, 13, 10]
theorem open_1 : openF fieldB ex1 = .ok (abc, []) := by kernel_rfl
theorem open_2 : openF fieldB ex2 = .error 94 := by kernel_rfl
theorem open_3 : openF fieldB ex3 = .error 92 := by kernel_rfl
theorem bytes_4 : bytesF 2 abc = ex4 := by
  have h1 : bytesF 2 abc = hexT 2 ++ (crlf ++ ([97, 98] ++ (crlf ++ (hexT 1 ++ (crlf ++ ([99] ++ (crlf ++ endB))))))) := by rfl
  rw [h1, hexT_one (by decide), hexT_one (by decide)]
  rfl
theorem lit_at (l : Bs) (fr : Nat × Nat) (w : World) : BytesAt (w.alloc (.cells (bytesV l) 5 fr)) (some ⟨w.heap.size, 0, none⟩) l := by
  intro k hk
  refine ⟨w.heap.size, 0, rfl, ?_⟩
  rw [Nat.zero_add, cell_of_row _ _ _ _ _ _ (heap_alloc_new w (.cells (bytesV l) 5 fr)), bytesV_get l k hk, List.getD_eq_getElem?_getD, List.getElem?_eq_getElem hk]
  rfl
theorem open_lit (l : Bs) (n : Nat) (hn : l.length = n) (hz : n ≤ 1000) (fr : Nat × Nat) (w : World) : Calls Tryd.prog 10 #[.slice (some ⟨w.heap.size, 0, none⟩) n n] (w.alloc (.cells (bytesV l) 5 fr)) (OpenPost l (openF fieldB l) (w.alloc (.cells (bytesV l) 5 fr))) := by
  subst hn
  exact open_any _ _ l _ (lit_at l fr w) (Nat.le_refl _) (by omega)
theorem bytes_lit (l : Bs) (n : Nat) (hn : l.length = n) (hz : n ≤ 1000) (fr : Nat × Nat) (w : World) (size : Int) (S : Nat) (hS : (S : Int) = max size 1) (hT : TabZ w) : Calls Tryd.prog 9 #[.slice (some ⟨w.heap.size, 0, none⟩) n n, .int .i64 size] (w.alloc (.cells (bytesV l) 5 fr)) (RowPost (w.alloc (.cells (bytesV l) 5 fr)).heap.size (bytesF S l) (w.alloc (.cells (bytesV l) 5 fr))) := by
  subst hn
  exact cbytes_any _ _ l size S _ (lit_at l fr w) (Nat.le_refl _) (by omega) hS (hT.spares ((Spares.refl _ _).alloc _))
def Knows (w : World) (e : Ending) (w' : World) : Prop := e = .returned (.bool true) ∧ Spares nowhere w w'
set_option maxRecDepth 100000 in
set_option maxHeartbeats 4000000 in
theorem known_any (w : World) (hT : TabZ w) : Calls Tryd.prog 8 #[] w (Knows w) := by
  have hcs := fun (W : World) (C : Array Value) (n c : Nat) => Lib.run_convert_bytes_const (P := Tryd.prog) W 22 5 C n c Tryd.underlying22 Tryd.underlying5
  have K1 := open_lit ex1 13 rfl (by decide) (13, 14) w
  rw [open_1] at K1
  unfold Knows
  go_enter Tryd.func8, Tryd.ntmps8
  go_wp2_with fail
  refine K1.mono ?_
  rintro e w1 ⟨⟨v1, rfl, hr1⟩, hs1⟩
  rw [show ((ex1.length - ([] : Bs).length : Nat) : Int) = 13 from rfl]
  have hs1' := ((Spares.refl nowhere w).alloc (.cells (bytesV ex1) 5 (13, 14))).trans hs1
  obtain ⟨a1, c1, rfl, hb1, _, _⟩ := hr1.shape
  have HB1 := Lib.hid hb1
  have HS1 := Lib.hid hs1'
  have K2 := open_lit ex2 4 rfl (by decide) (4, 5) w1
  rw [open_2] at K2
  clear K1 hr1 hs1 hs1' hb1
  go_wp2_with fail
  refine K2.mono ?_
  rintro e w2 ⟨rfl, hs2⟩
  have HS2 := Lib.hid (((Spares.refl nowhere w1).alloc (.cells (bytesV ex2) 5 (4, 5))).trans hs2)
  have K3 := open_lit ex3 5 rfl (by decide) (5, 6) w2
  rw [open_3] at K3
  clear K2 hs2
  go_wp2_with fail
  refine K3.mono ?_
  rintro e w3 ⟨rfl, hs3⟩
  have HS3 := Lib.hid (HS2.out.trans (((Spares.refl nowhere w2).alloc (.cells (bytesV ex3) 5 (5, 6))).trans hs3))
  have HT3 := Lib.hid (hT.spares (HS1.out.trans HS3.out))
  have hcv := conv_bytes (HB1.out.spares HS3.out (fun _ _ _ h => h)) c1
  have e1 : ((⟨abc.toArray⟩ : ByteArray).toList == [97, 98, 99]) = true := by rw [Lib.toList_data]; rfl
  have K4 := bytes_lit abc 3 rfl (by decide) (3, 4) w3 2 2 rfl HT3.out
  rw [bytes_4] at K4
  unfold RowPost at K4
  rw [show abc.length = 3 from rfl] at hcv ⊢
  obtain ⟨AB, hAB⟩ : ∃ AB : ByteArray, (⟨abc.toArray⟩ : ByteArray) = AB := ⟨_, rfl⟩
  rw [hAB] at hcv e1
  clear K3 hs3 hAB
  go_wp2_with fail
  refine K4.mono ?_
  rintro e w4 ⟨v4, rfl, hr4, hs4⟩
  obtain ⟨a4, c4, rfl, hb4, _, _⟩ := hr4.shape
  have hcv4 := conv_bytes hb4 c4
  have HS4 : Hid (Spares nowhere w w4) := Lib.hid ((HS1.out.trans HS3.out).trans' (((Spares.refl nowhere w3).alloc (.cells (bytesV abc) 5 (3, 4))).trans' hs4 (fun k hk => .inr (by have : (w3.alloc (.cells (bytesV abc) 5 (3, 4))).heap.size ≤ k := hk; simp at this; omega))) (fun _ h => by cases h))
  have e4 : ((⟨ex4.toArray⟩ : ByteArray).toList == [50, 13, 10, 97, 98, 13, 10, 49, 13, 10, 99, 13, 10, 48, 13, 10, 13, 10]) = true := by rw [Lib.toList_data]; rfl
  rw [show ex4.length = 18 from rfl] at hcv4 ⊢
  obtain ⟨XB, hXB⟩ : ∃ XB : ByteArray, (⟨ex4.toArray⟩ : ByteArray) = XB := ⟨_, rfl⟩
  rw [hXB] at hcv4 e4
  clear K4 hr4 hs4 hb4 hXB
  go_wp2
  go_ret
  exact ⟨rfl, HS4.out⟩
end Go.Proofs.YtkfnebpooohflaaDoor
