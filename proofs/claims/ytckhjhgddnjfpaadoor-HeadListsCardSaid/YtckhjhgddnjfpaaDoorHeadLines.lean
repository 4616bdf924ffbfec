/-
  Fields written as lines, in the program.
-/
import Derived.Test.YtckhjhgddnjfpaaDoorHeadHelp
import Derived.Test.YtckhjhgddnjfpaaDoorBuilderS
namespace Go.Proofs.YtckhjhgddnjfpaaDoor
open Go.RowKit HeadMath

def lineF (f : ByteArray × ByteArray) : List UInt8 := f.1.data.toList ++ ([58, 32] ++ (f.2.data.toList ++ [13, 10]))
def linesF (l : List (ByteArray × ByteArray)) : List UInt8 := l.flatMap lineF
theorem linesF_take {l : List (ByteArray × ByteArray)} {k : Nat} (h : k < l.length) : linesF (l.take (k + 1)) = linesF (l.take k) ++ lineF l[k] := by
  unfold linesF
  rw [List.take_succ_eq_append_getElem h, List.flatMap_append]
  simp
theorem cells_str (s : ByteArray) : Lib.strCells s = Lib.byteCells s.data.toList := rfl
theorem built_empty {w : World} : Lib.IsBuilder 60 5 w.heap.size w.heap.size [] (w.alloc (.cells #[.pointer none, .slice none 0 0] 60)) := Lib.fresh_isBuilder _ _ w

set_option maxHeartbeats 4000000 in
theorem lines_any (l : List (ByteArray × ByteArray)) (a : Option Addr) (cap : Nat) (w : World) (hin : FieldsIn w.heap.size w a l) (hle : l.length ≤ 1000000) (hsz : ∀ j (h : j < l.length), l[j].1.size ≤ 1000000 ∧ l[j].2.size ≤ 1000000) :
    Calls Tryd.prog 35 #[.slice a l.length cap] w fun e w' => e = .returned (.string ⟨(linesF l).toArray⟩) ∧ Below w.heap.size w w' := by
  have HIN := Lib.hid hin
  have hc1 : ({ data := #[58, 32] } : ByteArray).size = 2 := rfl
  have hc2 : ({ data := #[13, 10] } : ByteArray).size = 2 := rfl
  clear hin
  go_enter Tryd.func35, Tryd.ntmps35
  go_wp2
  go_loopw [8] (fun i wr => ∃ (k : Nat) (d : List UInt8), k ≤ l.length ∧ i = .int .i64 k ∧ Hid (linesF (l.take k) = d) ∧ d.length ≤ k * 2000004 ∧ Hid (Lib.IsBuilder 60 5 w.heap.size w.heap.size (Lib.byteCells d) wr) ∧ Below w.heap.size w wr ∧ w.heap.size < wr.heap.size)
    (fun i _ => l.length - (intOf i).toNat)
  case atStart => exact ⟨0, [], Nat.zero_le _, rfl, Lib.hid rfl, Nat.zero_le _, Lib.hid built_empty, (Below.refl _ _).alloc (Nat.le_refl _) _, by simp⟩
  case round =>
    obtain ⟨k, d, hk, rfl, HD, hd, HB, hb, hlt0⟩ := hrel
    by_cases hlt : k < l.length
    · obtain ⟨b, off, rfl, hbl, hc1', hc2'⟩ := HIN.out k hlt
      have x0 := (hb.cell (p := ⟨b, off + k * 2, none⟩) hbl).trans hc1'
      have x1 := (hb.cell (p := ⟨b, off + k * 2 + 1, none⟩) hbl).trans hc2'
      have hs1 := hsz k hlt
      clear hc1' hc2'
      have HN := Lib.hid (linesF_take hlt)
      obtain ⟨nm, vl, hf⟩ : ∃ nm vl, l[k] = (nm, vl) := ⟨_, _, rfl⟩
      have HF := Lib.hid hf
      simp only [hf] at x0 x1 hs1
      clear hf
      have hb' := hb.alloc (o := .cells #[.string nm, .string vl] 48) hb.size
      have HBa : Hid (Lib.IsBuilder 60 5 w.heap.size w.heap.size (Lib.byteCells d) (wr.alloc (.cells #[.string nm, .string vl] 48))) := Lib.hid (by
        have h := HB.out
        rcases h with ⟨h0, v, h1, h2, h3⟩ | ⟨h0, v, h1, h2, h3⟩
        · exact .inl ⟨h0, v, (Lib.alloc_old wr _ _ hlt0).trans h1, h2.alloc _, h3⟩
        · exact .inr ⟨h0, v, (Lib.alloc_old wr _ _ hlt0).trans h1, h2.alloc _, h3⟩)
      have hF := MBlk.new wr 48 #[.string nm, .string vl] (0, 0)
      go_wp2_with fail
      refine (writeString_any w.heap.size w.heap.size _ nm _ HBa.out (by rw [Lib.byteCells_length]; omega) hb'.size).mono ?_
      rintro e w1 ⟨rfl, hB1, hb1, hk1⟩
      have HB1 := Lib.hid hB1
      have hF1 := hk1 _ _ hF (by simp; omega) (by simp)
      replace hb1 := hb'.trans hb1
      clear hB1 hk1 x0 x1
      go_wp2_with fail
      refine (writeString_any w.heap.size w.heap.size _ _ w1 (Or.inr HB1.out) (by simp only [List.length_append, Lib.byteCells_length, Lib.strCells_length]; rw [hc1]; omega) hb1.size).mono ?_
      rintro e w2 ⟨rfl, hB2, hb2, hk2⟩
      have HB2 := Lib.hid hB2
      have hF2 := hk2 _ _ hF1 (by simp; omega) (by simp)
      have y1 : w2.cell? ⟨wr.heap.size, 1, none⟩ = some (.string vl) := MBlk.cell (t := 48) (cs := #[.string nm, .string vl]) (r := (0, 0)) hF2 1
      replace hb2 := hb1.trans hb2
      clear hB2 hk2 hF1
      go_wp2_with fail
      refine (writeString_any w.heap.size w.heap.size _ vl w2 (Or.inr HB2.out) (by simp only [List.length_append, Lib.byteCells_length, Lib.strCells_length]; rw [hc1]; omega) hb2.size).mono ?_
      rintro e w3 ⟨rfl, hB3, hb3, hk3⟩
      have HB3 := Lib.hid hB3
      replace hb3 := hb2.trans hb3
      clear hB3 hk3
      go_wp2_with fail
      refine (writeString_any w.heap.size w.heap.size _ _ w3 (Or.inr HB3.out) (by simp only [List.length_append, Lib.byteCells_length, Lib.strCells_length]; rw [hc1, hc2]; omega) hb3.size).mono ?_
      rintro e w4 ⟨rfl, hB4, hb4, hk4⟩
      have HB4 := Lib.hid hB4
      replace hb4 := hb3.trans hb4
      have hlt4 : w.heap.size < w4.heap.size := by
        obtain ⟨_, v, h1, _⟩ := HB4.out
        rcases Nat.lt_or_ge w.heap.size w4.heap.size with h | h
        · exact h
        · rw [Array.getElem?_eq_none h] at h1; cases h1
      clear hB4 hk4
      go_wp2
      go_roundw
      case rel =>
        refine ⟨k + 1, d ++ lineF (nm, vl), by omega, by go_num, Lib.hid (by rw [HN.out, HD.out, HF.out]), ?_, Lib.hid (Or.inr ?_), hb4, hlt4⟩
        · simp [lineF]; omega
        · have h := HB4.out
          simpa [lineF, Lib.byteCells, Lib.strCells] using h
      case measure => simp [intOf]; omega
    · have HG := Lib.hid (show linesF l = d from by have := HD.out; rwa [List.take_of_length_le (by omega)] at this)
      go_wp2_with fail
      refine (Tryd.Builder_String_any w.heap.size w.heap.size d _ HB.out hb.size).mono ?_
      rintro e w1 ⟨rfl, hb1⟩
      go_wp2
      go_ret
      rw [HG.out]
      exact ⟨rfl, hb.trans hb1⟩
end Go.Proofs.YtckhjhgddnjfpaaDoor
