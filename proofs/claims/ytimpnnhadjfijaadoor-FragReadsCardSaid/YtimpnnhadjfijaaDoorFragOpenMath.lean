/-
  What a fragment's bytes say.
-/
import Derived.Test.YtimpnnhadjfijaaDoorFragMem
namespace Go.Proofs.YtimpnnhadjfijaaDoor
open Go.RowKit CrcMath

def cutF (l : List UInt8) (i k : Nat) : List UInt8 := (l.drop i).take k
theorem cutF_len (l : List UInt8) (i k : Nat) (h : i + k ≤ l.length) : (cutF l i k).length = k := by unfold cutF; rw [List.length_take, List.length_drop]; omega
def markL : List UInt8 := [65, 77, 66, 82]
def sizeO (l : List UInt8) : Nat := ofBE (cutF l 41 4)
def headOK (l : List UInt8) : Bool := decide (l.take 4 = markL) && (decide (ofBE (cutF l 85 4) = crcF (l.take 85)) && (decide (ofBE (cutF l 40 1) ≤ 1) && (decide (sizeO l ≤ 4096) && decide (sizeO l ≤ l.length - 89))))
def openOK (l : List UInt8) : Bool := decide (89 ≤ l.length) && (headOK l && decide (shaF (cutF l 89 (sizeO l)) = cutF l 45 32))
def zeroD : FragD := { K := List.replicate 32 0, part := 0, last := false, size := 0, S := List.replicate 32 0, turn := 0 }
def readD (l : List UInt8) : FragD := { K := cutF l 4 32, part := (ofBE (cutF l 36 4) : Nat), last := decide (ofBE (cutF l 40 1) = 1), size := (sizeO l : Nat), S := cutF l 45 32, turn := ofBE (cutF l 77 8) }
def openD (l : List UInt8) : FragD := if openOK l = true then readD l else zeroD
def openP (l : List UInt8) : List UInt8 := if openOK l = true then cutF l 89 (sizeO l) else []
def openE (l : List UInt8) : Int := if openOK l = true then 0 else 40
def OpenPost (l : List UInt8) (w : World) (e : Ending) (w' : World) : Prop :=
  ∃ a c, e = .returned (.tuple #[.agg (fragA (openD l)), .slice a (openP l).length c, .int .i64 (openE l)]) ∧ BytesAt w' a (openP l) ∧ (a = none → c = 0) ∧ Spares nowhere w w'
theorem open_bad {l : List UInt8} {w w' : World} {e : Ending} (h : openOK l = false) (he : e = .returned (.tuple #[.agg (fragA zeroD), .slice none 0 0, .int .i64 40])) (hs : Spares nowhere w w') : OpenPost l w e w' := by
  have h1 : openD l = zeroD := by unfold openD; rw [h]; rfl
  have h2 : openP l = [] := by unfold openP; rw [h]; rfl
  have h3 : openE l = 40 := by unfold openE; rw [h]; rfl
  unfold OpenPost
  rw [h1, h2, h3]
  exact ⟨none, 0, he, bytesAt_nil _ _, fun _ => rfl, hs⟩
theorem open_good {l : List UInt8} {w w' : World} {e : Ending} {a : Option Addr} {c : Nat} (h : openOK l = true) (he : e = .returned (.tuple #[.agg (fragA (readD l)), .slice a (cutF l 89 (sizeO l)).length c, .int .i64 0])) (hb : BytesAt w' a (cutF l 89 (sizeO l))) (hn : a = none → c = 0) (hs : Spares nowhere w w') : OpenPost l w e w' := by
  have h1 : openD l = readD l := by unfold openD; rw [h]; rfl
  have h2 : openP l = cutF l 89 (sizeO l) := by unfold openP; rw [h]; rfl
  have h3 : openE l = 0 := by unfold openE; rw [h]; rfl
  unfold OpenPost
  rw [h1, h2, h3]
  exact ⟨a, c, he, hb, hn, hs⟩
theorem zeroD_len : zeroD.K.length = 32 ∧ zeroD.S.length = 32 := ⟨rfl, rfl⟩
theorem infoFrag : (Tryd.prog.info? 26).map (·.size) = some 68 := by kernel_rfl
theorem fragA_one (F : FragD) : (fragA F).all (·.oneCell') = true := by
  refine all_oneCell_toArray fun v hv => ?_
  unfold fragL at hv
  simp only [List.mem_append, List.mem_cons, List.not_mem_nil, or_false] at hv
  rcases hv with h | (rfl | rfl | rfl) | h | rfl
  · exact byteCells_one _ v h
  · rfl
  · rfl
  · rfl
  · exact byteCells_one _ v h
  · rfl
/-- A fragment's head is stored over another one's cells. -/
theorem frag_stored {v : World} {g : Nat} {F G : FragD} (h : v.heap[g]? = some (.cells (fragA F) 26 (0, 0))) (h1 : F.K.length = 32) (h2 : F.S.length = 32) (h3 : G.K.length = 32) (h4 : G.S.length = 32) :
    v.there g 0 (fragA G).size ∧ (v.setCells g 0 (fragA G).toList).heap[g]? = some (.cells (fragA G) 26 (0, 0)) ∧ Spares (fun b => b = g) v (v.setCells g 0 (fragA G).toList) := by
  refine ⟨there_of h 0 _ (by rw [fragA_size F h1 h2, fragA_size G h3 h4]; omega), ?_, spares_setCells _ _ _ (Spares.refl _ _)⟩
  have := heap_setCells (g := g) (t := 26) (fragL G) [] (fragL F) [] v (by rw [List.append_nil]; exact h) (by rw [fragL_len F h1 h2, fragL_len G h3 h4])
  rw [List.append_nil] at this
  rw [fragA_toList]
  exact this
theorem sizeFrag (G : FragD) (h3 : G.K.length = 32) (h4 : G.S.length = 32) : (Tryd.prog.info? 26).map (·.size) = some (fragA G).size := by rw [fragA_size G h3 h4]; exact infoFrag
theorem mark_eq (l : List UInt8) : ((⟨(l.take 4).toArray⟩ : ByteArray).toList == [65, 77, 66, 82]) = decide (l.take 4 = markL) := by
  rw [Lib.toList_data]
  by_cases h : l.take 4 = markL
  · rw [decide_eq_true h]; simp only [h]; rfl
  · rw [decide_eq_false h]
    simpa [markL] using h
theorem quiet_if {P : Program} {ops : Array Oper} {C : World → Prop} {K : Act → Prop} {a : Act} {o : Oper} (v : Value) (hw : Region.wanted o (yielded ops a.tmps) = true) (h : ∀ W, C W → o.quietAt P a C W v) (hk : K (a.put o.dst v)) : if Region.wanted o (yielded ops a.tmps) then o.quiet P a C K else K (a.put o.dst undef) := by
  rw [if_pos hw]; exact ⟨v, h, hk⟩
theorem quiet_if_not {P : Program} {ops : Array Oper} {C : World → Prop} {K : Act → Prop} {a : Act} {o : Oper} (hw : Region.wanted o (yielded ops a.tmps) = false) (hk : K (a.put o.dst undef)) : if Region.wanted o (yielded ops a.tmps) then o.quiet P a C K else K (a.put o.dst undef) := by
  rw [if_neg (by rw [hw]; exact Bool.false_ne_true)]; exact hk
theorem quiet_load {P : Program} {C : World → Prop} {o : Oper} {a : Act} (ty : TypeId) (x : Operand) (ho : o.op = .load ty x) (b off : Nat) (hx : a.eval x = .pointer (some ⟨b, off, none⟩)) (cs : List Value) (d : TypeDesc) (W : World) (hc : W.rangeAt b off cs)
    (hu : P.underlying ty = some d) (hd : d.isRow = true) (hi : (P.info? ty).map (·.size) = some cs.length) : o.quietAt P a C W (.agg cs.toArray) := by
  unfold Oper.quietAt execOp
  simp only [ho, hx, Instr.loadAt, Instr.sureAddr, Sem.run_bind, Sem.run_pure, Result.andThen_ok, run_loadVar_mid W b off ty cs d hc hu hd hi]
  exact ⟨rfl, rfl⟩
end Go.Proofs.YtimpnnhadjfijaaDoor
