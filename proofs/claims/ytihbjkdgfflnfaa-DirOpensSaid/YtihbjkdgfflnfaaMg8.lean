/-
  What a fragment's bytes say.
  What was written is read back, whatever stands behind; what is cut off isn't.
-/
import Derived.Lib.SliceRun
import Derived.Laws.CopyOwn
import Derived.Shelf.Spec.SlicesInsert
import Derived.Test.YtihbjkdgfflnfaaMg4
import Derived.Test.YtihbjkdgfflnfaaMg7
namespace Go.Proofs.Ytihbjkdgfflnfaa
open Go.RowKit CrcMath

def cutF (l : List UInt8) (i k : Nat) : List UInt8 := (l.drop i).take k
def markL : List UInt8 := [65, 77, 66, 82]
def sizeO (l : List UInt8) : Nat := ofBE (cutF l 41 4)
def headOK (l : List UInt8) : Bool := decide (l.take 4 = markL) && (decide (ofBE (cutF l 85 4) = crcF (l.take 85)) && (decide (ofBE (cutF l 40 1) ≤ 1) && (decide (sizeO l ≤ 4096) && decide (sizeO l ≤ l.length - 89))))
def openOK (l : List UInt8) : Bool := decide (89 ≤ l.length) && (headOK l && decide (shaF (cutF l 89 (sizeO l)) = cutF l 45 32))
theorem quiet_if {P : Program} {ops : Array Oper} {C : World → Prop} {K : Act → Prop} {a : Act} {o : Oper} (v : Value) (hw : Region.wanted o (yielded ops a.tmps) = true) (h : ∀ W, C W → o.quietAt P a C W v) (hk : K (a.put o.dst v)) : if Region.wanted o (yielded ops a.tmps) then o.quiet P a C K else K (a.put o.dst undef) := by
  rw [if_pos hw]; exact ⟨v, h, hk⟩
theorem quiet_if_not {P : Program} {ops : Array Oper} {C : World → Prop} {K : Act → Prop} {a : Act} {o : Oper} (hw : Region.wanted o (yielded ops a.tmps) = false) (hk : K (a.put o.dst undef)) : if Region.wanted o (yielded ops a.tmps) then o.quiet P a C K else K (a.put o.dst undef) := by
  rw [if_neg (by rw [hw]; exact Bool.false_ne_true)]; exact hk
theorem quiet_load {P : Program} {C : World → Prop} {o : Oper} {a : Act} (ty : TypeId) (x : Operand) (ho : o.op = .load ty x) (b off : Nat) (hx : a.eval x = .pointer (some ⟨b, off, none⟩)) (cs : List Value) (d : TypeDesc) (W : World) (hc : W.rangeAt b off cs)
    (hu : P.underlying ty = some d) (hd : d.isRow = true) (hi : (P.info? ty).map (·.size) = some cs.length) : o.quietAt P a C W (.agg cs.toArray) := by
  unfold Oper.quietAt execOp
  simp only [ho, hx, Instr.loadAt, Instr.sureAddr, Sem.run_bind, Sem.run_pure, Result.andThen_ok, run_loadVar_mid W b off ty cs d hc hu hd hi]
  exact ⟨rfl, rfl⟩
end Go.Proofs.Ytihbjkdgfflnfaa
namespace Go.Proofs.Ytihbjkdgfflnfaa
open Go.RowKit CrcMath

structure Fields (K : List UInt8) (P : Nat) (last : Bool) (turn : Nat) (body L : List UInt8) : Prop where
  mark : L.take 4 = markL
  key : cutF L 4 32 = K
  part : ofBE (cutF L 36 4) = P
  last : ofBE (cutF L 40 1) = lastN last
  size : sizeO L = body.length
  sum : cutF L 45 32 = shaF body
  turn : ofBE (cutF L 77 8) = turn
  crc : ofBE (cutF L 85 4) = crcF (L.take 85)
theorem Fields.ok {K : List UInt8} {P : Nat} {last : Bool} {turn : Nat} {body L : List UInt8} (h : Fields K P last turn body L) (hb : body.length ≤ 4096) (hl : 89 + body.length ≤ L.length) (hc : cutF L 89 body.length = body) : openOK L = true := by
  have h1 : lastN last ≤ 1 := by unfold lastN; split <;> omega
  unfold openOK headOK
  rw [h.mark, h.crc, h.last, h.size, h.sum, hc, decide_eq_true (show 89 ≤ L.length by omega), decide_eq_true rfl, decide_eq_true rfl, decide_eq_true h1, decide_eq_true hb, decide_eq_true (show body.length ≤ L.length - 89 by omega), decide_eq_true rfl]
  rfl
end Go.Proofs.Ytihbjkdgfflnfaa
