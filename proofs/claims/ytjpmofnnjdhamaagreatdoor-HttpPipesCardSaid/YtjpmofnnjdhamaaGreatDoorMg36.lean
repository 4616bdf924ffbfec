/-
  http's writing: fields without framing's; the length as a field; a status's three digits.
  Messages written: what their bytes are. Plain mathematics.
-/
import Derived.Lib.SmallJoins
import Derived.Lib.ItoaMem
import Derived.Test.YtjpmofnnjdhamaaGreatDoorMg11
import Derived.Test.YtjpmofnnjdhamaaGreatDoorMg15
import Derived.Test.YtjpmofnnjdhamaaGreatDoorMg22
import Derived.Test.YtjpmofnnjdhamaaGreatDoorMg33
import Derived.Test.YtjpmofnnjdhamaaGreatDoorMg35
namespace Go.Proofs.YtjpmofnnjdhamaaGreatDoor
open Go.RowKit HeadMath NormMath NormS HeadS ChunkMath HttpMath

def unframedF (l : Fs) : Fs := dropF [nTE] (dropF [nCL] l)
set_option maxRecDepth 100000 in
set_option maxHeartbeats 4000000 in
theorem unframed_any (l : Fs) (a : Option Addr) (c n : Nat) (w : World) (hn : n = l.length) (hin : FieldsIn w.heap.size w a l) (hsm : SmallF l) (hle : l.length ≤ 1000000) :
    Calls Tryz.prog 29 #[.slice a n c] w (FieldPost w (unframedF l)) := by
  have C1 := (drop_any l nCL a c n w hin hn hsm hle (by decide))
  obtain ⟨l2, hl2⟩ : ∃ l2, dropF [nCL] l = l2 := ⟨_, rfl⟩
  have hd := dropF_len [nCL] l
  have hsm2 : SmallF l2 := by
    rw [← hl2]
    intro j hj
    have hm := List.getElem_mem hj
    unfold dropF at hm
    have hm2 := (List.mem_filter.1 hm).1
    obtain ⟨i, hi, he⟩ := List.getElem_of_mem hm2
    have := hsm i hi
    rw [he] at this
    exact this
  rw [hl2] at hd
  have C2 : Hid (∀ W a2 c2, FieldsIn W.heap.size W a2 l2 → Calls Tryz.prog 61 #[.slice a2 l2.length c2, .string nTE] W (FieldPost W (dropF [nTE] l2))) := Lib.hid (fun W a2 c2 h => drop_any l2 nTE a2 c2 l2.length W h rfl hsm2 (by omega) (by decide))
  unfold unframedF
  rw [hl2] at C1 ⊢
  unfold nCL at C1
  unfold nTE at C2 ⊢
  unfold FieldPost at C1 C2 ⊢
  clear hsm hsm2 hin hd hl2 hn hle
  go_enter Tryz.func29, Tryz.ntmps29
  go_wp2_with fail
  refine C1.mono ?_
  rintro _ w1 ⟨v, rfl, hown, hb1⟩
  obtain ⟨a2, c2, rfl, hfi⟩ := rowF_shape hown
  have HB1 := Lib.hid hb1
  have CC := C2.out w1 a2 c2 hfi
  clear hown hfi hb1 C1
  go_wp2_with fail
  refine CC.mono ?_
  rintro _ w2 ⟨v2, rfl, hown2, hb2⟩
  have HO2 := Lib.hid hown2
  have HB2 := Lib.hid hb2
  obtain ⟨a3, c3, hv3, _⟩ := rowF_shape hown2
  subst hv3
  clear hown2 hb2 CC
  go_wp2
  go_ret
  exact ⟨_, rfl, ownsRow_base HO2.out HB1.out.size, HB1.out.trans (HB2.out.mono HB1.out.size)⟩
end Go.Proofs.YtjpmofnnjdhamaaGreatDoor
namespace Go.Proofs.YtjpmofnnjdhamaaGreatDoor
open Go.RowKit HeadMath NormMath NormS HeadS ChunkMath HttpMath

def itoB (n : Nat) : ByteArray := ⟨(Lib.decDigits n).toArray⟩
/-- POST, PUT, PATCH. -/
def putM (m : ByteArray) : Bool := m.toList == [80, 79, 83, 84] || (m.toList == [80, 85, 84] || m.toList == [80, 65, 84, 67, 72])
def reqLenF (m : ByteArray) (n : Nat) : Fs := if putM m = true ∨ 0 < n then [(nCL, itoB n)] else []
def firstT (m t : ByteArray) : Bs := m.data.toList ++ (32 :: (t.data.toList ++ (32 :: http11)))
/-- A request's bytes. -/
def reqTextF (m t : ByteArray) (fs : Fs) (body : Bs) : Bs := msgT (firstT m t) (unframedF fs ++ reqLenF m body.length) body
def stat3 (st : Int) : Nat := st.toNat % 1000
theorem stat3_lt (st : Int) : stat3 st < 1000 := by unfold stat3; omega
def clOf : Option ByteArray → Fs
  | some v => [(nCL, v)]
  | none => []
def rspLenF (st : Int) (fs : Fs) (n : Nat) (method : ByteArray) : Fs :=
  if st = 204 ∨ st < 200 then [] else if (method.data.toList == headM.data.toList) = true ∨ st = 304 then (clOf (getF nCL fs)) else [(nCL, itoB n)]
def rspBody (st : Int) (method : ByteArray) (body : Bs) : Bs := if bodilessF st method = true then [] else body
/-- A response's bytes. -/
def rspTextF (st : Int) (reason : ByteArray) (fs : Fs) (body : Bs) (method : ByteArray) : Bs := msgT (respL (stat3 st) reason.data.toList) (unframedF fs ++ rspLenF st fs body.length method) (rspBody st method body)
theorem linesF_app (a b : Fs) : linesF (a ++ b) = linesF a ++ linesF b := by unfold linesF; rw [List.flatMap_append]
theorem linesF_one (f : ByteArray × ByteArray) : linesF [f] = HeadS.lineF f := by unfold linesF; simp
end Go.Proofs.YtjpmofnnjdhamaaGreatDoor
