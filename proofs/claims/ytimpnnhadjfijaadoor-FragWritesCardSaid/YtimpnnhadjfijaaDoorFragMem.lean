/-
  A fragment's head in memory: what is copied and stored into it; bytes.Clone.
-/
import Derived.Test.YtimpnnhadjfijaaDoorFragFrag
import Derived.Test.YtimpnnhadjfijaaDoorKeyEq
import Derived.Lib.SliceRun
import Derived.Laws.CopyOwn
import Derived.Shelf.Spec.SlicesInsert
namespace Go.Proofs.YtimpnnhadjfijaaDoor
open Go.RowKit

theorem setIf_list (l : List Value) (i : Nat) (v : Value) : l.toArray.setIfInBounds i v = (l.set i v).toArray := by simp
theorem fragA_part (F : FragD) (x : Int) (hK : F.K.length = 32) : (fragA F).setIfInBounds 32 (.int .i64 x) = fragA { F with part := x } := by
  unfold fragA
  rw [setIf_list]
  unfold fragL
  rw [List.set_append_right _ _ (by rw [byteCells_len]; omega), byteCells_len, hK]
  rfl
theorem fragA_last (F : FragD) (x : Bool) (hK : F.K.length = 32) : (fragA F).setIfInBounds 33 (.bool x) = fragA { F with last := x } := by
  unfold fragA
  rw [setIf_list]
  unfold fragL
  rw [List.set_append_right _ _ (by rw [byteCells_len]; omega), byteCells_len, hK]
  rfl
theorem fragA_sz (F : FragD) (x : Int) (hK : F.K.length = 32) : (fragA F).setIfInBounds 34 (.int .i64 x) = fragA { F with size := x } := by
  unfold fragA
  rw [setIf_list]
  unfold fragL
  rw [List.set_append_right _ _ (by rw [byteCells_len]; omega), byteCells_len, hK]
  rfl
theorem fragA_turn (F : FragD) (x : Nat) (hK : F.K.length = 32) (hS : F.S.length = 32) : (fragA F).setIfInBounds 67 (.int .u64 x) = fragA { F with turn := x } := by
  unfold fragA
  rw [setIf_list]
  unfold fragL
  rw [List.set_append_right _ _ (by rw [byteCells_len]; omega), byteCells_len, hK, List.set_append_right _ _ (by simp), List.set_append_right _ _ (by rw [byteCells_len, hS]; simp), byteCells_len, hS]
  rfl
theorem fragA_toList (F : FragD) : (fragA F).toList = fragL F := by simp [fragA]
theorem infoByte : (Tryd.prog.info? 5).map (·.size) = some 1 := by kernel_rfl
theorem setRow_heap {w : World} {g : Nat} {t : TypeId} {cs : Array Value} (h : w.heap[g]? = some (.cells cs t (0, 0))) (ds : Array Value) : (w.setRow g ds).heap[g]? = some (.cells ds t (0, 0)) := by
  simp [World.setRow, Array.getElem?_modify, h]
theorem setRow_spares (w : World) (g : Nat) (ds : Array Value) : Spares (fun b => b = g) w (w.setRow g ds) :=
  ⟨rfl, rfl, rfl, by simp [World.setRow], fun k _ hn => by simp [World.setRow, Array.getElem?_modify, Ne.symm hn]⟩
theorem cut_head (k m X : List Value) (hk : k.length = 32) : (k ++ m).take 0 ++ X ++ (k ++ m).drop (0 + 32) = X ++ m := by
  rw [List.take_zero, List.nil_append, Nat.zero_add, ← hk, List.drop_left]
theorem cut_mid (k m u t X : List Value) (hk : k.length = 32) (hm : m.length = 3) (hu : u.length = 32) : (k ++ (m ++ (u ++ t))).take 35 ++ X ++ (k ++ (m ++ (u ++ t))).drop (35 + 32) = k ++ (m ++ (X ++ t)) := by
  have h1 : (k ++ m).length = 35 := by rw [List.length_append, hk, hm]
  have h2 : ((k ++ m) ++ u).length = 35 + 32 := by rw [List.length_append, h1, hu]
  have e1 : k ++ (m ++ (u ++ t)) = (k ++ m) ++ (u ++ t) := by rw [List.append_assoc]
  have e2 : k ++ (m ++ (u ++ t)) = ((k ++ m) ++ u) ++ t := by rw [List.append_assoc, List.append_assoc]
  have t1 : (k ++ (m ++ (u ++ t))).take 35 = k ++ m := by rw [e1, ← h1, List.take_left]
  have d1 : (k ++ (m ++ (u ++ t))).drop (35 + 32) = t := by rw [e2, ← h2, List.drop_left]
  rw [t1, d1, List.append_assoc, List.append_assoc]
/-- copy(f.Key[:], x). -/
theorem copy_key {w : World} {q b off : Nat} {F : FragD} {t : TypeId} {X : List UInt8} (h : w.heap[q]? = some (.cells (fragA F) t (0, 0))) (hX : BytesAt w (some ⟨b, off, none⟩) X) (hXl : X.length = 32) (hK : F.K.length = 32) (hS : F.S.length = 32) (c d : Nat) (ty : TypeId) :
    ∃ w', (Builtin.copy_ #[27, 27] ty #[.slice (some ⟨q, 0, none⟩) 32 c, .slice (some ⟨b, off, none⟩) 32 d]).run Tryd.prog w = .ok (.int .i64 32) w' ∧
      w'.heap[q]? = some (.cells (fragA { F with K := X }) t (0, 0)) ∧ Spares (fun x => x = q) w w' := by
  have hl : (Lib.byteCells X).length = 32 := by rw [byteCells_len]; exact hXl
  have hr := run_copy_row (P := Tryd.prog) w 27 27 ty 5 q 0 32 c ⟨b, off, none⟩ 32 d (fragA F) t (Lib.byteCells X) Tryd.underlying27 infoByte h (by rw [hl]; rfl) hX.cells (by rw [hl, fragA_size F hK hS]; omega) (byteCells_one X)
  rw [hl, fragA_toList] at hr
  refine ⟨_, hr.trans rfl, ?_, setRow_spares _ _ _⟩
  · rw [setRow_heap h]
    exact congrArg (fun l : List Value => some (Obj.cells l.toArray t (0, 0))) (cut_head (Lib.byteCells F.K) _ (Lib.byteCells X) (by rw [byteCells_len]; exact hK))
/-- copy(f.Sum[:], x). -/
theorem copy_sum {w : World} {q b off : Nat} {F : FragD} {t : TypeId} {X : List UInt8} (h : w.heap[q]? = some (.cells (fragA F) t (0, 0))) (hX : BytesAt w (some ⟨b, off, none⟩) X) (hXl : X.length = 32) (hK : F.K.length = 32) (hS : F.S.length = 32) (c d : Nat) (ty : TypeId) :
    ∃ w', (Builtin.copy_ #[27, 27] ty #[.slice (some ⟨q, 35, none⟩) 32 c, .slice (some ⟨b, off, none⟩) 32 d]).run Tryd.prog w = .ok (.int .i64 32) w' ∧
      w'.heap[q]? = some (.cells (fragA { F with S := X }) t (0, 0)) ∧ Spares (fun x => x = q) w w' := by
  have hl : (Lib.byteCells X).length = 32 := by rw [byteCells_len]; exact hXl
  have hr := run_copy_row (P := Tryd.prog) w 27 27 ty 5 q 35 32 c ⟨b, off, none⟩ 32 d (fragA F) t (Lib.byteCells X) Tryd.underlying27 infoByte h (by rw [hl]; rfl) hX.cells (by rw [hl, fragA_size F hK hS]; omega) (byteCells_one X)
  rw [hl, fragA_toList] at hr
  refine ⟨_, hr.trans rfl, ?_, setRow_spares _ _ _⟩
  · rw [setRow_heap h]
    exact congrArg (fun l : List Value => some (Obj.cells l.toArray t (0, 0))) (cut_mid (Lib.byteCells F.K) _ (Lib.byteCells F.S) _ (Lib.byteCells X) (by rw [byteCells_len]; exact hK) rfl (by rw [byteCells_len]; exact hS))

theorem emptyOwn (w : World) : OwnBytes (w.alloc (.cells #[] 5)) (.slice (some ⟨w.heap.size, 0, none⟩) 0 0) [] :=
  ⟨rfl, .inr ⟨w.heap.size, 0, #[], rfl, Nat.zero_le _, heap_alloc_new w _, Nat.le_refl _, by decide, rfl, rfl⟩⟩
def ClonedB (l : List UInt8) (w : World) (e : Ending) (w' : World) : Prop := ∃ a c, e = .returned (.slice a l.length c) ∧ OwnBytes w' (.slice a l.length c) l ∧ Spares nowhere w w'
set_option maxRecDepth 100000 in
set_option maxHeartbeats 400000 in
theorem bytesClone_any (l : List UInt8) (ad : Addr) (n c : Nat) (w : World) (hat : BytesAt w (some ad) l) (hn : n = l.length) (hl : l.length ≤ 140737488355328) :
    Calls Tryd.prog 32 #[.slice (some ad) n c] w (ClonedB l w) := by
  subst hn
  have HAT := Lib.hid hat
  clear hat
  have q : ∀ w : World, (binOp .eql 27 (.slice (some ad) l.length c) (.slice none 0 0)).run Tryd.prog w = .ok (.bool false) w := fun w => Lib.run_eql_slice_nil w _ _ (some ad) _ _ 0 0 Tryd.underlying27
  go_enter Tryd.func32, Tryd.ntmps32
  go_wp2_with (at_builtin; refine wpList_append_bytes rfl _ _ rfl _ [] rfl (emptyOwn w) (some ad) c l rfl (HAT.out.spares (F := nowhere) ((Spares.refl _ _).alloc _) (fun _ _ _ h => h)) (fun e => by cases e) ?c1 ?_)
  case c1 => simpa using hl
  intro ao c' w1 ho hg hf
  have HO := Lib.hid ho
  have HG := Lib.hid hg
  clear ho hg hf
  go_wp2
  go_ret
  refine ⟨ao, c', by simp, by simpa using HO.out, ((Spares.refl _ _).alloc _).grown HG.out (fun k hk => .inr ?_)⟩
  simp [Value.ownBlock] at hk; omega
end Go.Proofs.YtimpnnhadjfijaaDoor
