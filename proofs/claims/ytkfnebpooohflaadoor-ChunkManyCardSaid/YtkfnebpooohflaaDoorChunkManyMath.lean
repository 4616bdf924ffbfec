/-
  Chunks one behind another; two rows that grow side by side.
-/
import Derived.Test.YtkfnebpooohflaaDoorChunkBack
import Derived.Test.YtkfnebpooohflaaDoorShaEnd
namespace Go.Proofs.YtkfnebpooohflaaDoor
open Go.RowKit HeadMath NormMath NormS HeadS ChunkMath

/-- B is k whole chunks that hold A. -/
def Joined (k : Nat) (B A : Bs) : Prop := k ≤ B.length ∧ ∀ (F : Bs → Bool) (f : Nat) (acc rest : Bs), acc.length + A.length ≤ 65536 → chunkG F (f + k) acc (B ++ rest) = chunkG F f (acc ++ A) rest
theorem joined_nil : Joined 0 [] [] := ⟨Nat.le_refl _, fun F f acc rest _ => by rw [List.append_nil]; rfl⟩
def oneC (D : Bs) : Bs := hexT D.length ++ (crlf ++ (D ++ crlf))
theorem oneC_len (D : Bs) (h : D.length < 256) : (oneC D).length ≤ 300 ∧ 1 ≤ (oneC D).length := by
  have h1 := hexT_len 7 D.length (by rw [show (16 : Nat) ^ (7 + 1) = 4294967296 from by decide]; omega)
  have h2 : crlf.length = 2 := rfl
  simp only [oneC, List.length_append, h2]
  omega
theorem bytes_one (D : Bs) (h : 0 < D.length) : bytesF D.length D = oneC D ++ endB := by
  unfold bytesF
  obtain ⟨n, hn⟩ : ∃ n, D.length = n := ⟨_, rfl⟩
  have hne : D ≠ [] := List.length_pos_iff.1 h
  rw [hn]
  obtain ⟨m, rfl⟩ : ∃ m, n = m + 1 := ⟨n - 1, by omega⟩
  rw [bytesG_more hne, hn, Nat.min_self, List.take_of_length_le (by omega), List.drop_of_length_le (by omega), bytesG_nil]
  unfold oneC
  rw [hn]
  simp only [List.append_assoc]
theorem Joined.one {k : Nat} {B A : Bs} (h : Joined k B A) (D : Bs) (h0 : 0 < D.length) (h1 : D.length < 256) : Joined (k + 1) (B ++ oneC D) (A ++ D) := by
  refine ⟨by rw [List.length_append]; have := h.1; have := (oneC_len D h1).2; omega, fun F f acc rest hl => ?_⟩
  rw [List.length_append] at hl
  have e : (B ++ oneC D) ++ rest = B ++ (hexT D.length ++ (crlf ++ (D ++ (crlf ++ rest)))) := by simp only [oneC, List.append_assoc]
  rw [e, show f + (k + 1) = (f + 1) + k by omega, h.2 F (f + 1) acc _ (by omega), chunkG_step h0 (by omega) (by rw [List.length_append]; omega), List.append_assoc]
def threeB : Bs := [48, 48, 48, 13, 10, 13, 10, 114, 101, 115, 116]
theorem Joined.opens {k : Nat} {B A : Bs} (h : Joined k B A) (hl : A.length ≤ 65536) (F : Bs → Bool) : openF F (B ++ threeB) = .ok (A, [114, 101, 115, 116]) := by
  unfold openF
  have h3 : threeB.length = 11 := rfl
  have e : (B ++ threeB).length + 1 = ((B.length - k + 11) + 1) + k := by rw [List.length_append, h3]; have := h.1; omega
  rw [e, h.2 F _ [] threeB (by simpa using hl), chunkG_zero (show lineF threeB = .ok ([48, 48, 48], [13, 10, 114, 101, 115, 116]) from rfl) (by rfl)]
  rw [trailG_end (show lineF [13, 10, 114, 101, 115, 116] = .ok ([], [114, 101, 115, 116]) from rfl), List.nil_append]

structure ManyAt (w : World) (vb va : Value) (B A : Bs) (wr : World) : Prop where
  ob : OwnBytes wr vb B
  oa : OwnBytes wr va A
  fb : ∀ g, vb.ownBlock = some g → w.heap.size ≤ g
  fa : ∀ g, va.ownBlock = some g → w.heap.size ≤ g
  ap : ∀ g, vb.ownBlock = some g → va.ownBlock ≠ some g
  sp : Spares nowhere w wr
theorem many_nil (w : World) : ManyAt w (.slice none 0 0) (.slice none 0 0) [] [] w :=
  ⟨ownBytes_nil w, ownBytes_nil w, (fun _ h => by cases h), (fun _ h => by cases h), (fun _ h => by cases h), Spares.refl _ _⟩
section
variable {w : World} {vb va : Value} {B A : Bs} {wr wr' : World}
theorem ManyAt.quiet (h : ManyAt w vb va B A wr) (hs : Spares nowhere wr wr') : ManyAt w vb va B A wr' :=
  ⟨h.ob.spares hs (fun _ _ h => h), h.oa.spares hs (fun _ _ h => h), h.fb, h.fa, h.ap, h.sp.trans hs⟩
theorem ManyAt.all (h : ManyAt w vb va B A wr) {D : Bs} {v' : Value} (ho : OwnBytes wr' v' (A ++ D)) (hg : wr.grownBy wr' va.ownBlock) (hw : ∀ g, v'.ownBlock = some g → va.ownBlock = some g ∨ wr.heap.size ≤ g) : ManyAt w vb v' B (A ++ D) wr' := by
  have hs : Spares (fun k => va.ownBlock = some k) wr wr' := (Spares.refl _ wr).grown hg (fun k hk => .inl hk)
  refine ⟨h.ob.spares hs (fun g hb ha => h.ap g hb ha), ho, h.fb, fun g hv => ?_, fun g hb hv => ?_, h.sp.grown hg (fun k hk => .inr (h.fa k hk))⟩
  · rcases hw g hv with h1 | h1
    · exact h.fa g h1
    · exact Nat.le_trans h.sp.size h1
  · rcases hw g hv with h1 | h1
    · exact h.ap g hb h1
    · have := h.ob.lt g hb
      omega
theorem ManyAt.row (h : ManyAt w vb va B A wr) {D : Bs} {v' : Value} (ho : OwnBytes wr' v' (B ++ D)) (hg : wr.grownBy wr' vb.ownBlock) (hw : ∀ g, v'.ownBlock = some g → vb.ownBlock = some g ∨ wr.heap.size ≤ g) : ManyAt w v' va (B ++ D) A wr' := by
  have hs : Spares (fun k => vb.ownBlock = some k) wr wr' := (Spares.refl _ wr).grown hg (fun k hk => .inl hk)
  refine ⟨ho, h.oa.spares hs (fun g ha hb => h.ap g hb ha), fun g hv => ?_, h.fa, fun g hv ha => ?_, h.sp.grown hg (fun k hk => .inr (h.fb k hk))⟩
  · rcases hw g hv with h1 | h1
    · exact h.fb g h1
    · exact Nat.le_trans h.sp.size h1
  · rcases hw g hv with h1 | h1
    · exact h.ap g h1 ha
    · have := h.oa.lt g ha
      omega
/-- append(v, x...) of a string, and which block may have been written. -/
theorem wpList_own_str {w : World} {ops : Array Oper} {rest : List Oper} {o : Oper} {a : Act} {Q : Exit → Act → World → Prop} (hgd : o.guard = none) (s x : Operand)
    (ho : o.op = .call { callee := .builtin .append, args := #[s, x], argTypes := #[22, 9] })
    (v : Value) (d : Bs) (hs : a.eval s = v) (hown : OwnBytes w v d)
    (t : ByteArray) (hx : a.eval x = .string t) (hlen : d.length + t.size ≤ 140737488355328)
    (hK : ∀ v' w', OwnBytes w' v' (d ++ t.data.toList) → w.grownBy w' v.ownBlock → wpList Tryd.prog ops Q rest (a.put o.dst v') w') : wpList Tryd.prog ops Q (o :: rest) a w := by
  obtain ⟨i0, hi, hz0, hz1, hz2⟩ := info_parts byteInfo
  refine Lib.wpList_append_own_string w hgd s x 22 9 ho 0 5 i0 Tryd.underlying22 Tryd.underlying9 hi hz0 hz1 hz2 v d.length (Lib.byteCells d) hs hown t hx (by unfold maxLen; omega) (by omega) (Nat.zero_le _) ?_
  intro v' w' h1 h2 h3
  refine hK v' w' ?_ h2
  unfold OwnBytes
  rw [List.length_append, byteCells_app]
  have e : t.data.toList.length = t.size := by rw [Array.length_toList]; rfl
  rw [e]
  exact h1
end
theorem bytesV_put (D : Bs) (k : Nat) (y : UInt8) : (bytesV D).setIfInBounds k (.int .u8 y.toNat) = bytesV (D.set k y) := by
  simp [bytesV, Lib.byteCells, List.map_set]
end Go.Proofs.YtkfnebpooohflaaDoor
