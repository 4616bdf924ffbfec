/-
  http.message: a message put together.
  Messages one behind another, and what was read of each: two rows of the call's own that grow side by side.
  Fields appended to a row of fields of the call's own.
-/
import Derived.Deep.AppendLies
import Derived.Test.YtjpmofnnjdhamaaGreatDoorMg10
import Derived.Test.YtjpmofnnjdhamaaGreatDoorMg20
import Derived.Test.YtjpmofnnjdhamaaGreatDoorMg27
import Derived.Test.YtjpmofnnjdhamaaGreatDoorMg32
namespace Go.Proofs.YtjpmofnnjdhamaaGreatDoor
open Go.RowKit HeadMath NormMath NormS HeadS ChunkMath HttpMath

def MsgPost (T : Bs) (w : World) (e : Ending) (w' : World) : Prop := ∃ v, e = .returned v ∧ RowT w.heap.size w' v T ∧ Spares nowhere w w'
def msgT (first : Bs) (l : Fs) (body : Bs) : Bs := first ++ (crlf2 ++ (linesF l ++ (crlf2 ++ body)))
set_option maxRecDepth 100000 in
set_option maxHeartbeats 4000000 in
theorem message_any (first : ByteArray) (l : Fs) (body : Bs) (a ab : Option Addr) (c cb n k : Nat) (w : World) (hn : l.length = n) (hk : body.length = k) (hin : FieldsIn w.heap.size w a l) (hat : BytesAt w ab body) (hnil : ab = none → cb = 0) (hf : first.size ≤ 10000) (hl : l.length ≤ 1000) (hsz : ∀ j (h : j < l.length), l[j].1.size ≤ 1000000 ∧ l[j].2.size ≤ 1000000) (hT : (linesF l).length ≤ 100000) (hb : body.length ≤ 100000) :
    Calls Tryz.prog 31 #[.string first, .slice a n c, .slice ab k cb] w (MsgPost (msgT first.data.toList l body) w) := by
  have cL := lines_any l a c w hin (by omega) hsz
  rw [hn] at cL
  obtain ⟨L, hL⟩ : ∃ L : ByteArray, (⟨(linesF l).toArray⟩ : ByteArray) = L := ⟨_, rfl⟩
  rw [hL] at cL
  have hLs : L.size ≤ 100000 := by rw [← hL]; show (linesF l).toArray.size ≤ _; simpa using hT
  have hc2 : (⟨#[13, 10]⟩ : ByteArray).size = 2 := rfl
  obtain ⟨Y, hY⟩ : ∃ Y : ByteArray, first ++ (⟨#[13, 10]⟩ : ByteArray) ++ L ++ (⟨#[13, 10]⟩ : ByteArray) = Y := ⟨_, rfl⟩
  have hYs : Y.size ≤ 200000 := by rw [← hY, ByteArray.size_append, ByteArray.size_append, ByteArray.size_append, hc2]; omega
  have HYD : Hid (Y.data.toList ++ body = msgT first.data.toList l body) := Lib.hid (by
    rw [← hY, ← hL]
    unfold msgT crlf2
    simp [ByteArray.data_append])
  have HAT := Lib.hid hat
  have HNIL := Lib.hid hnil
  have HK := Lib.hid hk
  have hk2 : k ≤ 100000 := by omega
  unfold MsgPost
  clear hin hat hnil hL hT hb hk hsz
  go_enter Tryz.func31, Tryz.ntmps31
  go_wp2_with fail
  refine cL.mono ?_
  rintro _ w1 ⟨rfl, hb1⟩
  have HS1 : Hid (Spares nowhere w w1) := Lib.hid (Below.spares (F := nowhere) hb1 (fun k hk => .inr hk))
  obtain ⟨v2, w2, hcv, hT2, hs2⟩ := rowT_conv w1 Y (by unfold maxLen; omega)
  have HT2 := Lib.hid hT2
  have HS2 := Lib.hid (HS1.out.trans hs2)
  have HS12 := Lib.hid hs2
  have HD2 : Hid (Y.data.toList.length + k ≤ 1000000) := Lib.hid (by rw [size_list]; omega)
  clear cL hb1 hT2 hs2
  go_wp2_with (at_builtin; refine wpList_tail_bytes rfl _ _ rfl w1.heap.size _ _ rfl HT2.out ab cb k body rfl HK.out.symm (HAT.out.spares' HS2.out (fun _ _ _ _ h => h)) HNIL.out HD2.out HS12.out.size ?_)
  intro v3 w3 hT3 hg3
  have HT3 := Lib.hid hT3
  have HS3 : Hid (Spares nowhere w w3) := Lib.hid (HS2.out.grown hg3 (fun k hk => .inr (Nat.le_trans HS1.out.size (HT2.out.own k hk))))
  clear hT3 hg3
  go_wp2
  go_ret
  refine ⟨_, rfl, ?_, HS3.out⟩
  obtain ⟨g, cur, fz, h1, h2, h3⟩ := HT3.out
  rw [← HYD.out]
  exact ⟨g, cur, fz, h1, Nat.le_trans HS1.out.size h2, h3⟩
end Go.Proofs.YtjpmofnnjdhamaaGreatDoor
namespace Go.Proofs.YtjpmofnnjdhamaaGreatDoor
open Go.RowKit HeadMath NormMath NormS HeadS ChunkMath HttpMath

/-- A request that was read of the text T: its fields and its body lie in rows of their own. -/
structure El where
  m : Bs
  t : Bs
  fs : Fs
  body : Bs
  T : Bs
  fa : Option Addr
  fc : Nat
  ab : Option Addr
  cb : Nat
def El.vf (e : El) : Value := .slice e.fa e.fs.length e.fc
def El.vb (e : El) : Value := .slice e.ab e.body.length e.cb
def El.cells (e : El) : List Value := [.string (ba e.m), .string (ba e.t), e.vf, e.vb]
def elCells (L : List El) : List Value := L.flatMap El.cells
def textsF (L : List El) : Bs := L.flatMap El.T
def El.read (e : El) : Prop := requestF e.T = .ok (e.m, e.t, e.fs, e.body, e.T.length)
theorem elCells_len : ∀ L : List El, (elCells L).length = L.length * 4
  | [] => rfl
  | e :: L => by
    have ih := elCells_len L
    unfold elCells at ih ⊢
    rw [List.flatMap_cons, List.length_append, ih, List.length_cons]
    have : e.cells.length = 4 := rfl
    omega
theorem elCells_at : ∀ (L : List El) (k : Nat) (h : k < L.length), (elCells L)[k * 4]? = some (.string (ba L[k].m)) ∧ (elCells L)[k * 4 + 1]? = some (.string (ba L[k].t)) ∧ (elCells L)[k * 4 + 2]? = some L[k].vf ∧ (elCells L)[k * 4 + 3]? = some L[k].vb
  | e :: L, 0, _ => ⟨rfl, rfl, rfl, rfl⟩
  | e :: L, k + 1, h => by
    have e4 : ∀ i, (elCells (e :: L))[(k + 1) * 4 + i]? = (elCells L)[k * 4 + i]? := by
      intro i
      rw [show (k + 1) * 4 + i = (k * 4 + i) + 1 + 1 + 1 + 1 by omega]
      rfl
    have := elCells_at L k (by simpa using h)
    have e0 := e4 0
    rw [Nat.add_zero, Nat.add_zero] at e0
    rw [e0, e4 1, e4 2, e4 3]
    exact this
/-- The rows of an element. -/
structure ElAt (w : World) (e : El) : Prop where
  f : w.ownsRow 0 59 2 e.vf e.fs.length (fieldCells e.fs)
  b : Row8 0 w e.vb e.body
/-- v's row is none of e's. -/
def Off (v : Value) (e : El) : Prop := ∀ g, v.ownBlock = some g → e.vf.ownBlock ≠ some g ∧ e.vb.ownBlock ≠ some g
structure Inv (w0 w : World) (vb : Value) (D : Bs) (vw : Value) (L A : List El) (g : Nat) (T : Bs) (p : Nat) (X : Array Value) : Prop where
  sp : Spares nowhere w0 w
  ob : OwnBytes w vb D
  ow : w.ownsRow 0 25 4 vw L.length (elCells L)
  lb : ∀ k, vb.ownBlock = some k → w0.heap.size ≤ k
  lw : ∀ k, vw.ownBlock = some k → w0.heap.size ≤ k
  ne : ∀ k, vb.ownBlock = some k → vw.ownBlock ≠ some k
  els : ∀ e ∈ A, ElAt w e
  offb : ∀ e ∈ A, Off vb e
  offw : ∀ e ∈ A, Off vw e
  t : BytesAt w (some ⟨g, 0, none⟩) T
  gl : g < w.heap.size
  tb : vb.ownBlock ≠ some g
  tw : vw.ownBlock ≠ some g
  bx : w.heap[p]? = some (.cells X 25 (0, 0))
  pb : vb.ownBlock ≠ some p
  pw : vw.ownBlock ≠ some p
theorem ElAt.spares {F : Nat → Prop} {w w' : World} {e : El} (h : ElAt w e) (hs : Spares F w w') (h1 : ∀ k, e.vf.ownBlock = some k → ¬ F k) (h2 : ∀ k, e.vb.ownBlock = some k → ¬ F k) : ElAt w' e := ⟨hs.own h.f h1, hs.own h.b h2⟩
section
variable {w0 w w' : World} {vb vw : Value} {D T : Bs} {L A : List El} {g p : Nat} {X : Array Value}
theorem Inv.quiet (h : Inv w0 w vb D vw L A g T p X) (hs : Spares nowhere w w') : Inv w0 w' vb D vw L A g T p X :=
  ⟨h.sp.trans hs, h.ob.spares hs (fun _ _ h => h), hs.own h.ow (fun _ _ h => h), h.lb, h.lw, h.ne, fun e he => (h.els e he).spares hs (fun _ _ h => h) (fun _ _ h => h), h.offb, h.offw, h.t.spares' hs (fun _ _ _ _ h => h), Nat.lt_of_lt_of_le h.gl hs.size, h.tb, h.tw, hs.heap h.bx (fun h => h), h.pb, h.pw⟩
theorem Inv.put_b (h : Inv w0 w vb D vw L A g T p X) {vb' : Value} {D' : Bs} (ho : OwnBytes w' vb' D') (hg : w.grownBy w' vb.ownBlock) (hw : ∀ k, vb'.ownBlock = some k → vb.ownBlock = some k ∨ w.heap.size ≤ k) : Inv w0 w' vb' D' vw L A g T p X := by
  have hs : Spares (fun k => vb.ownBlock = some k) w w' := (Spares.refl _ w).grown hg (fun k hk => .inl hk)
  refine ⟨h.sp.trans' hs (fun k hk => .inr (h.lb k hk)), ho, hs.own h.ow (fun k hk e => h.ne k e hk), fun k hk => ?_, h.lw, fun k hk => ?_, fun e he => ?_, fun e he k hk => ?_, h.offw, ?_, Nat.lt_of_lt_of_le h.gl hs.size, fun hk => ?_, h.tw, hs.heap h.bx (fun e => h.pb e), fun hk => ?_, h.pw⟩
  · rcases hw k hk with e | e
    · exact h.lb k e
    · exact Nat.le_trans h.sp.size e
  · rcases hw k hk with e | e
    · exact h.ne k e
    · intro hk2
      have := (World.ownsRow.lt h.ow k hk2).2
      omega
  · exact (h.els e he).spares hs (fun k hk e2 => (h.offb e he k e2).1 hk) (fun k hk e2 => (h.offb e he k e2).2 hk)
  · rcases hw k hk with e2 | e2
    · exact h.offb e he k e2
    · exact ⟨fun e3 => by have := (World.ownsRow.lt (h.els e he).f k e3).2; omega, fun e3 => by have := (World.ownsRow.lt (h.els e he).b k e3).2; omega⟩
  · exact h.t.spares' hs (fun _ b off e e2 => by injection e with e; injection e with e1 _; subst e1; exact h.tb e2)
  · rcases hw g hk with e | e
    · exact h.tb e
    · have := h.gl; omega
  · rcases hw p hk with e | e
    · exact h.pb e
    · have := (Array.getElem?_eq_some_iff.1 h.bx).1; omega
theorem Inv.put_w (h : Inv w0 w vb D vw L A g T p X) {vw' : Value} {L' : List El} (ho : w'.ownsRow 0 25 4 vw' L'.length (elCells L')) (hg : w.grownBy w' vw.ownBlock) (hw : ∀ k, vw'.ownBlock = some k → vw.ownBlock = some k ∨ w.heap.size ≤ k) : Inv w0 w' vb D vw' L' A g T p X := by
  have hs : Spares (fun k => vw.ownBlock = some k) w w' := (Spares.refl _ w).grown hg (fun k hk => .inl hk)
  refine ⟨h.sp.trans' hs (fun k hk => .inr (h.lw k hk)), h.ob.spares hs (fun k hk e => h.ne k hk e), ho, h.lb, fun k hk => ?_, fun k hk hk2 => ?_, fun e he => ?_, h.offb, fun e he k hk => ?_, ?_, Nat.lt_of_lt_of_le h.gl hs.size, h.tb, fun hk => ?_, hs.heap h.bx (fun e => h.pw e), h.pb, fun hk => ?_⟩
  · rcases hw k hk with e | e
    · exact h.lw k e
    · exact Nat.le_trans h.sp.size e
  · rcases hw k hk2 with e | e
    · exact h.ne k hk e
    · have := h.ob.lt k hk
      omega
  · exact (h.els e he).spares hs (fun k hk e2 => (h.offw e he k e2).1 hk) (fun k hk e2 => (h.offw e he k e2).2 hk)
  · rcases hw k hk with e2 | e2
    · exact h.offw e he k e2
    · exact ⟨fun e3 => by have := (World.ownsRow.lt (h.els e he).f k e3).2; omega, fun e3 => by have := (World.ownsRow.lt (h.els e he).b k e3).2; omega⟩
  · exact h.t.spares' hs (fun _ b off e e2 => by injection e with e; injection e with e1 _; subst e1; exact h.tw e2)
  · rcases hw g hk with e | e
    · exact h.tw e
    · have := h.gl; omega
  · rcases hw p hk with e | e
    · exact h.pw e
    · have := (Array.getElem?_eq_some_iff.1 h.bx).1; omega
end
set_option maxRecDepth 100000 in
theorem reqInfo4 : ∃ i, Tryz.prog.info? 25 = some i ∧ i.zero = some (.agg #[.string ⟨#[]⟩, .string ⟨#[]⟩, .slice none 0 0, .slice none 0 0]) ∧ i.size = 4 ∧ i.bytes = 80 := ⟨_, rfl, by kernel_rfl, by kernel_rfl, by kernel_rfl⟩
section
variable {ops : Array Oper} {o : Oper} {a : Act} {K : Act → World → Prop} {Q : Exit → Act → World → Prop} {E : Prop} {w0 w : World} {vb vw : Value} {D T : Bs} {L A : List El} {g p : Nat} {X : Array Value}
/-- append(b, w...), at a step of a region that draws its order. -/
theorem step_pipe_b (hgd : o.guard = none) (s x : Operand)
    (ho : o.op = .call { callee := .builtin .append, args := #[s, x], argTypes := #[23, 23] })
    (hs : a.eval s = vb) (c n : Nat) (hx : a.eval x = .slice (some ⟨g, 0, none⟩) n c) (hI : Inv w0 w vb D vw L A g T p X) (hn : n = T.length) (hlen : D.length + n ≤ 1000000)
    (h : ∀ vb' w', Hid (Inv w0 w' vb' (D ++ T) vw L A g T p X) → Hid (∀ k, k < w.heap.size → vb.ownBlock ≠ some k → w'.heap[k]? = w.heap[k]?) → K (a.put o.dst vb') w') :
    if Region.wanted o (yielded ops a.tmps) = true then Oper.wp Tryz.prog o a w K Q else E := by
  have hw : Region.wanted o (yielded ops a.tmps) = true := by simp [Region.wanted, hgd]
  rw [if_pos hw]
  subst hn
  obtain ⟨i0, hi, hz0, hz1, hz2⟩ := info_parts byteInfo
  obtain ⟨v', w', hr, h2, h3, _⟩ := run_append_own (P := Tryz.prog) w 0 23 o.type 5 i0 (.int .u8 0) 1 1 Tryz.underlying23 hi hz0 hz1 hz2 rfl (by decide) vb D.length (Lib.byteCells D) hI.ob ⟨g, 0, none⟩ T.length c (Lib.byteCells T) (by simp [byteCells_len]) hI.t.cells (byteCells_one T) (by unfold maxLen; omega) (by omega) (Nat.zero_le _)
  have h4 := append_where 23 o.type 5 i0 (.int .u8 0) 1 1 Tryz.underlying23 hi hz0 hz1 hz2 rfl (by decide) 0 vb D.length (Lib.byteCells D) hI.ob ⟨g, 0, none⟩ T.length c (Lib.byteCells T) (by simp [byteCells_len]) hI.t.cells (byteCells_one T) (by unfold maxLen; omega) (by omega) hr
  have ho' : OwnBytes w' v' (D ++ T) := by
    unfold OwnBytes
    rw [List.length_append, show Lib.byteCells (D ++ T) = Lib.byteCells D ++ Lib.byteCells T from by simp [Lib.byteCells]]
    exact h2
  unfold Oper.wp
  simp [execOp, ho, resolve, invoke, builtin, hs, hx, hr, Result.andThen]
  exact h v' w' (Lib.hid (hI.put_b ho' h3 h4)) (Lib.hid (fun k hk hn => h3.block k hk (fun e => hn e.symm)))
/-- append(want, q), at a step of a region that draws its order. -/
theorem step_pipe_w (hgd : o.guard = none) (s x : Operand)
    (ho : o.op = .call { callee := .builtin .append, args := #[s, x], argTypes := #[55, 55] })
    (hs : a.eval s = vw) (r : Nat) (e : El) (hx : a.eval x = .slice (some ⟨r, 0, none⟩) 1 1) (hI : Inv w0 w vb D vw L A g T p X) (hp : w.heap[r]? = some (.cells #[.string (ba e.m), .string (ba e.t), e.vf, e.vb] 25 (0, 0))) (hlen : L.length ≤ 1000)
    (h : ∀ vw' w', Hid (Inv w0 w' vb D vw' (L ++ [e]) A g T p X) → K (a.put o.dst vw') w') :
    if Region.wanted o (yielded ops a.tmps) = true then Oper.wp Tryz.prog o a w K Q else E := by
  have hw : Region.wanted o (yielded ops a.tmps) = true := by simp [Region.wanted, hgd]
  rw [if_pos hw]
  obtain ⟨i0, hi, hz0, hz1, hz2⟩ := reqInfo4
  have hcs : ∀ j u, (El.cells e)[j]? = some u → w.cell? ((⟨r, 0, none⟩ : Addr).add j) = some u := by
    intro j u hu
    have e1 : (⟨r, 0, none⟩ : Addr).add j = ⟨r, j, none⟩ := by unfold Addr.add; split <;> simp_all
    rw [e1, Lib.cell_of_heap hp]
    simpa [El.cells] using hu
  have h1 : ∀ u ∈ El.cells e, u.oneCell' = true := by
    intro u hu
    unfold El.cells at hu
    simp only [List.mem_cons, List.not_mem_nil, or_false] at hu
    rcases hu with rfl | rfl | rfl | rfl <;> rfl
  obtain ⟨v', w', hr, h2, h3, _⟩ := run_append_own (P := Tryz.prog) w 0 55 o.type 25 i0 _ 4 80 Tryz.underlying55 hi hz0 hz1 hz2 rfl (by decide) vw L.length (elCells L) hI.ow ⟨r, 0, none⟩ 1 1 (El.cells e) rfl hcs h1 (by unfold maxLen; omega) (by omega) (Nat.zero_le _)
  have h4 := append_where 55 o.type 25 i0 _ 4 80 Tryz.underlying55 hi hz0 hz1 hz2 rfl (by decide) 0 vw L.length (elCells L) hI.ow ⟨r, 0, none⟩ 1 1 (El.cells e) rfl hcs h1 (by unfold maxLen; omega) (by omega) hr
  have ho' : w'.ownsRow 0 25 4 v' (L ++ [e]).length (elCells (L ++ [e])) := by
    rw [List.length_append, show elCells (L ++ [e]) = elCells L ++ El.cells e from by simp [elCells]]
    exact h2
  unfold Oper.wp
  simp [execOp, ho, resolve, invoke, builtin, hs, hx, hr, Result.andThen]
  exact h v' w' (Lib.hid (hI.put_w ho' h3 h4))
end
/-- Ahead of a round. -/
structure Inv0 (w0 w : World) (vb vw : Value) (L : List El) : Prop where
  sp : Spares nowhere w0 w
  ob : OwnBytes w vb (textsF L)
  ow : w.ownsRow 0 25 4 vw L.length (elCells L)
  lb : ∀ k, vb.ownBlock = some k → w0.heap.size ≤ k
  lw : ∀ k, vw.ownBlock = some k → w0.heap.size ≤ k
  ne : ∀ k, vb.ownBlock = some k → vw.ownBlock ≠ some k
  els : ∀ e ∈ L, ElAt w e
  offb : ∀ e ∈ L, Off vb e
  offw : ∀ e ∈ L, Off vw e
  read : ∀ e ∈ L, e.read
section
variable {w0 w w' : World} {vb vw : Value} {D T : Bs} {L A : List El} {g p : Nat} {X : Array Value}
theorem inv0_start (w0 w : World) (h : Spares nowhere w0 w) : Inv0 w0 w (.slice none 0 0) (.slice none 0 0) [] :=
  ⟨h, ownBytes_nil w, World.ownsRow_nil w 0 _ 4, fun k hk => by simp [Value.ownBlock] at hk, fun k hk => by simp [Value.ownBlock] at hk, fun k hk => by simp [Value.ownBlock] at hk, fun e he => (by cases he), fun e he => (by cases he), fun e he => (by cases he), fun e he => (by cases he)⟩
theorem Inv0.quiet (h : Inv0 w0 w vb vw L) (hs : Spares nowhere w w') : Inv0 w0 w' vb vw L :=
  ⟨h.sp.trans hs, h.ob.spares hs (fun _ _ h => h), hs.own h.ow (fun _ _ h => h), h.lb, h.lw, h.ne, fun e he => (h.els e he).spares hs (fun _ _ h => h) (fun _ _ h => h), h.offb, h.offw, h.read⟩
theorem Inv0.next (h : Inv0 w0 w vb vw L) (e : El) (hs : Spares nowhere w w') (he : ElAt w' e) (hef : ∀ k, e.vf.ownBlock = some k → w.heap.size ≤ k) (heb : ∀ k, e.vb.ownBlock = some k → w.heap.size ≤ k) (ht : BytesAt w' (some ⟨g, 0, none⟩) T) (hgl : g < w'.heap.size) (hg : w.heap.size ≤ g) (hbx : w'.heap[p]? = some (.cells X 25 (0, 0))) (hp : w.heap.size ≤ p) : Inv w0 w' vb (textsF L) vw L (L ++ [e]) g T p X := by
  have q := h.quiet hs
  have hb := fun k hk => h.ob.lt k hk
  have hw := fun k hk => (World.ownsRow.lt h.ow k hk).2
  refine ⟨q.sp, q.ob, q.ow, h.lb, h.lw, h.ne, fun x hx => ?_, fun x hx => ?_, fun x hx => ?_, ht, hgl, fun hk => ?_, fun hk => ?_, hbx, fun hk => ?_, fun hk => ?_⟩
  · rcases List.mem_append.1 hx with hx | hx
    · exact q.els x hx
    · obtain rfl : x = e := by simpa using hx
      exact he
  · rcases List.mem_append.1 hx with hx | hx
    · exact h.offb x hx
    · obtain rfl : x = e := by simpa using hx
      exact fun k hk => ⟨fun e1 => by have := hb k hk; have := hef k e1; omega, fun e1 => by have := hb k hk; have := heb k e1; omega⟩
  · rcases List.mem_append.1 hx with hx | hx
    · exact h.offw x hx
    · obtain rfl : x = e := by simpa using hx
      exact fun k hk => ⟨fun e1 => by have := hw k hk; have := hef k e1; omega, fun e1 => by have := hw k hk; have := heb k e1; omega⟩
  · have := hb g hk; omega
  · have := hw g hk; omega
  · have := hb p hk; omega
  · have := hw p hk; omega
theorem Inv.done {e : El} (h : Inv w0 w vb (textsF L ++ T) vw (L ++ [e]) (L ++ [e]) g T p X) (hT : e.T = T) (hr : e.read) (hL : ∀ x ∈ L, x.read) : Inv0 w0 w vb vw (L ++ [e]) := by
  refine ⟨h.sp, ?_, h.ow, h.lb, h.lw, h.ne, h.els, h.offb, h.offw, fun x hx => ?_⟩
  · have e1 : textsF (L ++ [e]) = textsF L ++ T := by unfold textsF; rw [List.flatMap_append]; simp [hT]
    rw [e1]; exact h.ob
  · rcases List.mem_append.1 hx with hx | hx
    · exact hL x hx
    · obtain rfl : x = e := by simpa using hx
      exact hr
end
/-- The row of what was read. -/
theorem els_own {w : World} {v : Value} {L : List El} (h : w.ownsRow 0 25 4 v L.length (elCells L)) : ∃ a c, v = .slice a L.length c ∧ ∀ k (hk : k < L.length), ∃ g, a = some ⟨g, 0, none⟩ ∧ w.cell? ⟨g, k * 4, none⟩ = some (.string (ba L[k].m)) ∧ w.cell? ⟨g, k * 4 + 1, none⟩ = some (.string (ba L[k].t)) ∧ w.cell? ⟨g, k * 4 + 2, none⟩ = some L[k].vf ∧ w.cell? ⟨g, k * 4 + 3, none⟩ = some L[k].vb := by
  have h' := h
  rcases h.2 with ⟨hv, h0⟩ | ⟨g, c, cur, hv, _⟩
  · exact ⟨none, 0, by rw [hv, h0], fun k hk => by omega⟩
  · rw [hv] at h'
    refine ⟨_, _, hv, fun k hk => ⟨g, rfl, ?_⟩⟩
    have hl := elCells_len L
    obtain ⟨e0, e1, e2, e3⟩ := elCells_at L k hk
    refine ⟨?_, ?_, ?_, ?_⟩
    · rw [World.ownsRow.cellAt h' _ (by omega)]; exact e0
    · rw [World.ownsRow.cellAt h' _ (by omega)]; exact e1
    · rw [World.ownsRow.cellAt h' _ (by omega)]; exact e2
    · rw [World.ownsRow.cellAt h' _ (by omega)]; exact e3
/-- What stands behind the first of the texts. -/
theorem texts_cons {e : El} {L : List El} : textsF (e :: L) = e.T ++ textsF L := by unfold textsF; rw [List.flatMap_cons]
theorem read_first {e : El} (L : List El) (h : e.read) : requestF (textsF (e :: L)) = .ok (e.m, e.t, e.fs, e.body, e.T.length) := by
  rw [texts_cons]
  exact request_more h _
end Go.Proofs.YtjpmofnnjdhamaaGreatDoor
namespace Go.Proofs.YtjpmofnnjdhamaaGreatDoor
open Go.RowKit HeadMath NormMath NormS HeadS ChunkMath HttpMath

theorem fieldCells_app (a b : Fs) : fieldCells (a ++ b) = fieldCells a ++ fieldCells b := by simp [fieldCells]
theorem fieldCells_one : ∀ (l : Fs), ∀ u ∈ fieldCells l, u.oneCell' = true
  | [], u, hu => by cases hu
  | f :: l, u, hu => by
    have e : fieldCells (f :: l) = Value.string f.1 :: Value.string f.2 :: fieldCells l := by simp [fieldCells]
    rw [e] at hu
    rcases List.mem_cons.1 hu with rfl | hu
    · rfl
    · rcases List.mem_cons.1 hu with rfl | hu
      · rfl
      · exact fieldCells_one l u hu
theorem fieldCells_size : ∀ (l : Fs), (fieldCells l).length = l.length * 2
  | [] => rfl
  | f :: l => by
    have e : fieldCells (f :: l) = Value.string f.1 :: Value.string f.2 :: fieldCells l := by simp [fieldCells]
    rw [e, List.length_cons, List.length_cons, List.length_cons, fieldCells_size l]; omega
theorem fieldCells_get : ∀ (l : Fs) (j : Nat) (u : Value), (fieldCells l)[j]? = some u → ∃ (h : j / 2 < l.length), u = if j % 2 = 0 then .string l[j / 2].1 else .string l[j / 2].2
  | [], j, u, h => by simp [fieldCells] at h
  | f :: l, j, u, h => by
    have e : fieldCells (f :: l) = Value.string f.1 :: Value.string f.2 :: fieldCells l := by simp [fieldCells]
    rw [e] at h
    match j, h with
    | 0, h => exact ⟨by simp, by simp at h; simp [h.symm]⟩
    | 1, h => exact ⟨by simp, by simp at h; simp [h.symm]⟩
    | j + 2, h =>
      obtain ⟨h1, h2⟩ := fieldCells_get l j u (by simpa using h)
      have e1 : (j + 2) / 2 = j / 2 + 1 := by omega
      have e2 : (j + 2) % 2 = j % 2 := by omega
      refine ⟨by rw [e1]; simp; exact h1, ?_⟩
      rw [e2, h2]
      simp only [e1, List.getElem_cons_succ]
theorem fieldsIn_cells {B : Nat} {w : World} {b off : Nat} {l : Fs} (h : FieldsIn B w (some ⟨b, off, none⟩) l) : ∀ j u, (fieldCells l)[j]? = some u → w.cell? ((⟨b, off, none⟩ : Addr).add j) = some u := by
  intro j u hu
  obtain ⟨h1, h2⟩ := fieldCells_get l j u hu
  obtain ⟨b', off', e, _, c1, c2⟩ := h (j / 2) h1
  injection e with e
  injection e with e1 e2
  subst e1; subst e2
  have e : (⟨b, off, none⟩ : Addr).add j = ⟨b, off + j, none⟩ := by unfold Addr.add; split <;> simp_all
  rw [e, h2]
  by_cases hm : j % 2 = 0
  · have e2 : off + j = off + j / 2 * 2 := by omega
    rw [if_pos hm, ← c1, e2]
  · have e2 : off + j = off + j / 2 * 2 + 1 := by omega
    rw [if_neg hm, ← c2, e2]
/-- append of a slice of fields to a row of the call's own. -/
theorem wpList_append_fields {w : World} {ops : Array Oper} {rest : List Oper} {o : Oper} {a : Act} {Q : Exit → Act → World → Prop} (hgd : o.guard = none) (s x : Operand)
    (ho : o.op = .call { callee := .builtin .append, args := #[s, x], argTypes := #[22, 22] })
    (B B' : Nat) (v : Value) (d : Fs) (hs : a.eval s = v) (hown : w.ownsRow B 59 2 v d.length (fieldCells d)) (hB : B ≤ w.heap.size)
    (ad : Option Addr) (c n : Nat) (l : Fs) (hx : a.eval x = .slice ad n c) (hn : n = l.length) (hat : FieldsIn B' w ad l) (hnil : ad = none → c = 0)
    (hlen : d.length + l.length ≤ 1000000000)
    (hK : ∀ v' w', w'.ownsRow B 59 2 v' (d ++ l).length (fieldCells (d ++ l)) → w.grownBy w' v.ownBlock → wpList Tryz.prog ops Q rest (a.put o.dst v') w') : wpList Tryz.prog ops Q (o :: rest) a w := by
  obtain ⟨i0, hi, hz0, hz1, hz2⟩ := info_parts fieldInfo
  subst hn
  cases ad with
  | none =>
    obtain rfl := hnil rfl
    have hl : l = [] := by
      cases l with
      | nil => rfl
      | cons y l => obtain ⟨_, _, e, _⟩ := hat 0 (by simp); cases e
    subst hl
    refine wpList_append_own_none hgd s x 22 ho B 59 i0 2 Tryz.underlying22 hi v d.length (fieldCells d) hs hown hx ?_
    exact hK v w (by rw [List.append_nil]; exact hown) ⟨rfl, rfl, rfl, Nat.le_refl _, fun _ _ _ => rfl⟩
  | some ad =>
    by_cases he : l = []
    · subst he
      refine wpList_append_own w hgd s x 22 ho B 59 i0 (.agg #[.string ⟨#[]⟩, .string ⟨#[]⟩]) 2 32 Tryz.underlying22 hi hz0 hz1 hz2 rfl (by decide) v d.length (fieldCells d) hs hown ad 0 c [] hx rfl (by simp) (by simp) (by unfold maxLen; simp at hlen; omega) (by simp at hlen; omega) hB ?_
      intro v' w' h1 h2 _
      exact hK v' w' (by simpa using h1) h2
    · obtain ⟨b, off, hab, _⟩ := hat 0 (List.length_pos_iff.2 he)
      injection hab with hab
      subst hab
      refine wpList_append_own w hgd s x 22 ho B 59 i0 (.agg #[.string ⟨#[]⟩, .string ⟨#[]⟩]) 2 32 Tryz.underlying22 hi hz0 hz1 hz2 rfl (by decide) v d.length (fieldCells d) hs hown ⟨b, off, none⟩ l.length c (fieldCells l) hx (by rw [fieldCells_size]) (fieldsIn_cells hat) (fieldCells_one l) (by unfold maxLen; omega) (by omega) hB ?_
      intro v' w' h1 h2 _
      exact hK v' w' (by rw [List.length_append, fieldCells_app]; exact h1) h2
end Go.Proofs.YtjpmofnnjdhamaaGreatDoor
