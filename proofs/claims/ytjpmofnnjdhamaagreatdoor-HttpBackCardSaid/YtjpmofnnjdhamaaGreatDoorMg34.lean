/-
  http.message: a message put together.
  Fields appended to a row of fields of the call's own.
-/
import Derived.Test.YtjpmofnnjdhamaaGreatDoorMg10
import Derived.Test.YtjpmofnnjdhamaaGreatDoorMg20
import Derived.Test.YtjpmofnnjdhamaaGreatDoorMg27
namespace Go.Proofs.YtjpmofnnjdhamaaGreatDoor
open Go.RowKit HeadMath NormMath NormS HeadS ChunkMath HttpMath

def MsgPost (T : Bs) (w : World) (e : Ending) (w' : World) : Prop := ∃ v, e = .returned v ∧ RowT w.heap.size w' v T ∧ Spares nowhere w w'
def msgT (first : Bs) (l : Fs) (body : Bs) : Bs := first ++ (crlf2 ++ (linesF l ++ (crlf2 ++ body)))
set_option maxRecDepth 100000 in
set_option maxHeartbeats 4000000 in
theorem message_any (first : ByteArray) (l : Fs) (body : Bs) (a ab : Option Addr) (c cb n k : Nat) (w : World) (hn : l.length = n) (hk : body.length = k) (hin : FieldsIn w.heap.size w a l) (hat : BytesAt w ab body) (hnil : ab = none → cb = 0) (hf : first.size ≤ 10000) (hl : l.length ≤ 1000) (hsz : ∀ j (h : j < l.length), l[j].1.size ≤ 1000000 ∧ l[j].2.size ≤ 1000000) (hT : (linesF l).length ≤ 100000) (hb : body.length ≤ 100000) :
    Calls Tryz.prog 31 #[.string first, .slice a n c, .slice ab k cb] w (MsgPost (msgT first.data.toList l body) w) := by
  have cL := lines_any l a c w hin (by omega) hsz
  rw [hn] at cL
  obtain ⟨L, hL⟩ : ∃ L : ByteArray, (⟨(linesF l).toArray⟩ : ByteArray) = L := ⟨_, rfl⟩
  rw [hL] at cL
  have hLs : L.size ≤ 100000 := by rw [← hL]; show (linesF l).toArray.size ≤ _; simpa using hT
  have hc2 : (⟨#[13, 10]⟩ : ByteArray).size = 2 := rfl
  obtain ⟨Y, hY⟩ : ∃ Y : ByteArray, first ++ (⟨#[13, 10]⟩ : ByteArray) ++ L ++ (⟨#[13, 10]⟩ : ByteArray) = Y := ⟨_, rfl⟩
  have hYs : Y.size ≤ 200000 := by rw [← hY, ByteArray.size_append, ByteArray.size_append, ByteArray.size_append, hc2]; omega
  have HYD : Hid (Y.data.toList ++ body = msgT first.data.toList l body) := Lib.hid (by
    rw [← hY, ← hL]
    unfold msgT crlf2
    simp [ByteArray.data_append])
  have HAT := Lib.hid hat
  have HNIL := Lib.hid hnil
  have HK := Lib.hid hk
  have hk2 : k ≤ 100000 := by omega
  unfold MsgPost
  clear hin hat hnil hL hT hb hk hsz
  go_enter Tryz.func31, Tryz.ntmps31
  go_wp2_with fail
  refine cL.mono ?_
  rintro _ w1 ⟨rfl, hb1⟩
  have HS1 : Hid (Spares nowhere w w1) := Lib.hid (Below.spares (F := nowhere) hb1 (fun k hk => .inr hk))
  obtain ⟨v2, w2, hcv, hT2, hs2⟩ := rowT_conv w1 Y (by unfold maxLen; omega)
  have HT2 := Lib.hid hT2
  have HS2 := Lib.hid (HS1.out.trans hs2)
  have HS12 := Lib.hid hs2
  have HD2 : Hid (Y.data.toList.length + k ≤ 1000000) := Lib.hid (by rw [size_list]; omega)
  clear cL hb1 hT2 hs2
  go_wp2_with (at_builtin; refine wpList_tail_bytes rfl _ _ rfl w1.heap.size _ _ rfl HT2.out ab cb k body rfl HK.out.symm (HAT.out.spares' HS2.out (fun _ _ _ _ h => h)) HNIL.out HD2.out HS12.out.size ?_)
  intro v3 w3 hT3 hg3
  have HT3 := Lib.hid hT3
  have HS3 : Hid (Spares nowhere w w3) := Lib.hid (HS2.out.grown hg3 (fun k hk => .inr (Nat.le_trans HS1.out.size (HT2.out.own k hk))))
  clear hT3 hg3
  go_wp2
  go_ret
  refine ⟨_, rfl, ?_, HS3.out⟩
  obtain ⟨g, cur, fz, h1, h2, h3⟩ := HT3.out
  rw [← HYD.out]
  exact ⟨g, cur, fz, h1, Nat.le_trans HS1.out.size h2, h3⟩
end Go.Proofs.YtjpmofnnjdhamaaGreatDoor
namespace Go.Proofs.YtjpmofnnjdhamaaGreatDoor
open Go.RowKit HeadMath NormMath NormS HeadS ChunkMath HttpMath

theorem fieldCells_app (a b : Fs) : fieldCells (a ++ b) = fieldCells a ++ fieldCells b := by simp [fieldCells]
theorem fieldCells_one : ∀ (l : Fs), ∀ u ∈ fieldCells l, u.oneCell' = true
  | [], u, hu => by cases hu
  | f :: l, u, hu => by
    have e : fieldCells (f :: l) = Value.string f.1 :: Value.string f.2 :: fieldCells l := by simp [fieldCells]
    rw [e] at hu
    rcases List.mem_cons.1 hu with rfl | hu
    · rfl
    · rcases List.mem_cons.1 hu with rfl | hu
      · rfl
      · exact fieldCells_one l u hu
theorem fieldCells_size : ∀ (l : Fs), (fieldCells l).length = l.length * 2
  | [] => rfl
  | f :: l => by
    have e : fieldCells (f :: l) = Value.string f.1 :: Value.string f.2 :: fieldCells l := by simp [fieldCells]
    rw [e, List.length_cons, List.length_cons, List.length_cons, fieldCells_size l]; omega
theorem fieldCells_get : ∀ (l : Fs) (j : Nat) (u : Value), (fieldCells l)[j]? = some u → ∃ (h : j / 2 < l.length), u = if j % 2 = 0 then .string l[j / 2].1 else .string l[j / 2].2
  | [], j, u, h => by simp [fieldCells] at h
  | f :: l, j, u, h => by
    have e : fieldCells (f :: l) = Value.string f.1 :: Value.string f.2 :: fieldCells l := by simp [fieldCells]
    rw [e] at h
    match j, h with
    | 0, h => exact ⟨by simp, by simp at h; simp [h.symm]⟩
    | 1, h => exact ⟨by simp, by simp at h; simp [h.symm]⟩
    | j + 2, h =>
      obtain ⟨h1, h2⟩ := fieldCells_get l j u (by simpa using h)
      have e1 : (j + 2) / 2 = j / 2 + 1 := by omega
      have e2 : (j + 2) % 2 = j % 2 := by omega
      refine ⟨by rw [e1]; simp; exact h1, ?_⟩
      rw [e2, h2]
      simp only [e1, List.getElem_cons_succ]
theorem fieldsIn_cells {B : Nat} {w : World} {b off : Nat} {l : Fs} (h : FieldsIn B w (some ⟨b, off, none⟩) l) : ∀ j u, (fieldCells l)[j]? = some u → w.cell? ((⟨b, off, none⟩ : Addr).add j) = some u := by
  intro j u hu
  obtain ⟨h1, h2⟩ := fieldCells_get l j u hu
  obtain ⟨b', off', e, _, c1, c2⟩ := h (j / 2) h1
  injection e with e
  injection e with e1 e2
  subst e1; subst e2
  have e : (⟨b, off, none⟩ : Addr).add j = ⟨b, off + j, none⟩ := by unfold Addr.add; split <;> simp_all
  rw [e, h2]
  by_cases hm : j % 2 = 0
  · have e2 : off + j = off + j / 2 * 2 := by omega
    rw [if_pos hm, ← c1, e2]
  · have e2 : off + j = off + j / 2 * 2 + 1 := by omega
    rw [if_neg hm, ← c2, e2]
/-- append of a slice of fields to a row of the call's own. -/
theorem wpList_append_fields {w : World} {ops : Array Oper} {rest : List Oper} {o : Oper} {a : Act} {Q : Exit → Act → World → Prop} (hgd : o.guard = none) (s x : Operand)
    (ho : o.op = .call { callee := .builtin .append, args := #[s, x], argTypes := #[22, 22] })
    (B B' : Nat) (v : Value) (d : Fs) (hs : a.eval s = v) (hown : w.ownsRow B 59 2 v d.length (fieldCells d)) (hB : B ≤ w.heap.size)
    (ad : Option Addr) (c n : Nat) (l : Fs) (hx : a.eval x = .slice ad n c) (hn : n = l.length) (hat : FieldsIn B' w ad l) (hnil : ad = none → c = 0)
    (hlen : d.length + l.length ≤ 1000000000)
    (hK : ∀ v' w', w'.ownsRow B 59 2 v' (d ++ l).length (fieldCells (d ++ l)) → w.grownBy w' v.ownBlock → wpList Tryz.prog ops Q rest (a.put o.dst v') w') : wpList Tryz.prog ops Q (o :: rest) a w := by
  obtain ⟨i0, hi, hz0, hz1, hz2⟩ := info_parts fieldInfo
  subst hn
  cases ad with
  | none =>
    obtain rfl := hnil rfl
    have hl : l = [] := by
      cases l with
      | nil => rfl
      | cons y l => obtain ⟨_, _, e, _⟩ := hat 0 (by simp); cases e
    subst hl
    refine wpList_append_own_none hgd s x 22 ho B 59 i0 2 Tryz.underlying22 hi v d.length (fieldCells d) hs hown hx ?_
    exact hK v w (by rw [List.append_nil]; exact hown) ⟨rfl, rfl, rfl, Nat.le_refl _, fun _ _ _ => rfl⟩
  | some ad =>
    by_cases he : l = []
    · subst he
      refine wpList_append_own w hgd s x 22 ho B 59 i0 (.agg #[.string ⟨#[]⟩, .string ⟨#[]⟩]) 2 32 Tryz.underlying22 hi hz0 hz1 hz2 rfl (by decide) v d.length (fieldCells d) hs hown ad 0 c [] hx rfl (by simp) (by simp) (by unfold maxLen; simp at hlen; omega) (by simp at hlen; omega) hB ?_
      intro v' w' h1 h2 _
      exact hK v' w' (by simpa using h1) h2
    · obtain ⟨b, off, hab, _⟩ := hat 0 (List.length_pos_iff.2 he)
      injection hab with hab
      subst hab
      refine wpList_append_own w hgd s x 22 ho B 59 i0 (.agg #[.string ⟨#[]⟩, .string ⟨#[]⟩]) 2 32 Tryz.underlying22 hi hz0 hz1 hz2 rfl (by decide) v d.length (fieldCells d) hs hown ⟨b, off, none⟩ l.length c (fieldCells l) hx (by rw [fieldCells_size]) (fieldsIn_cells hat) (fieldCells_one l) (by unfold maxLen; omega) (by omega) hB ?_
      intro v' w' h1 h2 _
      exact hK v' w' (by rw [List.length_append, fieldCells_app]; exact h1) h2
end Go.Proofs.YtjpmofnnjdhamaaGreatDoor
