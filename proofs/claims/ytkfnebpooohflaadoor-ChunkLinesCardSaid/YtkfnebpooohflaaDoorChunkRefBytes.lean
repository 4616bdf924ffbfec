/-
  The reference's ChunkBytes.
-/
import Derived.Test.YtkfnebpooohflaaDoorChunkRefHex
import Derived.Test.YtkfnebpooohflaaDoorChunkBytesP
import Derived.Deep.RegionLaw
import Derived.Lib.AppendStr
import Derived.Laws.AppendOwn
namespace Go.Proofs.YtkfnebpooohflaaDoor
open Go.RowKit HeadMath NormMath NormS ChunkMath

section
variable {w : World} {ops : Array Oper} {o : Oper} {a : Act} {K : Act → World → Prop} {Q : Exit → Act → World → Prop} {E : Prop}
/-- append(v, s...) of a string, at a step of a region that draws its order. -/
theorem step_row_str (hgd : o.guard = none) (s x : Operand)
    (ho : o.op = .call { callee := .builtin .append, args := #[s, x], argTypes := #[22, 9] })
    (B : Nat) (v : Value) (d : Bs) (hs : a.eval s = v) (hown : Row8 B w v d) (t : ByteArray) (hx : a.eval x = .string t) (hlen : d.length + t.size ≤ 140737488355328) (hB : B ≤ w.heap.size)
    (h : ∀ v' w', Row8 B w' v' (d ++ t.data.toList) → Spares (atLeast B) w w' → K (a.put o.dst v') w') :
    if Region.wanted o (yielded ops a.tmps) = true then Oper.wp Tryd.prog o a w K Q else E := by
  have hw : Region.wanted o (yielded ops a.tmps) = true := by simp [Region.wanted, hgd]
  rw [if_pos hw]
  obtain ⟨i0, hi, hz0, hz1, hz2⟩ := info_parts byteInfo
  obtain ⟨v', w', hr, h1, h2, _⟩ := Lib.run_append_own_string (P := Tryd.prog) w B 22 9 o.type 5 i0 Tryd.underlying22 Tryd.underlying9 hi hz0 hz1 hz2 v d.length (Lib.byteCells d) hown t (by unfold maxLen; omega) (by omega) hB
  unfold Oper.wp
  simp [execOp, ho, resolve, invoke, builtin, hs, hx, hr, Result.andThen]
  refine h v' w' ?_ (row8_grown hown h2)
  unfold Row8
  rw [List.length_append, byteCells_app]
  have e : t.data.toList.length = t.size := by rw [Array.length_toList]; rfl
  rw [e]
  exact h1
/-- append(v, b...) of bytes, at such a step. -/
theorem step_row_bytes (hgd : o.guard = none) (s x : Operand)
    (ho : o.op = .call { callee := .builtin .append, args := #[s, x], argTypes := #[22, 22] })
    (B : Nat) (v : Value) (d : Bs) (hs : a.eval s = v) (hown : Row8 B w v d) (ad : Addr) (c n : Nat) (l : Bs) (hx : a.eval x = .slice (some ad) n c) (hn : n = l.length) (hat : BytesAt w (some ad) l) (h0 : 0 < n) (hlen : d.length + n ≤ 140737488355328) (hB : B ≤ w.heap.size)
    (h : ∀ v' w', Row8 B w' v' (d ++ l) → Spares (atLeast B) w w' → K (a.put o.dst v') w') :
    if Region.wanted o (yielded ops a.tmps) = true then Oper.wp Tryd.prog o a w K Q else E := by
  have hw : Region.wanted o (yielded ops a.tmps) = true := by simp [Region.wanted, hgd]
  rw [if_pos hw]
  subst hn
  obtain ⟨i0, hi, hz0, hz1, hz2⟩ := info_parts byteInfo
  obtain ⟨b, off, e, _⟩ := hat 0 h0
  injection e with e
  subst e
  refine wp_append_own w s x 22 ho B 5 i0 (.int .u8 0) 1 1 Tryd.underlying22 hi hz0 hz1 hz2 rfl (by decide) v d.length (Lib.byteCells d) hs hown ⟨b, off, none⟩ l.length c (Lib.byteCells l) hx (by simp [byteCells_len]) hat.cells (byteCells_one l) (by unfold maxLen; omega) (by omega) hB ?_
  intro v' w' h1 h2 _
  exact h v' w' (by unfold Row8; rw [List.length_append, byteCells_app]; exact h1) (row8_grown hown h2)
end
set_option maxRecDepth 100000 in
set_option maxHeartbeats 8000000 in
theorem refBytes_any (a : Option Addr) (c : Nat) (body : Bs) (size : Int) (S : Nat) (w : World) (hb : BytesAt w a body) (hc : body.length ≤ c) (hz : body.length ≤ 10000000) (hS : (S : Int) = max size 1) : Calls Tryd.prog 12 #[.slice a body.length c, .int .i64 size] w (RowPost w.heap.size (bytesF S body) w) := by
  have HB := Lib.hid hb
  have hS1 : 1 ≤ S := by omega
  have g1 : (if size < 1 then (1 : Int) else size) = (S : Int) := by split <;> omega
  have g2 : (if (1 : Int) < size then size else 1) = (S : Int) := by split <;> omega
  have g3 : (if (1 : Int) ≤ size then size else 1) = (S : Int) := by split <;> omega
  have g4 : max size 1 = (S : Int) := hS.symm
  obtain ⟨R, hR⟩ : ∃ R, bytesF S body = R := ⟨_, rfl⟩
  rw [hR]
  have HR0 := Lib.hid hR.symm
  obtain ⟨bl, hbl⟩ : ∃ bl, body.length = bl := ⟨_, rfl⟩
  have HBL := Lib.hid hbl
  rw [hbl] at hc hz ⊢
  unfold RowPost
  clear hb hS hR hbl
  go_enter Tryd.func12, Tryd.ntmps12
  go_wp2
  go_loopw [0, 5] (fun r b wr => ∃ (f : Nat) (rest done : Bs) (v : Value) (ar : Option Addr) (cr : Nat), v = b ∧ r = .slice ar rest.length cr ∧ rest.length ≤ bl ∧ rest.length ≤ cr ∧ Hid (Row8 w.heap.size wr v done) ∧ Hid (BytesAt wr ar rest ∧ (∀ x o, 0 < rest.length → ar = some ⟨x, o, none⟩ → x < w.heap.size)) ∧ Hid (R = done ++ bytesG S f rest ∧ rest.length ≤ f ∧ done.length + 40 * rest.length ≤ 40 * bl) ∧ Hid (Spares (atLeast w.heap.size) w wr)) (fun r _ _ => match r with | .slice _ n _ => n | _ => 0)
  case atStart =>
    refine ⟨body.length, body, [], _, a, c, rfl, by rw [HBL.out], by rw [HBL.out]; exact Nat.le_refl _, by rw [HBL.out]; exact hc, Lib.hid (row8_nil _ _), Lib.hid ⟨HB.out, fun x o h0 e => ?_⟩, Lib.hid ⟨by rw [HR0.out]; rfl, Nat.le_refl _, by rw [HBL.out]; simp⟩, Lib.hid (Spares.refl _ _)⟩
    obtain ⟨y, z, e2, hcell⟩ := HB.out 0 h0
    rw [e] at e2
    injection e2 with e2
    injection e2 with e3 e4
    subst e3
    rcases Nat.lt_or_ge x w.heap.size with h | h
    · exact h
    · simp [World.cell?, Array.getElem?_eq_none h] at hcell
  case round =>
    obtain ⟨f, rest, done, v, ar, cr, rfl, rfl, hrl, hrc, HROW, HRB, HRR, HS⟩ := hrel
    by_cases h0 : 0 < rest.length
    · obtain ⟨y, z, rfl, _⟩ := HRB.out.1 0 h0
      obtain ⟨f, rfl⟩ : ∃ g, f = g + 1 := ⟨f - 1, by have := HRR.out.2.1; omega⟩
      have hne : rest ≠ [] := by intro e; rw [e] at h0; simp at h0
      obtain ⟨n, hn⟩ : ∃ n, min S rest.length = n := ⟨_, rfl⟩
      have hn1 : 1 ≤ n := by omega
      have hn2 : n ≤ rest.length := by omega
      have HRE : Hid (R = ((((done ++ hexT n) ++ crlf) ++ rest.take n) ++ crlf) ++ bytesG S f (rest.drop n)) := Lib.hid (by
        have ht : rest.take S = rest.take n := by
          rcases Nat.le_total S rest.length with h | h
          · rw [← hn, Nat.min_eq_left h]
          · rw [← hn, Nat.min_eq_right h, List.take_of_length_le h, List.take_length]
        have hd : rest.drop S = rest.drop n := by
          rcases Nat.le_total S rest.length with h | h
          · rw [← hn, Nat.min_eq_left h]
          · rw [← hn, Nat.min_eq_right h, List.drop_of_length_le h, List.drop_length]
        rw [HRR.out.1, bytesG_more hne, hn, ht, hd]
        simp only [List.append_assoc])
      obtain ⟨rl, hrl'⟩ : ∃ rl, rest.length = rl := ⟨_, rfl⟩
      have HRL := Lib.hid hrl'
      rw [hrl'] at hrl hrc h0 hn hn2 ⊢
      have k0 : (0 : Int) < (rl : Int) := by omega
      have k1 : (if (rl : Int) < (S : Int) then (rl : Int) else (S : Int)) = (n : Int) := by split <;> omega
      have k2 : (if (S : Int) < (rl : Int) then (S : Int) else (rl : Int)) = (n : Int) := by split <;> omega
      have k3 : min (S : Int) (rl : Int) = (n : Int) := by omega
      have k4 : (if (S : Int) ≤ (rl : Int) then (S : Int) else (rl : Int)) = (n : Int) := by split <;> omega
      have CH := Lib.hid (fun W : World => hexText_any (n + 1) n W (by omega) (by omega))
      clear hne hn hrl'
      have hat1 : ∀ W, Spares (atLeast w.heap.size) wr W → BytesAt W (some ⟨y, z, none⟩) (rest.take n) := fun W hs => by
        have h1 := HRB.out.1.spares' hs (fun h0 x o e => fun h2 => absurd (HRB.out.2 x o h0 e) (Nat.not_lt.2 h2))
        exact bytesAt_take8 h1 n
      have HAT := Lib.hid hat1
      have HTK : Hid (n = (rest.take n).length) := Lib.hid (by rw [List.length_take]; have := HRL.out; omega)
      have hhex := hexT_len 7 n (by rw [show (16 : Nat) ^ (7 + 1) = 4294967296 from by decide]; omega)
      have HHS : Hid ((hexS n).size = (hexT n).length) := Lib.hid (by unfold hexS; show (hexT n).toArray.size = _; simp)
      have HB0 : Hid (done.length + (hexS n).size ≤ 140737488355328) := Lib.hid (by rw [HHS.out]; have := HRR.out.2.2; have := HRL.out; omega)
      have HB1 : Hid ((done ++ hexT n).length + (⟨#[13, 10]⟩ : ByteArray).size ≤ 140737488355328) := Lib.hid (by rw [List.length_append]; have := HRR.out.2.2; have := HRL.out; show _ + 2 ≤ _; omega)
      have HB2 : Hid (((done ++ hexT n) ++ crlf).length + n ≤ 140737488355328) := Lib.hid (by rw [List.length_append, List.length_append]; have := HRR.out.2.2; have := HRL.out; show _ + 2 + _ ≤ _; omega)
      have HB3 : Hid ((((done ++ hexT n) ++ crlf) ++ rest.take n).length + (⟨#[13, 10]⟩ : ByteArray).size ≤ 140737488355328) := Lib.hid (by rw [List.length_append, List.length_append, List.length_append, ← HTK.out]; have := HRR.out.2.2; have := HRL.out; show _ + 2 + _ + 2 ≤ _; omega)
      have HDN : Hid (((((done ++ hexT n) ++ crlf) ++ rest.take n) ++ crlf).length + 40 * (rest.drop n).length ≤ 40 * bl) := Lib.hid (by
        rw [List.length_append, List.length_append, List.length_append, List.length_append, ← HTK.out, List.length_drop]
        have h1 := HRR.out.2.2
        have h2 := HRL.out
        show _ + 2 + _ + 2 + _ ≤ _
        omega)
      have HFD : Hid ((rest.drop n).length ≤ f ∧ (rest.drop n).length = rl - n) := Lib.hid (by rw [List.length_drop]; have := HRR.out.2.1; have := HRL.out; omega)
      have n1 : (n : Int) ≤ (rl : Int) := by omega
      have n2 : (n : Int) ≤ (cr : Int) := by omega
      have n0 : (0 : Int) ≤ (n : Int) := by omega
      clear hat1 hhex
      have tail : ∀ (W : World) (A : Option Addr), Spares (atLeast w.heap.size) wr W → (A = some ⟨y, z + n, none⟩ ∨ (rest.drop n).length = 0 ∧ A = some ⟨y, z, none⟩) → BytesAt W A (rest.drop n) ∧ (∀ x o, 0 < (rest.drop n).length → A = some ⟨x, o, none⟩ → x < w.heap.size) := fun W A hs hA => by
        have h1 := HRB.out.1.spares' hs (fun h0 x o e => fun h2 => absurd (HRB.out.2 x o h0 e) (Nat.not_lt.2 h2))
        rcases hA with rfl | ⟨hA0, rfl⟩
        · refine ⟨bytesAt_drop8 h1 n, fun x o h0 e => ?_⟩
          injection e with e
          injection e with e1 e2
          subst e1
          exact HRB.out.2 y z (by rw [List.length_drop] at h0; omega) rfl
        · exact ⟨fun k hk => absurd hk (by omega), fun x o h0 e => absurd h0 (by omega)⟩
      have HTAIL := Lib.hid tail
      have HZ0 := Lib.hid HS.out.size
      clear tail
      by_cases hcr : cr = n
      · replace hcr := hcr.symm
        subst hcr
        go_wp2_with fail
        go_region_law
          (first
            | (go_simp
               go_at_call 25
               refine (CH.out _).mono ?_
               rintro e w1 ⟨rfl, m1, hw1⟩
               have HS1 : Hid (Spares (atLeast w.heap.size) wr w1) := Lib.hid (by rw [hw1]; exact ((Spares.refl _ wr).drew).drewN m1)
               have HR1 : Hid (Row8 w.heap.size w1 v done) := Lib.hid (by rw [hw1]; exact HROW.out.spares (F := nowhere) (((Spares.refl _ wr).drew).drewN m1) (fun _ _ h => h))
               have HZ1 : Hid (w.heap.size ≤ w1.heap.size) := Lib.hid (Nat.le_trans HZ0.out HS1.out.size)
               clear hw1)
            | ((with_reducible show ite (Region.wanted { dst := some 19, op := _, type := _, pos := _, after := _, guard := _ } _ = true) _ _); refine step_row_str (by rfl) _ _ (by rfl) w.heap.size _ done (by rfl) HR1.out (hexS n) (by rfl) HB0.out HZ1.out ?_
               intro v2 w2 hr2 hs2
               have HR2 : Hid (Row8 w.heap.size w2 v2 (done ++ hexT n)) := Lib.hid hr2
               have HS2 := Lib.hid hs2
               have HZ2 := Lib.hid (Nat.le_trans HZ1.out hs2.size)
               clear hr2 hs2)
            | ((with_reducible show ite (Region.wanted { dst := some 20, op := _, type := _, pos := _, after := _, guard := _ } _ = true) _ _); refine step_row_str (by rfl) _ _ (by rfl) w.heap.size _ (done ++ hexT n) (by rfl) HR2.out ⟨#[13, 10]⟩ (by rfl) HB1.out HZ2.out ?_
               intro v3 w3 hr3 hs3
               have HR3 := Lib.hid hr3
               have HS3 := Lib.hid hs3
               have HZ3 := Lib.hid (Nat.le_trans HZ2.out hs3.size)
               clear hr3 hs3)
            | ((with_reducible show ite (Region.wanted { dst := some 24, op := _, type := _, pos := _, after := _, guard := _ } _ = true) _ _); refine step_row_bytes (by rfl) _ _ (by rfl) w.heap.size _ ((done ++ hexT n) ++ crlf) (by rfl) HR3.out ⟨y, z, none⟩ n n (rest.take n) (by rfl) HTK.out (HAT.out _ ((HS1.out.trans HS2.out).trans HS3.out)) (by omega) HB2.out HZ3.out ?_
               intro v4 w4 hr4 hs4
               have HR4 := Lib.hid hr4
               have HS4 := Lib.hid hs4
               have HZ4 := Lib.hid (Nat.le_trans HZ3.out hs4.size)
               clear hr4 hs4))
        go_wp2_with (at_builtin; refine wpList_row_str rfl _ _ rfl w.heap.size _ (((done ++ hexT n) ++ crlf) ++ rest.take n) rfl HR4.out ⟨#[13, 10]⟩ rfl HB3.out HZ4.out ?_; intro v5 w5 hr5 hs5; have HR5 := Lib.hid hr5; have HS5 := Lib.hid hs5; clear hr5 hs5)
        have HSF := Lib.hid ((((HS1.out.trans HS2.out).trans HS3.out).trans HS4.out).trans HS5.out)
        go_roundw
        case rel => exact ⟨f, rest.drop n, _, v5, some ⟨y, z, none⟩, 0, rfl, by rw [HFD.out.2, show rl - n = 0 by omega], by rw [HFD.out.2]; omega, by rw [HFD.out.2]; omega, HR5, Lib.hid (HTAIL.out _ _ HSF.out (.inr ⟨by rw [HFD.out.2]; omega, rfl⟩)), Lib.hid ⟨HRE.out, HFD.out.1, HDN.out⟩, Lib.hid (HS.out.trans HSF.out)⟩
        case measure =>
          show 0 < rl
          omega
      · have n3 : (n : Int) < (cr : Int) := by omega
        have n4 : ¬ cr = n := hcr
        go_wp2_with fail
        go_region_law
          (first
            | (go_simp
               go_at_call 25
               refine (CH.out _).mono ?_
               rintro e w1 ⟨rfl, m1, hw1⟩
               have HS1 : Hid (Spares (atLeast w.heap.size) wr w1) := Lib.hid (by rw [hw1]; exact ((Spares.refl _ wr).drew).drewN m1)
               have HR1 : Hid (Row8 w.heap.size w1 v done) := Lib.hid (by rw [hw1]; exact HROW.out.spares (F := nowhere) (((Spares.refl _ wr).drew).drewN m1) (fun _ _ h => h))
               have HZ1 : Hid (w.heap.size ≤ w1.heap.size) := Lib.hid (Nat.le_trans HZ0.out HS1.out.size)
               clear hw1)
            | ((with_reducible show ite (Region.wanted { dst := some 19, op := _, type := _, pos := _, after := _, guard := _ } _ = true) _ _); refine step_row_str (by rfl) _ _ (by rfl) w.heap.size _ done (by rfl) HR1.out (hexS n) (by rfl) HB0.out HZ1.out ?_
               intro v2 w2 hr2 hs2
               have HR2 : Hid (Row8 w.heap.size w2 v2 (done ++ hexT n)) := Lib.hid hr2
               have HS2 := Lib.hid hs2
               have HZ2 := Lib.hid (Nat.le_trans HZ1.out hs2.size)
               clear hr2 hs2)
            | ((with_reducible show ite (Region.wanted { dst := some 20, op := _, type := _, pos := _, after := _, guard := _ } _ = true) _ _); refine step_row_str (by rfl) _ _ (by rfl) w.heap.size _ (done ++ hexT n) (by rfl) HR2.out ⟨#[13, 10]⟩ (by rfl) HB1.out HZ2.out ?_
               intro v3 w3 hr3 hs3
               have HR3 := Lib.hid hr3
               have HS3 := Lib.hid hs3
               have HZ3 := Lib.hid (Nat.le_trans HZ2.out hs3.size)
               clear hr3 hs3)
            | ((with_reducible show ite (Region.wanted { dst := some 24, op := _, type := _, pos := _, after := _, guard := _ } _ = true) _ _); refine step_row_bytes (by rfl) _ _ (by rfl) w.heap.size _ ((done ++ hexT n) ++ crlf) (by rfl) HR3.out ⟨y, z, none⟩ cr n (rest.take n) (by rfl) HTK.out (HAT.out _ ((HS1.out.trans HS2.out).trans HS3.out)) (by omega) HB2.out HZ3.out ?_
               intro v4 w4 hr4 hs4
               have HR4 := Lib.hid hr4
               have HS4 := Lib.hid hs4
               have HZ4 := Lib.hid (Nat.le_trans HZ3.out hs4.size)
               clear hr4 hs4))
        go_wp2_with (at_builtin; refine wpList_row_str rfl _ _ rfl w.heap.size _ (((done ++ hexT n) ++ crlf) ++ rest.take n) rfl HR4.out ⟨#[13, 10]⟩ rfl HB3.out HZ4.out ?_; intro v5 w5 hr5 hs5; have HR5 := Lib.hid hr5; have HS5 := Lib.hid hs5; clear hr5 hs5)
        have HSF := Lib.hid ((((HS1.out.trans HS2.out).trans HS3.out).trans HS4.out).trans HS5.out)
        go_roundw
        case rel => exact ⟨f, rest.drop n, _, v5, _, _, rfl, by rw [HFD.out.2], by rw [HFD.out.2]; omega, by rw [HFD.out.2]; omega, HR5, Lib.hid (HTAIL.out _ _ HSF.out (.inl rfl)), Lib.hid ⟨HRE.out, HFD.out.1, HDN.out⟩, Lib.hid (HS.out.trans HSF.out)⟩
        case measure =>
          show rl - n < rl
          omega
    · have hre : rest = [] := List.eq_nil_of_length_eq_zero (by omega)
      have k0 : ¬ ((0 : Int) < (rest.length : Int)) := by omega
      have HRE : Hid (R = done ++ endB) := Lib.hid (by rw [HRR.out.1, hre, bytesG_nil])
      have HB1 : Hid (done.length + (⟨#[48, 13, 10, 13, 10]⟩ : ByteArray).size ≤ 140737488355328) := Lib.hid (by have := HRR.out.2.2; show _ + 5 ≤ _; omega)
      have HZ := Lib.hid HS.out.size
      clear h0 hre
      go_wp2_with (at_builtin; refine wpList_row_str rfl _ _ rfl w.heap.size _ done rfl HROW.out ⟨#[48, 13, 10, 13, 10]⟩ rfl HB1.out HZ.out ?_; intro v9 w9 hr9 hs9; have HR9 := Lib.hid hr9; have HS9 := Lib.hid hs9; clear hr9 hs9)
      go_ret
      exact ⟨v9, rfl, by rw [HRE.out]; exact HR9.out, HS.out.trans HS9.out⟩
end Go.Proofs.YtkfnebpooohflaaDoor
