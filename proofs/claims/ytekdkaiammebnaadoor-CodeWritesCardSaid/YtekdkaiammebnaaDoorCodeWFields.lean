/-
  The Writer's Fields: how many there are, then each name and value.
-/
import Derived.Test.YtekdkaiammebnaaDoorCodeAppend
import Derived.Test.YtekdkaiammebnaaDoorCodeWritesMath
import Derived.Test.YtekdkaiammebnaaDoorFieldRows
import Derived.Lib.ConvBytes
import Derived.Deep.Cut
namespace Go.Proofs.YtekdkaiammebnaaDoor
open Go.RowKit CodeMath

/-- []byte(s): where it lies, and what else stands. -/
theorem conv_str (w : World) (s : ByteArray) : ∃ c w', (convert 9 27 (.string s)).run Tryd.prog w = .ok (.slice (some ⟨w.heap.size, 0, none⟩) s.size c) w' ∧ BytesAt w' (some ⟨w.heap.size, 0, none⟩) s.data.toList ∧ Spares nowhere w w' := by
  refine ⟨_, _, Lib.run_convert_string_bytes w 9 27 5 s Tryd.underlying9 Tryd.underlying27 Tryd.underlying5, ?_, ?_⟩
  · intro k hk
    have hs : k < s.size := by rw [Array.length_toList] at hk; exact hk
    refine ⟨w.heap.size, 0, rfl, ?_⟩
    rw [Nat.zero_add, Lib.bytesWorld_cell w _ s k hs, List.getD_eq_getElem?_getD, List.getElem?_eq_getElem hk]
    rfl
  · refine ⟨?_, ?_, ?_, ?_, fun b hb _ => Lib.bytesWorld_at_old w _ s b hb⟩
    · simp [Lib.bytesWorld, World.freeze, World.alloc, World.drew, -World.alloc_eq, -World.drew_eq]
    · simp [Lib.bytesWorld, World.freeze, World.alloc, World.drew, -World.alloc_eq, -World.drew_eq]
    · simp [Lib.bytesWorld, World.freeze, World.alloc, World.drew, -World.alloc_eq, -World.drew_eq]
    · rw [Lib.bytesWorld_size]; omega
theorem fieldsF_take (fs : Fs) (k : Nat) (h : k < fs.length) : (fs.take (k + 1)).flatMap fieldF = (fs.take k).flatMap fieldF ++ (textF (fs[k]).1.data.toList ++ textF (fs[k]).2.data.toList) := by
  have e : fs.take (k + 1) = fs.take k ++ [fs[k]] := by rw [List.take_add_one, List.getElem?_eq_getElem h]; rfl
  rw [e, List.flatMap_append]
  simp [fieldF]
theorem wpList_conv_str {w : World} {ops : Array Oper} {rest : List Oper} {o : Oper} {a : Act} {Q : Exit → Act → World → Prop} (hgd : o.guard = none) (x : Operand) (ho : o.op = .convert 9 27 x) (s : ByteArray) (l : List UInt8) (hl : s.data.toList = l) (hx : a.eval x = .string s)
    (hK : ∀ c w', BytesAt w' (some ⟨w.heap.size, 0, none⟩) l → Spares nowhere w w' → wpList Tryd.prog ops Q rest (a.put o.dst (.slice (some ⟨w.heap.size, 0, none⟩) l.length c)) w') : wpList Tryd.prog ops Q (o :: rest) a w := by
  subst hl
  refine wpList_plain hgd fun K hK' => ?_
  obtain ⟨c, w', hrun, h1, h2⟩ := conv_str w s
  rw [← size_list] at hrun
  unfold Oper.wp
  simp [execOp, ho, hx, hrun, Result.andThen]
  exact hK' _ _ (hK c w' h1 h2)
theorem fields_len : ∀ (fs : Fs), (∀ f ∈ fs, f.1.size ≤ 1000000 ∧ f.2.size ≤ 1000000) → (fs.flatMap fieldF).length ≤ fs.length * 2000020
  | [], _ => by simp
  | f :: fs, h => by
    have h1 := h f (List.mem_cons_self ..)
    have h2 := fields_len fs (fun g hg => h g (List.mem_cons_of_mem _ hg))
    have e : (fieldF f).length = (textF f.1.data.toList).length + (textF f.2.data.toList).length := by unfold fieldF; rw [List.length_append]
    have h3 := textF_len f.1.data.toList
    have h4 := textF_len f.2.data.toList
    rw [size_list] at h3 h4
    rw [List.flatMap_cons, List.length_append, List.length_cons, e]
    omega
theorem Moved.new {F : Nat → Prop} {w w' : World} (h : Spares nowhere w w') : Moved F w F w' := ⟨h.mono (fun _ h => by cases h), fun _ h => .inl h⟩
set_option maxRecDepth 100000 in
set_option maxHeartbeats 1000000 in
theorem wFields_any (F : Nat → Prop) (p : Nat) (d : List UInt8) (fs : Fs) (a : Option Addr) (c n : Nat) (w : World) (h : IsW F p d w) (hat : FieldsAt w a fs) (hn : n = fs.length) (hsrc : 0 < fs.length → ∀ b off, a = some ⟨b, off, none⟩ → ¬ F b)
    (hd : d.length ≤ 1000000000) (hl : fs.length ≤ 1000000) (hsz : ∀ f ∈ fs, f.1.size ≤ 1000000 ∧ f.2.size ≤ 1000000) :
    Calls Tryd.prog 15 #[.pointer (some ⟨p, 0, none⟩), .slice a n c] w (WPost F p (d ++ fieldsF fs) w) := by
  have H := Lib.hid h
  have HA := Lib.hid hat
  have HN := Lib.hid hn
  have HSRC := Lib.hid hsrc
  have HSZ := Lib.hid hsz
  have hcv : IntKind.u64.wrap (n : Int) = (n : Int) := by rw [IntKind.wrap_u64]; omega
  have i1 : (n : Int) ≤ 1000000 := by omega
  have HNUM := Lib.hid (wNum_any F p d n w h (by unfold U64; omega) (by omega))
  clear h hat hn hsrc hsz
  go_enter Tryd.func15, Tryd.ntmps15
  go_wp2_with fail
  refine HNUM.out.mono ?_
  rintro e w1 ⟨rfl, F1, hw1, hm1⟩
  have HW1 : Hid (IsW F1 p (d ++ numF n ++ (fs.take 0).flatMap fieldF) w1) := Lib.hid (by simpa using hw1)
  have HM1 := Lib.hid hm1
  clear hw1 hm1 HNUM
  go_wp2
  go_loopw [13] (fun i wr => ∃ (k : Nat) (F' : Nat → Prop), k ≤ n ∧ i = .int .i64 k ∧ Hid (IsW F' p (d ++ numF n ++ (fs.take k).flatMap fieldF) wr) ∧ Hid (Moved F w F' wr)) (fun i _ => n - (intOf i).toNat)
  case atStart => exact ⟨0, F1, by omega, rfl, HW1, HM1⟩
  clear HW1 HM1
  case round =>
    obtain ⟨k, F', hk, rfl, HW, HM⟩ := hrel
    by_cases hlt : k < n
    · have hk2 : k < fs.length := by have := HN.out; omega
      obtain ⟨b, off, rfl, hc0, hc1⟩ := (HA.out.spares HM.out.1 (fun h0 b off e => HSRC.out h0 b off e)) k hk2
      have hsk := HSZ.out (fs[k]) (List.getElem_mem hk2)
      have hnx := fieldsF_take fs k hk2
      obtain ⟨s1, hs1⟩ : ∃ s, (fs[k]).1 = s := ⟨_, rfl⟩
      obtain ⟨s2, hs2⟩ : ∃ s, (fs[k]).2 = s := ⟨_, rfl⟩
      rw [hs1] at hc0
      rw [hs2] at hc1
      rw [hs1, hs2] at hsk hnx
      have hfl := fields_len (fs.take k) (fun f hf => HSZ.out f (List.mem_of_mem_take hf))
      have i2 : (k : Int) < (n : Int) := by omega
      have HNX := Lib.hid hnx
      have HFL := Lib.hid hfl
      clear hs1 hs2 hnx hfl hk2
      go_upto_region 4 with (fail)
      obtain ⟨q5, hq5⟩ : ∃ q, wr.heap.size = q := ⟨_, rfl⟩
      have hal := heap_alloc_new wr (.cells #[.string s1, .string s2] 63)
      have hsp2 : Spares nowhere wr (wr.alloc (.cells #[.string s1, .string s2] 63)) := (Spares.refl _ _).alloc _
      obtain ⟨w2, hw2⟩ : ∃ w2, wr.alloc (.cells #[.string s1, .string s2] 63) = w2 := ⟨_, rfl⟩
      rw [hq5, hw2] at hal
      rw [hw2] at hsp2
      rw [hq5, hw2]
      obtain ⟨D, hD⟩ : ∃ D, d ++ numF n ++ (fs.take k).flatMap fieldF = D := ⟨_, rfl⟩
      have hDl : D.length ≤ 3000000000000 := by
        rw [← hD, List.length_append, List.length_append]
        have h1 := numF_len n
        have h2 := HFL.out
        have h3 : (fs.take k).length ≤ 1000000 := by rw [List.length_take]; omega
        omega
      rw [hD] at HW
      obtain ⟨l1, hl1⟩ : ∃ l, s1.data.toList = l := ⟨_, rfl⟩
      obtain ⟨l2, hl2⟩ : ∃ l, s2.data.toList = l := ⟨_, rfl⟩
      have hz1 : l1.length ≤ 1000000 := by rw [← hl1, size_list]; exact hsk.1
      have hz2 : l2.length ≤ 1000000 := by rw [← hl2, size_list]; exact hsk.2
      have HNX2 : Hid (d ++ numF n ++ (fs.take (k + 1)).flatMap fieldF = (D ++ textF l1) ++ textF l2) := Lib.hid (by rw [HNX.out, hl1, hl2, ← hD]; simp only [List.append_assoc])
      have hF5 : ∀ g, F' g → g < q5 := fun g hg => by rw [← hq5]; exact HW.out.2.1 g hg
      have hq2 : q5 < w2.heap.size := (Array.getElem?_eq_some_iff.1 hal).1
      have HW2 := Lib.hid (HW.out.spares hsp2 (fun _ _ h => h))
      have HM2 := Lib.hid (HM.out.trans (Moved.new hsp2))
      have HAL := Lib.hid hal
      have HF5 := Lib.hid hF5
      have hc2 : w2.cell? ⟨q5, 0, none⟩ = some (.string s1) := by rw [Lib.cell_of_heap hal]; rfl
      clear hc0 hc1 hal hsp2 hw2 hD hF5 hq5
      go_wp2_with ((with_reducible show wpList _ _ _ (⟨some 20, _, _, _, _, _⟩ :: _) _ _); refine wpList_conv_str rfl (.tmp 19) rfl s1 l1 hl1 rfl ?_; intro c3 w3 hb3 hs3; have HB3 := Lib.hid hb3; have HS3 := Lib.hid hs3; clear hb3 hs3)
      have HT1 := Lib.hid (wText_any F' p D l1 (some ⟨w2.heap.size, 0, none⟩) c3 w3 (HW2.out.spares HS3.out (fun _ _ h => h)) HB3.out (fun e => by cases e) (fun _ b o e hf => by cases e; have := HF5.out _ hf; omega) (by omega) (by omega))
      refine HT1.out.mono ?_
      rintro e w4 ⟨rfl, F2, hw4, hm4⟩
      have hal4 : w4.heap[q5]? = some (.cells #[.string s1, .string s2] 63 (0, 0)) := hm4.1.heap (HS3.out.heap HAL.out (fun h => h)) (fun hf => by have := HF5.out _ hf; omega)
      have hc4 : w4.cell? ⟨q5, 1, none⟩ = some (.string s2) := by rw [Lib.cell_of_heap hal4]; rfl
      have HW4 := Lib.hid hw4
      have HM4 := Lib.hid ((HM2.out.trans (Moved.new HS3.out)).trans hm4)
      clear hw4 hm4 hc2 hal4 HT1 HW2 HM2 HB3
      go_wp2_with ((with_reducible show wpList _ _ _ (⟨some 25, _, _, _, _, _⟩ :: _) _ _); refine wpList_conv_str rfl (.tmp 24) rfl s2 l2 hl2 rfl ?_; intro c5 w5 hb5 hs5; have HB5 := Lib.hid hb5; have HS5 := Lib.hid hs5; clear hb5 hs5)
      have HT2 := Lib.hid (wText_any F2 p (D ++ textF l1) l2 (some ⟨w4.heap.size, 0, none⟩) c5 w5 (HW4.out.spares HS5.out (fun _ _ h => h)) HB5.out (fun e => by cases e) (fun _ b o e hf => by cases e; have := HW4.out.2.1 _ hf; omega) (by have := textF_len l1; rw [List.length_append]; omega) (by omega))
      refine HT2.out.mono ?_
      rintro e w6 ⟨rfl, F3, hw6, hm6⟩
      have HW6 : Hid (IsW F3 p (d ++ numF n ++ (fs.take (k + 1)).flatMap fieldF) w6) := Lib.hid (by rw [HNX2.out]; exact hw6)
      have HM6 := Lib.hid ((HM4.out.trans (Moved.new HS5.out)).trans hm6)
      clear hw6 hm6 hc4 HT2 HW4 HM4 HB5
      go_wp2
      go_roundw
      case rel => exact ⟨k + 1, F3, by omega, by go_num, HW6, HM6⟩
      case measure => simp [intOf]; omega
    · obtain rfl : k = n := by omega
      have HE : Hid (IsW F' p (d ++ fieldsF fs) wr) := Lib.hid (by
        have := HW.out
        rw [List.take_of_length_le (by have := HN.out; omega), HN.out, List.append_assoc] at this
        exact this)
      go_wp2
      go_end0
      exact ⟨rfl, F', HE.out, HM.out⟩
end Go.Proofs.YtekdkaiammebnaaDoor
