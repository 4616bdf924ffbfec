/-
  chunk's reader: the trailers.
-/
import Derived.Test.YtkfnebpooohflaaDoorChunkLine
import Derived.Test.YtkfnebpooohflaaDoorChunkLength
import Derived.Test.YtkfnebpooohflaaDoorHeadParse
namespace Go.Proofs.YtkfnebpooohflaaDoor
open Go.RowKit HeadMath NormMath NormS HeadS ChunkMath

/-- A line that is a field. -/
def fieldB (t : Bs) : Bool := (fieldOf ⟨t.toArray⟩).isSome
theorem lineF_len {s t r : Bs} (h : lineF s = .ok (t, r)) : r.length + 2 ≤ s.length ∧ t.length ≤ s.length := by
  obtain ⟨u, h1, h2, h3, _⟩ := lineG_split s [] t r h
  have := congrArg List.length h1
  simp at this h3
  omega
def TrailPost (p : Nat) (a : Option Addr) (c : Nat) (b : Bs) (r : Except Nat Bs) (w : World) (e : Ending) (w' : World) : Prop := (match r with
  | .error n => e = FaultC n
  | .ok s => e = .returned (.tuple #[]) ∧ ∃ k, s = b.drop k ∧ IsR p a c b k w') ∧ Spares (fun x => x = p) w w'
theorem trailPost_error {p : Nat} {a : Option Addr} {c : Nat} {b : Bs} {r : Except Nat Bs} {w w' : World} {e : Ending} {n : Nat} (h : r = .error n) (he : e = FaultC n) (hs : Spares (fun x => x = p) w w') : TrailPost p a c b r w e w' := by subst h; exact ⟨he, hs⟩
theorem trailPost_ok {p : Nat} {a : Option Addr} {c k : Nat} {b s : Bs} {r : Except Nat Bs} {w w' : World} {e : Ending} (h : r = .ok s) (he : e = .returned (.tuple #[])) (h1 : s = b.drop k) (h2 : IsR p a c b k w') (hs : Spares (fun x => x = p) w w') : TrailPost p a c b r w e w' := by subst h; exact ⟨⟨he, k, h1, h2⟩, hs⟩
theorem one_line (T : ByteArray) (w : World) (hT : T.size ≤ 140737488351232) : Calls Tryd.prog 37 #[.slice (some ⟨w.heap.size, 0, none⟩) 1 1] (w.alloc (.cells #[.string T] 9)) fun e w' => (∃ v, e = .returned (.tuple #[v, .int .i64 (if (fieldOf T).isSome then 0 else 90)])) ∧ Spares nowhere w w' := by
  have hin : StrsIn (w.alloc (.cells #[.string T] 9)).heap.size (w.alloc (.cells #[.string T] 9)) (some ⟨w.heap.size, 0, none⟩) [T] := by
    intro j hj
    obtain rfl : j = 0 := by simpa using hj
    exact ⟨w.heap.size, 0, rfl, by simp, (Lib.cell_of_heap (heap_alloc_new w _) 0).trans rfl⟩
  refine (parse_some [T] (some ⟨w.heap.size, 0, none⟩) 1 _ hin (fun j hj => by obtain rfl : j = 0 := by simpa using hj
                                                                               exact hT) (show 1 ≤ _ by decide)).mono ?_
  rintro e w' ⟨hb, ⟨h, _⟩ | ⟨_, h1, rfl⟩ | ⟨_, fs, v, h1, rfl, _⟩⟩
  · simp at h
  · refine ⟨⟨.slice none 0 0, ?_⟩, ((Spares.refl nowhere w).alloc _).trans (Below.spares hb (fun k hk => .inr hk))⟩
    have : (fieldOf T).isSome = false := by
      unfold parseF at h1
      cases hf : fieldOf T with
      | none => rfl
      | some f => rw [hf] at h1; simp [parseF] at h1
    rw [this]; rfl
  · refine ⟨⟨v, ?_⟩, ((Spares.refl nowhere w).alloc _).trans (Below.spares hb (fun k hk => .inr hk))⟩
    have : (fieldOf T).isSome = true := by
      unfold parseF at h1
      cases hf : fieldOf T with
      | none => rw [hf] at h1; cases h1
      | some f => rfl
    rw [this]; rfl
theorem trailG_line {F : Bs → Bool} {f n : Nat} {s : Bs} {e : Nat} (h : lineF s = .error e) : trailG F (f + 1) n s = .error e := by rw [trailG, h]
theorem trailG_end {F : Bs → Bool} {f n : Nat} {s r : Bs} (h : lineF s = .ok ([], r)) : trailG F (f + 1) n s = .ok r := by rw [trailG, h]; rfl
theorem trailG_bad {F : Bs → Bool} {f n : Nat} {s t r : Bs} (h : lineF s = .ok (t, r)) (ht : t ≠ []) (hb : F t = false ∨ n = 100) : trailG F (f + 1) n s = .error 94 := by
  rw [trailG, h]; simp only; rw [if_neg ht, if_pos hb]
theorem trailG_on {F : Bs → Bool} {f n : Nat} {s t r : Bs} (h : lineF s = .ok (t, r)) (ht : t ≠ []) (hb : ¬ (F t = false ∨ n = 100)) : trailG F (f + 1) n s = trailG F f (n + 1) r := by
  rw [trailG, h]; simp only; rw [if_neg ht, if_neg hb]
set_option maxHeartbeats 8000000 in
theorem trail_any {p : Nat} {a : Option Addr} {c k : Nat} {b : Bs} {w : World} (h : IsR p a c b k w) : Calls Tryd.prog 24 #[.pointer (some ⟨p, 0, none⟩)] w (TrailPost p a c b (trailG fieldB ((b.drop k).length + 1) 0 (b.drop k)) w) := by
  have H := Lib.hid h
  have hplt : p < w.heap.size := (Array.getElem?_eq_some_iff.1 h.cells).1
  have hsz := h.size
  obtain ⟨R, hR⟩ : ∃ R, trailG fieldB ((b.drop k).length + 1) 0 (b.drop k) = R := ⟨_, rfl⟩
  rw [hR]
  have HR0 := Lib.hid hR.symm
  clear h hR
  go_enter Tryd.func24, Tryd.ntmps24
  go_wp2
  go_loopw [2] (fun i wr => ∃ n f j : Nat, n ≤ 100 ∧ i = .int .i64 n ∧ Hid (R = trailG fieldB f n (b.drop j) ∧ (b.drop j).length < f) ∧ Hid (IsR p a c b j wr) ∧ Hid (Spares (fun x => x = p) w wr)) (fun i _ => 101 - (intOf i).toNat)
  case atStart => exact ⟨0, _, k, by omega, rfl, Lib.hid ⟨HR0.out, Nat.lt_succ_self _⟩, H, Lib.hid (Spares.refl _ _)⟩
  case round =>
    obtain ⟨n, f, j, hn, rfl, HR, HI, HS⟩ := hrel
    obtain ⟨f, rfl⟩ : ∃ g, f = g + 1 := ⟨f - 1, by have := HR.out.2; omega⟩
    have cL := line_any HI.out
    cases hl : lineF (b.drop j) with
    | error x =>
      rw [hl] at cL
      unfold LinePost at cL
      have HE : Hid (R = .error x) := Lib.hid (HR.out.1.trans (trailG_line hl))
      clear hl
      go_wp2_with fail
      refine cL.mono ?_
      rintro e w1 ⟨rfl, hs⟩
      unfold FaultC
      go_wp2
      exact ⟨rfl, trailPost_error HE.out rfl (HS.out.trans (hs.mono (fun _ h => by cases h)))⟩
    | ok tr =>
      obtain ⟨t, r⟩ := tr
      rw [hl] at cL
      unfold LinePost at cL
      have hlen := lineF_len hl
      have htz : (⟨t.toArray⟩ : ByteArray).size ≤ 140737488351232 := by
        show t.toArray.size ≤ _
        have : (b.drop j).length ≤ b.length := by simp
        simp; omega
      have HL := Lib.hid hl
      clear hl
      go_wp2_with fail
      refine cL.mono ?_
      rintro e w1 ⟨rfl, j2, hj2, hi2, hs⟩
      have HI2 := Lib.hid hi2
      have HS2 := Lib.hid (HS.out.trans hs)
      have HJ := Lib.hid hj2
      clear hi2 hs hj2 cL
      cases t with
      | nil =>
        have HE : Hid (R = .ok r) := Lib.hid (HR.out.1.trans (trailG_end HL.out))
        have q1 : ((⟨([] : Bs).toArray⟩ : ByteArray).toList == []) = true := by rw [Lib.toList_data]; rfl
        have q2 : (⟨([] : Bs).toArray⟩ : ByteArray).toList.isEmpty = true := by rw [Lib.toList_data]; rfl
        go_wp2
        first | go_end0 | (simp only [Exit.inBlock, Exit.then]; refine bodyPost_ret (results_none rfl _ _ _) rfl ?_) | refine bodyPost_ret (results_none rfl _ _ _) rfl ?_
        exact trailPost_ok HE.out rfl HJ.out HI2.out HS2.out
      | cons x t =>
        obtain ⟨T, hT⟩ : ∃ T : ByteArray, (⟨(x :: t).toArray⟩ : ByteArray) = T := ⟨_, rfl⟩
        rw [hT] at htz ⊢
        have q1 : (T.toList == []) = false := by rw [Lib.toList_data, ← hT]; rfl
        have q2 : T.toList.isEmpty = false := by rw [Lib.toList_data, ← hT]; rfl
        have cP := one_line T w1 htz
        have hfb : fieldB (x :: t) = (fieldOf T).isSome := by unfold fieldB; rw [hT]
        have HLT := Lib.hid hlen
        clear hT hlen
        cases hf : (fieldOf T).isSome with
        | false =>
          rw [hf] at cP
          have HE : Hid (R = .error 94) := Lib.hid (HR.out.1.trans (trailG_bad HL.out (by simp) (.inl (hfb.trans hf))))
          clear hf hfb
          go_wp2_with fail
          refine cP.mono ?_
          rintro e w2 ⟨⟨v, rfl⟩, hs⟩
          have HS3 := Lib.hid (HS2.out.trans (hs.mono (fun _ h => by cases h)))
          clear hs cP
          go_wp2
          exact ⟨rfl, trailPost_error HE.out rfl HS3.out⟩
        | true =>
          rw [hf] at cP
          by_cases h100 : n = 100
          · have HE : Hid (R = .error 94) := Lib.hid (HR.out.1.trans (trailG_bad HL.out (by simp) (.inr h100)))
            have q3 : ((n : Int) == 100) = true := by rw [h100]; rfl
            clear hf hfb h100
            go_wp2_with fail
            refine cP.mono ?_
            rintro e w2 ⟨⟨v, rfl⟩, hs⟩
            have HS3 := Lib.hid (HS2.out.trans (hs.mono (fun _ h => by cases h)))
            clear hs cP
            go_wp2
            exact ⟨rfl, trailPost_error HE.out rfl HS3.out⟩
          · have hcond : ¬ (fieldB (x :: t) = false ∨ n = 100) := fun h => by
              rcases h with h | h
              · rw [hfb, hf] at h; cases h
              · exact h100 h
            have HE : Hid (R = trailG fieldB f (n + 1) (b.drop j2) ∧ (b.drop j2).length < f) := Lib.hid ⟨by rw [HR.out.1, trailG_on HL.out (by simp) hcond, HJ.out], by rw [← HJ.out]; have h1 := HR.out.2; have h2 := HLT.out; omega⟩
            clear hcond
            have q3 : ((n : Int) == 100) = false := by simpa using (by omega : ¬ (n : Int) = 100)
            clear hf hfb
            go_wp2_with fail
            refine cP.mono ?_
            rintro e w2 ⟨⟨v, rfl⟩, hs⟩
            have HS3 := Lib.hid (HS2.out.trans (hs.mono (fun _ h => by cases h)))
            have HI3 := Lib.hid (HI2.out.quiet hs)
            clear hs cP
            go_wp2
            go_roundw
            case rel => exact ⟨n + 1, f, j2, by omega, by go_num, HE, HI3, HS3⟩
            case measure => simp [intOf]; omega
end Go.Proofs.YtkfnebpooohflaaDoor
