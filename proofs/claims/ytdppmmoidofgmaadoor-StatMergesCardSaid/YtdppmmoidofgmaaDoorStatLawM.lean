/-
  The law of merges: its walk.
-/
import Derived.Test.YtdppmmoidofgmaaDoorStatLawC
import Derived.Test.YtdppmmoidofgmaaDoorStatMergeP
import Derived.Test.YtdppmmoidofgmaaDoorStatMergeR
namespace Go.Proofs.YtdppmmoidofgmaaDoor
open Go.RowKit

/-- Four counters under way: two of the program's, two of the reference's. -/
structure Four (n B : Nat) (L1 L2 R1 R2 : Cs) (w0 w : World) : Prop where
  p1 : IsStat n L1 w
  p2 : IsStat (n + 1) L2 w
  r1 : IsRef (n + 2) R1 w
  r2 : IsRef (n + 3) R2 w
  below : Below B w0 w
theorem stay {t : TypeId} {p q : Nat} {L : Cs} {w w' : World} (h : StatAt t p L w) (hs : Spares (fun b => b = q) w w') (hne : p ≠ q) : StatAt t p L w' := (hs.block p h.lt hne).trans h
section
variable {n B : Nat} {L1 L2 R1 R2 X : Cs} {w0 w w' : World}
theorem Four.s1 (h : Four n B L1 L2 R1 R2 w0 w) (hB : B ≤ n) (hx : IsStat n X w') (hs : Spares (fun b => b = n) w w') : Four n B X L2 R1 R2 w0 w' :=
  ⟨hx, stay h.p2 hs (by omega), stay h.r1 hs (by omega), stay h.r2 hs (by omega), h.below.trans (hs.below (by have := h.p1.lt; omega) (fun k hk e => by omega))⟩
theorem Four.s2 (h : Four n B L1 L2 R1 R2 w0 w) (hB : B ≤ n) (hx : IsStat (n + 1) X w') (hs : Spares (fun b => b = n + 1) w w') : Four n B L1 X R1 R2 w0 w' :=
  ⟨stay h.p1 hs (by omega), hx, stay h.r1 hs (by omega), stay h.r2 hs (by omega), h.below.trans (hs.below (by have := h.p1.lt; omega) (fun k hk e => by omega))⟩
theorem Four.s3 (h : Four n B L1 L2 R1 R2 w0 w) (hB : B ≤ n) (hx : IsRef (n + 2) X w') (hs : Spares (fun b => b = n + 2) w w') : Four n B L1 L2 X R2 w0 w' :=
  ⟨stay h.p1 hs (by omega), stay h.p2 hs (by omega), hx, stay h.r2 hs (by omega), h.below.trans (hs.below (by have := h.p1.lt; omega) (fun k hk e => by omega))⟩
theorem Four.s4 (h : Four n B L1 L2 R1 R2 w0 w) (hB : B ≤ n) (hx : IsRef (n + 3) X w') (hs : Spares (fun b => b = n + 3) w w') : Four n B L1 L2 R1 X w0 w' :=
  ⟨stay h.p1 hs (by omega), stay h.p2 hs (by omega), stay h.r1 hs (by omega), hx, h.below.trans (hs.below (by have := h.p1.lt; omega) (fun k hk e => by omega))⟩
theorem Four.bel (h : Four n B L1 L2 R1 R2 w0 w) (hB : B ≤ n) (hb : Below w.heap.size w w') : Four n B L1 L2 R1 R2 w0 w' :=
  ⟨h.p1.below hb, h.p2.below hb, h.r1.below hb, h.r2.below hb, h.below.trans (hb.mono (by have := h.p1.lt; omega))⟩
theorem Four.off {m : Nat} (h : Four n B L1 L2 R1 R2 w0 w) (hB : B ≤ n) (hm : n + 3 < m) (hs : Spares (fun b => b = m) w w') : Four n B L1 L2 R1 R2 w0 w' :=
  ⟨stay h.p1 hs (by omega), stay h.p2 hs (by omega), stay h.r1 hs (by omega), stay h.r2 hs (by omega), h.below.trans (hs.below (by have := h.p1.lt; omega) (fun k hk e => by omega))⟩
end
theorem merge_comm {A C : Cs} (ha : A.length = 45) (hc : C.length = 45) : mergeF A C = mergeF C A :=
  cs_ext (mergeF_len ha hc) (mergeF_len hc ha) fun k => by rw [gI_merge ha hc, gI_merge hc ha]; omega
theorem merge_zero {A : Cs} (ha : A.length = 45) : mergeF zeroC A = A :=
  cs_ext (mergeF_len rfl ha) ha fun k => by
    rw [gI_merge rfl ha]
    have := zero_fair.pos k
    omega
set_option maxRecDepth 100000 in
set_option maxHeartbeats 16000000 in
theorem merges_law (a a' : Option Addr) (n c n' c' : Nat) (l l' : List ActL) (w : World) (hn : l.length = n) (ha : ActsAt w a l) (hn' : l'.length = n') (ha' : ActsAt w a' l') (ht : TabW w) :
    Calls Tryd.prog 4 #[.slice a n c, .slice a' n' c'] w fun e w' => e = .returned (.bool true) ∧ Below w.heap.size w w' := by
  have HT := Lib.hid ht
  have HA := Lib.hid ha
  have HA' := Lib.hid ha'
  clear ht ha ha'
  go_enter Tryd.func4, Tryd.ntmps4
  go_wp2_with fail
  refine (known_any _ HT.out).mono ?_
  rintro e w1 ⟨rfl, hb1⟩
  by_cases h50 : 50 < n
  · have h50i : (50 : Int) < (n : Int) := by omega
    go_wp2
    go_ret
    exact ⟨rfl, hb1⟩
  have hn1 : ¬ ((50 : Int) < (n : Int)) := by omega
  by_cases h50' : 50 < n'
  · have h50i : (50 : Int) < (n' : Int) := by omega
    go_wp2
    go_ret
    exact ⟨rfl, hb1⟩
  have hn1' : ¬ ((50 : Int) < (n' : Int)) := by omega
  have HB1 := Lib.hid hb1
  clear hb1
  go_wp2_with fail
  refine (new_any _).mono ?_
  rintro e w2 ⟨rfl, rfl⟩
  obtain ⟨p, hp⟩ : ∃ p, w1.heap.size = p := ⟨_, rfl⟩
  have hwp : w.heap.size ≤ p := by rw [← hp]; exact HB1.out.size
  have h2 := alloc_stat 56 w1
  have hb2 : Below w.heap.size w (w1.alloc (.cells zeroA 56)) := HB1.out.trans (((Spares.refl nowhere w1).alloc _).below0.mono (by omega))
  have hz2 : (w1.alloc (.cells zeroA 56)).heap.size = p + 1 := by simp [hp]
  rw [hp] at h2 ⊢
  obtain ⟨w2, hw2⟩ : ∃ w2, w1.alloc (.cells zeroA 56) = w2 := ⟨_, rfl⟩
  rw [hw2] at h2 hb2 hz2 ⊢
  go_wp2_with fail
  refine (new_any _).mono ?_
  rintro e w3 ⟨rfl, rfl⟩
  have h3 := alloc_stat 56 w2
  have h2' : IsStat p zeroC (w2.alloc (.cells zeroA 56)) := (Below.heap_alloc _ _ _ (by omega)).trans h2
  have hb3 : Below w.heap.size w (w2.alloc (.cells zeroA 56)) := hb2.trans (((Spares.refl nowhere w2).alloc _).below0.mono (by omega))
  have hz3 : (w2.alloc (.cells zeroA 56)).heap.size = p + 2 := by simp [hz2]
  rw [hz2] at h3 ⊢
  obtain ⟨w3, hw3⟩ : ∃ w3, w2.alloc (.cells zeroA 56) = w3 := ⟨_, rfl⟩
  rw [hw3] at h3 h2' hb3 hz3 ⊢
  have h4 := alloc_stat 30 w3
  have hz4 : (w3.alloc (.cells zeroA 30)).heap.size = p + 3 := by simp [hz3]
  have h5 := alloc_stat 30 (w3.alloc (.cells zeroA 30))
  rw [hz3] at h4
  rw [hz4] at h5
  have hF : Four p w.heap.size (cntA (l.take 0)) (cntA (l'.take 0)) (cntA (l.take 0)) (cntA (l'.take 0)) w ((w3.alloc (.cells zeroA 30)).alloc (.cells zeroA 30)) :=
    ⟨(Below.heap_alloc _ _ _ (by omega)).trans ((Below.heap_alloc _ _ _ (by omega)).trans h2'), (Below.heap_alloc _ _ _ (by omega)).trans ((Below.heap_alloc _ _ _ (by omega)).trans h3), (Below.heap_alloc _ _ _ (by omega)).trans h4, h5, (hb3.trans (((Spares.refl nowhere w3).alloc _).below0.mono (by omega))).trans (((Spares.refl nowhere _).alloc _).below0.mono (by omega))⟩
  have HF0 := Lib.hid hF
  clear h2 h2' h3 h4 h5 hb2 hb3 hF hw2 hw3
  go_wp2_with (first | (refine wpList_buildTo rfl 30 _ rfl (some 25) rfl zeroA built_ref ?_) | (refine wpList_buildTo rfl 30 _ rfl (some 27) rfl zeroA built_ref ?_) | (refine Go.Great.wpList_boxTo rfl 30 _ rfl (some 26) rfl (p + 2) hz3 zeroA zeroA_cells' ?_) | (refine Go.Great.wpList_boxTo rfl 30 _ rfl (some 28) rfl (p + 3) hz4 zeroA zeroA_cells' ?_))
  go_loopw [9] (fun i wr => ∃ k : Nat, k ≤ n ∧ i = .int .i64 k ∧ Four p w.heap.size (cntA (l.take k)) (cntA (l'.take 0)) (cntA (l.take k)) (cntA (l'.take 0)) w wr) (fun i _ => n - (intOf i).toNat)
  case atStart => exact ⟨0, by omega, rfl, HF0.out⟩
  case round =>
    obtain ⟨k, hk, rfl, hpr⟩ := hrel
    have HPr := Lib.hid hpr
    have hbs := hpr.below.size
    clear hpr
    by_cases hlt : k < n
    · have hltI : (k : Int) < (n : Int) := by omega
      have hkz : k < l.length := by omega
      obtain ⟨b, off, rfl, c0, c1, c2, hz⟩ := (HA.out.below HPr.out.below) k hkz
      have HC := Lib.hid (cntA_take l k hkz)
      obtain ⟨⟨x0, x1, x2⟩, hx⟩ : ∃ x, l[k] = x := ⟨_, rfl⟩
      rw [hx] at c0 c1 c2 hz HC
      simp only at c0 c1 c2
      have hfa := Lib.hid (cntA_fair l k (by omega))
      have hfm : (k : Int) * 1073741827 + 1073741827 ≤ 9223372036854775807 := by omega
      have CA : Hid (Calls Tryd.prog 8 #[.pointer (some ⟨p, 0, none⟩), .int .i64 x0, .int .i64 x1, .int .i64 x2] wr.drew (AddPost (p) (addF (cntA (l.take k)) x0 x1 x2) wr.drew)) := Lib.hid (add_any (p) (cntA (l.take k)) x0 x1 x2 _ wr.drew HPr.out.p1 hfa.out hfm hz)
      have HM0 : Hid (∀ w3, IsStat (p) (addF (cntA (l.take k)) x0 x1 x2) w3 → Spares (fun b => b = p) wr.drew w3 → Four p w.heap.size (addF (cntA (l.take k)) x0 x1 x2) (cntA (l'.take 0)) (cntA (l.take k)) (cntA (l'.take 0)) w w3) := Lib.hid (fun w3 h3 hs3 => HPr.out.s1 hwp h3 ((Spares.refl (fun b => b = p) wr).drew.trans hs3))
      go_wp2
      go_cut [] (fun wx => Hid (Four p w.heap.size (addF (cntA (l.take k)) x0 x1 x2) (cntA (l'.take 0)) (cntA (l.take k)) (cntA (l'.take 0)) w wx))
      case first =>
        go_region_with ((go_at_call 8; refine CA.out.mono ?_; rintro e w3 ⟨rfl, h3, hs3⟩))
        all_goals
          go_wp2_with fail
          go_meet
          exact Lib.hid (HM0.out w3 h3 hs3)
      case rest =>
        have HMID := hcut
        clear CA c0 c1 c2 hcut HM0
        obtain ⟨b', off', hbe, c0, c1, c2, _⟩ := (HA.out.below HMID.out.below) k hkz
        injection hbe with hbe
        injection hbe with hb1 hb2
        subst hb1 hb2
        rw [hx] at c0 c1 c2
        simp only at c0 c1 c2
        have CA : Hid (Calls Tryd.prog 9 #[.pointer (some ⟨p + 2, 0, none⟩), .int .i64 x0, .int .i64 x1, .int .i64 x2] wc.drew (RefPost (p + 2) (addF (cntA (l.take k)) x0 x1 x2) wc.drew)) := Lib.hid (refAdd_any (p + 2) (cntA (l.take k)) x0 x1 x2 _ wc.drew HMID.out.r1 hfa.out hfm hz)
        have HM0 : Hid (∀ w3, IsRef (p + 2) (addF (cntA (l.take k)) x0 x1 x2) w3 → Spares (fun b => b = p + 2) wc.drew w3 → Four p w.heap.size (cntA (l.take (k + 1))) (cntA (l'.take 0)) (cntA (l.take (k + 1))) (cntA (l'.take 0)) w w3) := Lib.hid (fun w3 h3 hs3 => by
          rw [HC.out]
          exact HMID.out.s3 hwp h3 ((Spares.refl (fun b => b = p + 2) wc).drew.trans hs3))
        go_wp2
        go_region_with ((go_at_call 9; refine CA.out.mono ?_; rintro e w3 ⟨rfl, h3, hs3⟩))
        all_goals
          have HNX := Lib.hid (HM0.out w3 h3 hs3)
          clear h3 hs3
          go_wp2
          go_roundw
          case rel => exact ⟨k + 1, by omega, by go_num, HNX.out⟩
          case measure => simp [intOf]; omega
    · have hkn : ¬ ((k : Int) < (n : Int)) := by omega
      have H1 : Hid (Four p w.heap.size (cntA l) (cntA (l'.take 0)) (cntA l) (cntA (l'.take 0)) w wr) := Lib.hid (by have := HPr.out; rw [show l.take k = l from List.take_of_length_le (by omega)] at this; exact this)
      clear HPr
      go_wp2
      go_loopw [10] (fun i wr => ∃ k : Nat, k ≤ n' ∧ i = .int .i64 k ∧ Four p w.heap.size (cntA l) (cntA (l'.take k)) (cntA l) (cntA (l'.take k)) w wr) (fun i _ => n' - (intOf i).toNat)
      case atStart => exact ⟨0, by omega, rfl, H1.out⟩
      case round =>
        obtain ⟨k, hk, rfl, hpr⟩ := hrel
        have HPr := Lib.hid hpr
        have hbs := hpr.below.size
        clear hpr
        by_cases hlt : k < n'
        · have hltI : (k : Int) < (n' : Int) := by omega
          have hkz : k < l'.length := by omega
          obtain ⟨b, off, rfl, c0, c1, c2, hz⟩ := (HA'.out.below HPr.out.below) k hkz
          have HC := Lib.hid (cntA_take l' k hkz)
          obtain ⟨⟨x0, x1, x2⟩, hx⟩ : ∃ x, l'[k] = x := ⟨_, rfl⟩
          rw [hx] at c0 c1 c2 hz HC
          simp only at c0 c1 c2
          have hfa := Lib.hid (cntA_fair l' k (by omega))
          have hfm : (k : Int) * 1073741827 + 1073741827 ≤ 9223372036854775807 := by omega
          have CA : Hid (Calls Tryd.prog 8 #[.pointer (some ⟨p + 1, 0, none⟩), .int .i64 x0, .int .i64 x1, .int .i64 x2] wr.drew (AddPost (p + 1) (addF (cntA (l'.take k)) x0 x1 x2) wr.drew)) := Lib.hid (add_any (p + 1) (cntA (l'.take k)) x0 x1 x2 _ wr.drew HPr.out.p2 hfa.out hfm hz)
          have HM0 : Hid (∀ w3, IsStat (p + 1) (addF (cntA (l'.take k)) x0 x1 x2) w3 → Spares (fun b => b = p + 1) wr.drew w3 → Four p w.heap.size (cntA l) (addF (cntA (l'.take k)) x0 x1 x2) (cntA l) (cntA (l'.take k)) w w3) := Lib.hid (fun w3 h3 hs3 => HPr.out.s2 hwp h3 ((Spares.refl (fun b => b = p + 1) wr).drew.trans hs3))
          go_wp2
          go_cut [] (fun wx => Hid (Four p w.heap.size (cntA l) (addF (cntA (l'.take k)) x0 x1 x2) (cntA l) (cntA (l'.take k)) w wx))
          case first =>
            go_region_with ((go_at_call 8; refine CA.out.mono ?_; rintro e w3 ⟨rfl, h3, hs3⟩))
            all_goals
              go_wp2_with fail
              go_meet
              exact Lib.hid (HM0.out w3 h3 hs3)
          case rest =>
            have HMID := hcut
            clear CA c0 c1 c2 hcut HM0
            obtain ⟨b', off', hbe, c0, c1, c2, _⟩ := (HA'.out.below HMID.out.below) k hkz
            injection hbe with hbe
            injection hbe with hb1 hb2
            subst hb1 hb2
            rw [hx] at c0 c1 c2
            simp only at c0 c1 c2
            have CA : Hid (Calls Tryd.prog 9 #[.pointer (some ⟨p + 3, 0, none⟩), .int .i64 x0, .int .i64 x1, .int .i64 x2] wc.drew (RefPost (p + 3) (addF (cntA (l'.take k)) x0 x1 x2) wc.drew)) := Lib.hid (refAdd_any (p + 3) (cntA (l'.take k)) x0 x1 x2 _ wc.drew HMID.out.r2 hfa.out hfm hz)
            have HM0 : Hid (∀ w3, IsRef (p + 3) (addF (cntA (l'.take k)) x0 x1 x2) w3 → Spares (fun b => b = p + 3) wc.drew w3 → Four p w.heap.size (cntA l) (cntA (l'.take (k + 1))) (cntA l) (cntA (l'.take (k + 1))) w w3) := Lib.hid (fun w3 h3 hs3 => by
              rw [HC.out]
              exact HMID.out.s4 hwp h3 ((Spares.refl (fun b => b = p + 3) wc).drew.trans hs3))
            go_wp2
            go_region_with ((go_at_call 9; refine CA.out.mono ?_; rintro e w3 ⟨rfl, h3, hs3⟩))
            all_goals
              have HNX := Lib.hid (HM0.out w3 h3 hs3)
              clear h3 hs3
              go_wp2
              go_roundw
              case rel => exact ⟨k + 1, by omega, by go_num, HNX.out⟩
              case measure => simp [intOf]; omega
        · have hkn : ¬ ((k : Int) < (n' : Int)) := by omega
          have HG : Hid (Four p w.heap.size (cntA l) (cntA l') (cntA l) (cntA l') w wr) := Lib.hid (by have := HPr.out; rw [show l'.take k = l' from List.take_of_length_le (by omega)] at this; exact this)
          clear HPr
          have hbz := HG.out.below.size
          obtain ⟨A, hA⟩ : ∃ A, cntA l = A := ⟨_, rfl⟩
          obtain ⟨C, hC⟩ : ∃ C, cntA l' = C := ⟨_, rfl⟩
          have fa : Fair A 53687091350 := by rw [← hA]; have := cntA_fair l n (by omega); rw [List.take_of_length_le (by omega)] at this; exact this.mono (by omega)
          have fc : Fair C 53687091350 := by rw [← hC]; have := cntA_fair l' n' (by omega); rw [List.take_of_length_le (by omega)] at this; exact this.mono (by omega)
          rw [hA, hC] at HG
          have FA := Lib.hid fa
          have FC := Lib.hid fc
          have FX := Lib.hid (fa.merge fc)
          have e1 := Lib.hid (merge_zero fa.len)
          have e2 := Lib.hid (merge_zero fc.len)
          have e3 := Lib.hid (merge_comm fc.len fa.len)
          clear fa fc
          go_wp2_with fail
          refine (new_any _).mono ?_
          rintro e v1 ⟨rfl, rfl⟩
          obtain ⟨m, hm⟩ : ∃ m, wr.heap.size = m := ⟨_, rfl⟩
          have hpm : p + 3 < m := by have := HG.out.r2.lt; omega
          have g1 := alloc_stat 56 wr
          have z1 : (wr.alloc (.cells zeroA 56)).heap.size = m + 1 := by simp [hm]
          have F1 := HG.out.bel hwp (((Spares.refl nowhere wr).alloc (.cells zeroA 56)).below0)
          rw [hm] at g1 ⊢
          obtain ⟨v1, hv1⟩ : ∃ v1, wr.alloc (.cells zeroA 56) = v1 := ⟨_, rfl⟩
          rw [hv1] at g1 z1 F1 ⊢
          have g2 := alloc_stat 30 v1
          have F2 := Lib.hid (F1.bel hwp (((Spares.refl nowhere v1).alloc (.cells zeroA 30)).below0))
          have P2 : Hid (IsStat m zeroC (v1.alloc (.cells zeroA 30))) := Lib.hid ((Below.heap_alloc _ _ _ (by omega)).trans g1)
          rw [z1] at g2
          have R2 := Lib.hid g2
          obtain ⟨v2, hv2⟩ : ∃ v2, v1.alloc (.cells zeroA 30) = v2 := ⟨_, rfl⟩
          rw [hv2] at F2 P2 R2
          have HV2 := Lib.hid hv2
          clear g1 g2 F1 hv1 hv2
          go_wp2_with (first | (refine wpList_buildTo rfl 30 _ rfl (some 110) rfl zeroA built_ref ?_) | (refine Go.Great.wpList_boxTo rfl 30 _ rfl (some 111) rfl (m + 1) z1 zeroA zeroA_cells' ?_; rw [HV2.out]) | fail)
          refine (merge_any m (p + 1) zeroC C 0 53687091350 v2 P2.out F2.out.p2 zero_fair FC.out (by decide)).mono ?_
          rintro e v3 ⟨rfl, h3, s3⟩
          rw [e2.out] at h3
          have F3 := Lib.hid (F2.out.off hwp hpm s3)
          have P3 := Lib.hid h3
          have R3 := Lib.hid (stay R2.out s3 (by omega))
          clear h3 s3
          go_wp2_with fail
          refine (merge_any m p C A 53687091350 53687091350 v3 P3.out F3.out.p1 FC.out FA.out (by decide)).mono ?_
          rintro e v4 ⟨rfl, h4, s4⟩
          rw [e3.out] at h4
          have F4 := Lib.hid (F3.out.off hwp hpm s4)
          have P4 := Lib.hid h4
          have R4 := Lib.hid (stay R3.out s4 (by omega))
          clear h4 s4
          go_wp2_with fail
          refine (refMerge_any (m + 1) (p + 2) zeroC A 0 53687091350 v4 R4.out F4.out.r1 zero_fair FA.out (by decide)).mono ?_
          rintro e v5 ⟨rfl, h5, s5⟩
          rw [e1.out] at h5
          have F5 := Lib.hid (F4.out.off hwp (by omega) s5)
          have R5 := Lib.hid h5
          have P5 := Lib.hid (stay P4.out s5 (by omega))
          clear h5 s5
          go_wp2_with fail
          refine (refMerge_any (m + 1) (p + 3) A C 53687091350 53687091350 v5 R5.out F5.out.r2 FA.out FC.out (by decide)).mono ?_
          rintro e v6 ⟨rfl, h6, s6⟩
          have F6 := Lib.hid (F5.out.off hwp (by omega) s6)
          have R6 := Lib.hid h6
          have P6 := Lib.hid (stay P5.out s6 (by omega))
          clear h6 s6
          go_wp2_with fail
          refine (merge_any p (p + 1) A C 53687091350 53687091350 v6 F6.out.p1 F6.out.p2 FA.out FC.out (by decide)).mono ?_
          rintro e v7 ⟨rfl, h7, s7⟩
          have F7 := Lib.hid (F6.out.s1 hwp h7 s7)
          have R7 := Lib.hid (stay R6.out s7 (by omega))
          have P7 := Lib.hid (stay P6.out s7 (by omega))
          clear h7 s7
          obtain ⟨X, hX⟩ : ∃ X, mergeF A C = X := ⟨_, rfl⟩
          rw [hX] at FX F7 R7 P7
          go_wp2_with fail
          refine (alike_any p (m + 1) X _ v7 F7.out.p1 R7.out FX.out (by decide) (HT.out.below F7.out.below)).mono ?_
          rintro e v8 ⟨rfl, hb8⟩
          have F8 := Lib.hid (F7.out.bel hwp hb8)
          have R8 := Lib.hid (StatAt.below R7.out hb8)
          have P8 := Lib.hid (StatAt.below P7.out hb8)
          clear hb8
          go_wp2_with fail
          refine (alike_any m (m + 1) X _ v8 P8.out R8.out FX.out (by decide) (HT.out.below F8.out.below)).mono ?_
          rintro e v9 ⟨rfl, hb9⟩
          have F9 := Lib.hid (F8.out.bel hwp hb9)
          have R9 := Lib.hid (StatAt.below R8.out hb9)
          clear hb9
          go_wp2_with fail
          refine (alike_any (p + 1) (p + 3) C _ v9 F9.out.p2 F9.out.r2 FC.out (by decide) (HT.out.below F9.out.below)).mono ?_
          rintro e v10 ⟨rfl, hb10⟩
          have F10 := Lib.hid (F9.out.bel hwp hb10)
          have R10 := Lib.hid (StatAt.below R9.out hb10)
          clear hb10
          go_wp2_with fail
          refine (merge_any p p X X _ _ v10 F10.out.p1 F10.out.p1 FX.out FX.out (by decide)).mono ?_
          rintro e v11 ⟨rfl, h11, s11⟩
          have F11 := Lib.hid (F10.out.s1 hwp h11 s11)
          have R11 := Lib.hid (stay R10.out s11 (by omega))
          clear h11 s11
          go_wp2_with fail
          refine (refMerge_any (m + 1) (m + 1) X X _ _ v11 R11.out R11.out FX.out FX.out (by decide)).mono ?_
          rintro e v12 ⟨rfl, h12, s12⟩
          have F12 := Lib.hid (F11.out.off hwp (by omega) s12)
          have R12 := Lib.hid h12
          clear h12 s12
          have FXX := Lib.hid (FX.out.merge FX.out)
          go_wp2_with fail
          refine (alike_any p (m + 1) (mergeF X X) _ v12 F12.out.p1 R12.out FXX.out (by decide) (HT.out.below F12.out.below)).mono ?_
          rintro e v13 ⟨rfl, hb13⟩
          have F13 := Lib.hid (F12.out.bel hwp hb13)
          clear hb13
          go_wp2
          go_ret
          exact ⟨rfl, F13.out.below⟩
end Go.Proofs.YtdppmmoidofgmaaDoor
