/-
  CodeWrites.
-/
import Derived.Test.YtekdkaiammebnaaDoorCodeParts
import Derived.Test.YtekdkaiammebnaaDoorCodeFieldsAny
import Derived.Deep.RegionHeld3
namespace Go.Proofs.YtekdkaiammebnaaDoor
open Go.RowKit CodeMath CrcMath

/-- Behind k parts written, in both ways. -/
structure WroteP (w0 : World) (p : Nat) (ps : List PartF) (k : Nat) (v : Value) (F : Nat → Prop) (wr : World) : Prop where
  writer : IsW F p (partsF (ps.take k)) wr
  ref : OwnBytes wr v (partsF (ps.take k))
  since : Spares nowhere w0 wr
  fresh : ∀ g, F g → w0.heap.size ≤ g
  apart : ∀ g, v.ownBlock = some g → w0.heap.size ≤ g ∧ ¬ F g
theorem WroteP.next {w0 wr w1 w2 : World} {p k : Nat} {ps : List PartF} {v v' : Value} {F F' : Nat → Prop} {x : List UInt8} (h : WroteP w0 p ps k v F wr) (hx : partsF (ps.take (k + 1)) = partsF (ps.take k) ++ x)
    (hw : IsW F' p (partsF (ps.take k) ++ x) w1) (hm : Moved F wr F' w1) (ho : OwnBytes w2 v' (partsF (ps.take k) ++ x)) (ha : App v w1 v' w2) : WroteP w0 p ps (k + 1) v' F' w2 := by
  have hv : ∀ g, v.ownBlock = some g → w0.heap.size ≤ g ∧ ¬ F' g := fun g hg => ⟨(h.apart g hg).1, fun h3 => (hm.2 g h3).elim (h.apart g hg).2 (fun hge => by have := h.ref.lt g hg; omega)⟩
  rw [← hx] at hw ho
  refine ⟨hw.spares ha.1 (fun g hF hg => (hv g hg).2 hF), ho, ?_, ?_, ?_⟩
  · exact (h.since.trans' hm.1 (fun g hg => .inr (h.fresh g hg))).trans' ha.1 (fun g hg => .inr (hv g hg).1)
  · exact fun g hg => (hm.2 g hg).elim (h.fresh g) (fun hge => Nat.le_trans h.since.size hge)
  · intro g hg
    rcases ha.2 g hg with h1 | h1
    · exact hv g h1
    · refine ⟨?_, fun hF => ?_⟩
      · have := hm.1.size; have := h.since.size; omega
      · have := hw.2.1 g hF; omega

set_option maxRecDepth 100000 in
set_option maxHeartbeats 4000000 in
theorem writes_any (ps : List PT) (a : Option Addr) (cap n : Nat) (w : World) (hT : Steps w) (hin : PartsAt w a ps) (hn : n = ps.length) (hmax : ps.length ≤ maxLen) (hwide : ∀ j (h : j < ps.length), Wide ps[j]) :
    Calls Tryd.prog 3 #[.slice a n cap] w (Knows w) := by
  have HT := Lib.hid hT
  have HIN := Lib.hid hin
  have HWD := Lib.hid hwide
  have HN := Lib.hid hn
  have HMX := Lib.hid hmax
  have hn63 : n ≤ 9223372036854775807 := by unfold maxLen at hmax; omega
  clear hT hin hwide hn hmax
  go_enter Tryd.func3, Tryd.ntmps3
  go_wp2_with fail
  refine (known_any _ HT.out).mono ?_
  rintro e w1 ⟨rfl, hs1⟩
  have HS1 := Lib.hid hs1
  have HIN1 := Lib.hid (HIN.out.stay hs1)
  clear hs1
  go_wp2_with fail
  refine (lightParts_any ps a cap n w1 HIN1.out HN.out HMX.out HWD.out).mono ?_
  rintro e w2 ⟨lit, rfl, rfl, hlit⟩
  cases lit with
  | false =>
    go_wp2
    go_ret
    exact ⟨rfl, HS1.out⟩
  | true =>
  obtain ⟨h20, hli⟩ := hlit rfl
  have hn20 : n ≤ 20 := by rw [HN.out]; exact h20
  have HLI := Lib.hid hli
  have HLN := Lib.hid (partsOf_len ps hli)
  clear h20 hli hlit
  go_wp2_with fail
  refine (newWriter_any _).mono ?_
  rintro e w3 ⟨rfl, _, hw3, hs3⟩
  obtain ⟨p, hp⟩ : ∃ p, w2.heap.size = p := ⟨_, rfl⟩
  have HR0 : Hid (WroteP w2 p (partsOf ps) 0 (.slice none 0 0) (fun k => k = p) w3) := Lib.hid ⟨by rw [hp] at hw3; simpa [partsF] using hw3, by simpa [partsF] using ownBytes_nil w3, hs3, fun g hg => by omega, fun g hg => by cases hg⟩
  clear hw3 hs3
  rw [hp]
  have HP := Lib.hid hp
  clear hp
  go_wp2
  go_loopw [4, 5] (fun v i wr => ∃ (k : Nat) (F : Nat → Prop), k ≤ n ∧ i = .int .i64 k ∧ Hid (WroteP w2 p (partsOf ps) k v F wr)) (fun _ i _ => n - (intOf i).toNat)
  case atStart => exact ⟨0, _, by omega, rfl, HR0⟩
  clear HR0
  case round =>
    obtain ⟨k, F, hk, rfl, HR⟩ := hrel
    by_cases hlt : k < n
    · have hk2 : k < ps.length := by have := HN.out; omega
      have hk3 : k < (partsOf ps).length := by simpa [partsOf] using hk2
      obtain ⟨b, off, aB, cB, aL, cL, rfl, hc0, hc1, hc2, hc3, h4, h5, h6⟩ := (HIN1.out.stay HR.out.since) k hk2
      have hsz : b < w2.heap.size ∧ (0 < (ps[k]).b.length → ∀ b' o', aB = some ⟨b', o', none⟩ → b' < w2.heap.size) ∧ (0 < (ps[k]).l.length → ∀ b' o', aL = some ⟨b', o', none⟩ → b' < w2.heap.size) := by
        obtain ⟨b0, off0, aB0, cB0, aL0, cL0, e0, k0, _, k2, k3, k4, _, k6⟩ := HIN1.out k hk2
        injection e0 with e0
        injection e0 with e1 e2 _
        subst e1; subst e2
        have hs := HR.out.since
        have hb := cell_lt k0
        have e2 := (hs.cell (p := ⟨b, off + k * 4 + 2, none⟩) hb (fun h => h)).trans k2
        have e3 := (hs.cell (p := ⟨b, off + k * 4 + 3, none⟩) hb (fun h => h)).trans k3
        rw [hc2] at e2
        rw [hc3] at e3
        injection e2 with e2
        injection e2 with e2 _ _
        injection e3 with e3
        injection e3 with e3 _ _
        subst e2; subst e3
        refine ⟨hb, fun h0 b' o' e => ?_, fun h0 b' o' e => ?_⟩
        · obtain ⟨b2, o2, e2, hlt2⟩ := k4.lt h0
          rw [e] at e2; cases e2; exact hlt2
        · obtain ⟨b2, o2, e2, hlt2⟩ := k6.lt h0
          rw [e] at e2; cases e2; exact hlt2
      have hq4 : (ps[k]).light := HLI.out _ (List.getElem_mem hk2)
      have hnx := partsF_take hk3
      have hpk : (partsOf ps)[k] = (ps[k]).part := by simp [partsOf]
      rw [hpk] at hnx
      have hdl : (partsF ((partsOf ps).take k)).length ≤ 80000 := by
        have h1 := partsOf_len (ps.take k) (fun p hp => HLI.out p (List.mem_of_mem_take hp))
        have e : partsOf (ps.take k) = (partsOf ps).take k := by simp [partsOf, List.map_take]
        rw [e, List.length_take] at h1
        omega
      obtain ⟨q, hq⟩ : ∃ q, ps[k] = q := ⟨_, rfl⟩
      rw [hq] at hc0 hc1 hc2 hc3 h4 h6 hsz hq4 hnx
      obtain ⟨D, hD⟩ : ∃ D, partsF ((partsOf ps).take k) = D := ⟨_, rfl⟩
      have HNX := Lib.hid hnx
      have HW := Lib.hid HR.out.writer
      have HO := Lib.hid HR.out.ref
      rw [hD] at hdl HW HO
      have HD := Lib.hid hD
      have HQ4 := Lib.hid hq4
      have HSZ := Lib.hid hsz
      have H4 := Lib.hid h4
      have H5 := Lib.hid h5
      have H6 := Lib.hid h6
      obtain ⟨x, hx⟩ : ∃ x, q.what.toNat = x := ⟨_, rfl⟩
      have hx256 : x < 256 := by rw [← hx]; exact q.what.toNat_lt
      obtain ⟨N, hN⟩ : ∃ N, q.n = N := ⟨_, rfl⟩
      obtain ⟨bl, hbl⟩ : ∃ m, q.b.length = m := ⟨_, rfl⟩
      obtain ⟨ll, hll⟩ : ∃ m, q.l.length = m := ⟨_, rfl⟩
      have HX := Lib.hid hx
      have HNN := Lib.hid hN
      have HBL := Lib.hid hbl
      have HLL := Lib.hid hll
      have hbl2 : bl ≤ 200 := by rw [← hbl]; exact hq4.2.1
      have hll2 : ll ≤ 6 := by rw [← hll]; exact hq4.2.2.1
      rw [hx] at hc0
      rw [hN] at hc1
      rw [hbl] at hc2
      rw [hll] at hc3
      have j1 : (k : Int) < (n : Int) := by omega
      have HC := Lib.hid (show ∀ wz, Spares F wr wz → wz.cell? ⟨b, off + k * 4 + 1, none⟩ = some (.int .u64 N) ∧ wz.cell? ⟨b, off + k * 4 + 2, none⟩ = some (.slice aB bl cB) ∧ wz.cell? ⟨b, off + k * 4 + 3, none⟩ = some (.slice aL ll cL) from fun wz hs => by
        have hb := cell_lt hc0
        have hF : ¬ F b := fun hF => by have := HR.out.fresh b hF; have := hsz.1; omega
        exact ⟨(hs.cell (p := ⟨b, off + k * 4 + 1, none⟩) hb hF).trans hc1, (hs.cell (p := ⟨b, off + k * 4 + 2, none⟩) hb hF).trans hc2, (hs.cell (p := ⟨b, off + k * 4 + 3, none⟩) hb hF).trans hc3⟩)
      have HFA := Lib.hid (show ∀ g, u4.ownBlock = some g → ¬ F g from fun g hg => (HR.out.apart g hg).2)
      have HFS := Lib.hid HR.out.fresh
      have HAP := Lib.hid HR.out.apart
      clear hnx hpk hq hD hq4 hsz h4 h5 h6 hx hN hbl hll hk2 hk3
      -- the own row stands behind the Writer's call
      have HOS := Lib.hid (show ∀ F' wz, Moved F wr F' wz → OwnBytes wz u4 D from fun F' wz hm => HO.out.spares hm.1 HFA.out)
      rcases (show x % 3 = 0 ∨ x % 3 = 1 ∨ x % 3 = 2 by omega) with h3 | h3 | h3
      · have g3 : (x : Int) % 3 = 0 := by omega
        have HB : Hid (q.part.bytes = numF N) := Lib.hid (by unfold PT.part; rw [HX.out, if_pos h3, HNN.out]; rfl)
        have HU : Hid (U64 N) := Lib.hid (by rw [← HNN.out]; exact HQ4.out.1)
        clear h3
        go_wp2_with fail
        refine (wNum_any F p D N wr HW.out HU.out (by omega)).mono ?_
        rintro e w4 ⟨rfl, F', hw4, hm4⟩
        obtain ⟨d1, d2, d3⟩ := HC.out w4 hm4.1
        have HO4 := Lib.hid (HOS.out F' w4 hm4)
        have HW4 := Lib.hid hw4
        have HM4 := Lib.hid hm4
        clear hw4 hm4 hc0 hc1 hc2 hc3 d2 d3
        go_wp2_with fail
        refine (aNum_any u4 D N w4 HO4.out HU.out (by omega)).mono ?_
        rintro e w5 ⟨v5, rfl, ho5, ha5⟩
        have HR5 : Hid (WroteP w2 p (partsOf ps) (k + 1) v5 F' w5) := Lib.hid (HR.out.next HNX.out (by rw [HD.out, HB.out]; exact HW4.out) HM4.out (by rw [HD.out, HB.out]; exact ho5) ha5)
        clear ho5 ha5
        go_wp2
        go_roundw
        case rel => exact ⟨k + 1, F', by omega, by go_num, HR5⟩
        case measure => simp [intOf]; omega
      · have g3 : (x : Int) % 3 = 1 := by omega
        have HB : Hid (q.part.bytes = textF q.b) := Lib.hid (by unfold PT.part; rw [HX.out, if_neg (by omega), if_pos h3]; rfl)
        have HT1 := Lib.hid (wText_any F p D q.b aB cB wr HW.out H4.out H5.out (fun h0 b' o' e hF => by have := HSZ.out.2.1 h0 b' o' e; have := HFS.out b' hF; omega) (by omega) (by have := HQ4.out.2.1; omega))
        have HT2 := Lib.hid (show ∀ w4 F', Moved F wr F' w4 → Calls Tryd.prog 14 #[u4, .slice aB bl cB] w4 (AppPost u4 (D ++ textF q.b) w4) from fun w4 F' hm => aText_any u4 D q.b aB cB bl w4 (HOS.out F' w4 hm)
          (H4.out.spares' hm.1 (fun h0 b' o' e hF => by have := HSZ.out.2.1 h0 b' o' e; have := HFS.out b' hF; omega)) HBL.out.symm H5.out (fun h0 b' o' e hF => by have := HSZ.out.2.1 h0 b' o' e; have := (HAP.out b' hF).1; omega) (by omega) (by have := HQ4.out.2.1; omega))
        rw [HBL.out] at HT1
        clear h3
        go_wp2_with fail
        refine HT1.out.mono ?_
        rintro e w4 ⟨rfl, F', hw4, hm4⟩
        obtain ⟨d1, d2, d3⟩ := HC.out w4 hm4.1
        have HC2 := Lib.hid (HT2.out w4 F' hm4)
        have HW4 := Lib.hid hw4
        have HM4 := Lib.hid hm4
        clear hw4 hm4 hc0 hc1 hc2 hc3 d1 d3
        go_wp2_with fail
        refine HC2.out.mono ?_
        rintro e w5 ⟨v5, rfl, ho5, ha5⟩
        have HR5 : Hid (WroteP w2 p (partsOf ps) (k + 1) v5 F' w5) := Lib.hid (HR.out.next HNX.out (by rw [HD.out, HB.out]; exact HW4.out) HM4.out (by rw [HD.out, HB.out]; exact ho5) ha5)
        clear ho5 ha5
        go_wp2
        go_roundw
        case rel => exact ⟨k + 1, F', by omega, by go_num, HR5⟩
        case measure => simp [intOf]; omega
      · have g3 : (x : Int) % 3 = 2 := by omega
        have HB : Hid (q.part.bytes = fieldsF q.l) := Lib.hid (by unfold PT.part; rw [HX.out, if_neg (by omega), if_neg (by omega)]; rfl)
        have HSF := Lib.hid (show ∀ f ∈ q.l, f.1.size ≤ 1000000 ∧ f.2.size ≤ 1000000 from fun f hf => by have := HQ4.out.field f hf; omega)
        have HT1 := Lib.hid (wFields_any F p D q.l aL cL ll wr HW.out H6.out HLL.out.symm (fun h0 b' o' e hF => by have := HSZ.out.2.2 h0 b' o' e; have := HFS.out b' hF; omega) (by omega) (by have := HLL.out; omega) HSF.out)
        have HT2 := Lib.hid (show ∀ w4 F', Moved F wr F' w4 → Calls Tryd.prog 16 #[u4, .slice aL ll cL] w4 (AppPost u4 (D ++ fieldsF q.l) w4) from fun w4 F' hm => aFields_any u4 D q.l aL cL ll w4 (HOS.out F' w4 hm)
          (H6.out.spares hm.1 (fun h0 b' o' e hF => by have := HSZ.out.2.2 h0 b' o' e; have := HFS.out b' hF; omega)) HLL.out.symm (fun h0 b' o' e hF => by have := HSZ.out.2.2 h0 b' o' e; have := (HAP.out b' hF).1; omega) (by omega) (by have := HLL.out; omega) HSF.out)
        clear h3
        go_wp2_with fail
        refine HT1.out.mono ?_
        rintro e w4 ⟨rfl, F', hw4, hm4⟩
        obtain ⟨d1, d2, d3⟩ := HC.out w4 hm4.1
        have HC2 := Lib.hid (HT2.out w4 F' hm4)
        have HW4 := Lib.hid hw4
        have HM4 := Lib.hid hm4
        clear hw4 hm4 hc0 hc1 hc2 hc3 d1 d2
        go_wp2_with fail
        refine HC2.out.mono ?_
        rintro e w5 ⟨v5, rfl, ho5, ha5⟩
        have HR5 : Hid (WroteP w2 p (partsOf ps) (k + 1) v5 F' w5) := Lib.hid (HR.out.next HNX.out (by rw [HD.out, HB.out]; exact HW4.out) HM4.out (by rw [HD.out, HB.out]; exact ho5) ha5)
        clear ho5 ha5
        go_wp2
        go_roundw
        case rel => exact ⟨k + 1, F', by omega, by go_num, HR5⟩
        case measure => simp [intOf]; omega
    · obtain rfl : k = n := by omega
      have htk : (partsOf ps).take k = partsOf ps := List.take_of_length_le (by simp [partsOf]; have := HN.out; omega)
      have hwr := HR.out.writer
      have hrf := HR.out.ref
      rw [htk] at hwr hrf
      have hlen := HLN.out
      obtain ⟨T, hT⟩ : ∃ T, partsF (partsOf ps) = T := ⟨_, rfl⟩
      rw [hT] at hwr hrf hlen
      have hTl : T.length ≤ 80000 := by have := HN.out; omega
      have HTE := Lib.hid hT
      have HWR := Lib.hid hwr
      obtain ⟨av, cv, rfl, hat, hnil⟩ := hrf.shape
      have HAT := Lib.hid hat
      have HNIL := Lib.hid hnil
      have HSN := Lib.hid HR.out.since
      clear htk hwr hrf hlen hT hat hnil HR HLN
      go_wp2_with fail
      refine (wBytes_any F p T wr HWR.out (by omega)).mono ?_
      rintro e w4 ⟨a4, c4, rfl, ho4, hs4, hf4⟩
      have HO4 := Lib.hid ho4.bytes.1
      have HAT4 := Lib.hid (HAT.out.stay hs4 (fun _ _ h => h))
      have HS4 := Lib.hid (HSN.out.trans hs4)
      clear ho4 hs4 hf4 HWR HAT HSN
      go_wp2_with fail
      refine (bytes_any T T a4 av c4 cv w4 HO4.out HAT4.out).mono ?_
      rintro e w5 ⟨rfl, rfl⟩
      rw [show (T == T) = true by simp]
      go_wp2_with fail
      refine (newReader_any T av cv w4 HAT4.out HNIL.out (by omega)).mono ?_
      rintro e w6 ⟨pr, Fr, rfl, hr6, hs6, hf6⟩
      have HS6 := Lib.hid (HS4.out.trans hs6)
      have HR6 := Lib.hid hr6
      have HF6 := Lib.hid (show ∀ g, Fr g → w2.heap.size ≤ g from fun g hg => Nat.le_trans HS4.out.size (hf6 g hg))
      clear hr6 hs6 hf6 HO4 HAT4 HS4 HNIL
      go_wp2
      go_loopw [7] (fun i wr => ∃ j : Nat, j ≤ k ∧ i = .int .i64 j ∧ Hid (IsR Fr pr (partsF ((partsOf ps).drop j)) false wr) ∧ Hid (Spares nowhere w2 wr)) (fun i _ => k - (intOf i).toNat)
      case atStart => exact ⟨0, by omega, rfl, Lib.hid (by rw [List.drop_zero, HTE.out]; exact HR6.out), HS6⟩
      clear HR6 HS6
      case round =>
        obtain ⟨j, hj, rfl, HRD, HS⟩ := hrel
        by_cases hlt : j < k
        · have hj2 : j < ps.length := by have := HN.out; omega
          have hj3 : j < (partsOf ps).length := by simpa [partsOf] using hj2
          obtain ⟨b, off, aB, cB, aL, cL, rfl, hc0, hc1, hc2, hc3, h4, h5, h6⟩ := (HIN1.out.stay HS.out) j hj2
          have hq4 : (ps[j]).light := HLI.out _ (List.getElem_mem hj2)
          have hnx := partsF_drop hj3
          have hpk : (partsOf ps)[j] = (ps[j]).part := by simp [partsOf]
          rw [hpk] at hnx
          have hbw : b < w2.heap.size := by
            obtain ⟨b0, off0, aB0, cB0, aL0, cL0, e0, k0, _⟩ := HIN1.out j hj2
            cases e0
            exact cell_lt k0
          have hpr : w2.heap.size ≤ pr := HF6.out pr HRD.out.1
          have hdl : (partsF ((partsOf ps).drop j)).length ≤ 80000 := by
            have h1 := partsOf_len (ps.drop j) (fun p hp => HLI.out p (List.mem_of_mem_drop hp))
            have e : partsOf (ps.drop j) = (partsOf ps).drop j := by simp [partsOf, List.map_drop]
            have := HN.out
            rw [e, List.length_drop] at h1
            omega
          obtain ⟨q, hq⟩ : ∃ q, ps[j] = q := ⟨_, rfl⟩
          rw [hq] at hc0 hc1 hc2 hc3 h4 h6 hq4 hnx
          obtain ⟨t, ht⟩ : ∃ t, partsF ((partsOf ps).drop (j + 1)) = t := ⟨_, rfl⟩
          rw [hnx] at HRD hdl
          rw [ht] at HRD hdl
          have HTT := Lib.hid ht
          have HQ4 := Lib.hid hq4
          have H4 := Lib.hid h4
          have H6 := Lib.hid h6
          obtain ⟨x, hx⟩ : ∃ x, q.what.toNat = x := ⟨_, rfl⟩
          have hx256 : x < 256 := by rw [← hx]; exact q.what.toNat_lt
          obtain ⟨N, hN⟩ : ∃ N, q.n = N := ⟨_, rfl⟩
          have HX := Lib.hid hx
          have HNN := Lib.hid hN
          rw [hx] at hc0
          rw [hN] at hc1
          have j1 : (j : Int) < (k : Int) := by omega
          have h63 : (j : Int) ≤ 9223372036854775806 := by omega
          have hbr : b < wr.heap.size := Nat.lt_of_lt_of_le hbw HS.out.size
          have hbp : ¬ b = pr := by omega
          have hwd : wr.drew.heap.size = wr.heap.size := rfl
          have HSN : Hid (∀ wz, Spares (fun b => b = pr) wr.drew wz → Spares nowhere w2 wz) := Lib.hid (fun wz h => HS.out.drew.trans' h (fun b hb => .inr (by omega)))
          have HSA : Hid (∀ wz, Spares (fun b => b = pr) wr.drew wz → BytesAt wz aB q.b ∧ FieldsAt wz aL q.l) := Lib.hid (fun wz h => by
            obtain ⟨b0, off0, aB0, cB0, aL0, cL0, e0, k0, _, k2, k3, k4, _, k6⟩ := HIN1.out j hj2
            have e1 := (HS.out.cell (p := ⟨b0, off0 + j * 4 + 2, none⟩) (cell_lt k0) (fun h => h)).trans k2
            have e2 := (HS.out.cell (p := ⟨b0, off0 + j * 4 + 3, none⟩) (cell_lt k0) (fun h => h)).trans k3
            cases e0
            rw [hq] at e1 e2 k4 k6
            rw [hc2] at e1
            rw [hc3] at e2
            cases e1; cases e2
            exact ⟨k4.stay (HSN.out wz h) (fun _ _ h => h), k6.stay (HSN.out wz h)⟩)
          clear hnx hpk hq hq4 h4 h5 h6 hx hN hj2 hj3 ht
          rcases (show x % 3 = 0 ∨ x % 3 = 1 ∨ x % 3 = 2 by omega) with h3 | h3 | h3
          · have g3 : (x : Int) % 3 = 0 := by omega
            have hB : q.part.bytes = numF N := by unfold PT.part; rw [HX.out, if_pos h3, HNN.out]; rfl
            have hU : U64 N := by rw [← HNN.out]; exact HQ4.out.1
            rw [hB] at HRD hdl
            have HNUM : Hid (Calls Tryd.prog 20 #[.pointer (some ⟨pr, 0, none⟩)] wr.drew (Numbered Fr pr (N, some t) wr.drew)) := Lib.hid (by
              have := rNum_any Fr pr (some (numF N ++ t)) wr.drew (IsR.spares (G := nowhere) HRD.out (Spares.refl _ _).drew (fun _ _ h => h)) (fun l e => by cases e; omega)
              rw [readNum_append hU] at this
              exact this)
            have hne : ((N : Int) != (N : Int)) = false := by simp
            clear h3 hB hU hdl HSA
            go_upto_region 29 with (fail)
            go_region_held3 (fun w' => w'.cell? ⟨b, off + j * 4 + 1, none⟩ = some (.int .u64 N))
              (first
                | exact hc1
                | exact (h9.cell (p := ⟨b, off + j * 4 + 1, none⟩) hbr hbp).trans hc1
                | fail)
              (first
                | (go_at_call 20; refine HNUM.out.mono ?_; rintro e w9 ⟨rfl, hr9, h9⟩)
                | fail)
            all_goals
              have HR9 : Hid (IsR Fr pr (partsF ((partsOf ps).drop (j + 1))) false w9) := Lib.hid (by rw [HTT.out]; exact hr9)
              have HS9 := Lib.hid (HSN.out _ h9)
              clear hr9 h9 HNUM HRD HS
              go_wp2
              go_roundw
              case rel => exact ⟨j + 1, by omega, by go_num, HR9, HS9⟩
              case measure => simp [intOf]; omega
          · have g3 : (x : Int) % 3 = 1 := by omega
            have hB : q.part.bytes = textF q.b := by unfold PT.part; rw [HX.out, if_neg (by omega), if_pos h3]; rfl
            obtain ⟨y, hy⟩ : ∃ y, q.b = y := ⟨_, rfl⟩
            have hyl : y.length ≤ 200 := by rw [← hy]; exact HQ4.out.2.1
            rw [hB] at HRD hdl
            rw [hy] at HRD hdl hc2
            have HNUM : Hid (Calls Tryd.prog 21 #[.pointer (some ⟨pr, 0, none⟩)] wr.drew (Texted Fr pr (y, some t) wr.drew)) := Lib.hid (by
              have := rText_any Fr pr (some (textF y ++ t)) wr.drew (IsR.spares (G := nowhere) HRD.out (Spares.refl _ _).drew (fun _ _ h => h)) (fun l e => by cases e; omega)
              rw [readText_append _ _ (by omega)] at this
              exact this)
            have HBY : Hid (∀ wz a9 c9, Spares (fun b => b = pr) wr.drew wz → BytesAt wz a9 y → Calls Tryd.prog 17 #[.slice a9 y.length c9, .slice aB y.length cB] wz fun e w' => e = .returned (.bool true) ∧ wz = w') := Lib.hid (fun wz a9 c9 h h1 => by
              have := bytes_any y y a9 aB c9 cB wz h1 (by rw [← hy]; exact (HSA.out wz h).1)
              rw [show (y == y) = true by simp] at this
              exact this)
            clear h3 hB hdl HSA hy
            go_upto_region 32 with (fail)
            go_region_held3 (fun w' => w'.cell? ⟨b, off + j * 4 + 2, none⟩ = some (.slice aB y.length cB))
              (first
                | exact hc2
                | exact (h9.cell (p := ⟨b, off + j * 4 + 2, none⟩) hbr hbp).trans hc2
                | fail)
              (first
                | (go_at_call 21; refine HNUM.out.mono ?_; rintro e w9 ⟨⟨a9, c9, rfl, hb9, _, _⟩, hr9, h9⟩)
                | (go_at_call 17; refine (HBY.out _ _ _ h9 hb9).mono ?_; rintro e w10 ⟨rfl, rfl⟩)
                | fail)
            all_goals
              have HR9 : Hid (IsR Fr pr (partsF ((partsOf ps).drop (j + 1))) false w9) := Lib.hid (by rw [HTT.out]; exact hr9)
              have HS9 := Lib.hid (HSN.out _ h9)
              clear hr9 h9 hb9 HNUM HBY HRD HS
              go_wp2
              go_roundw
              case rel => exact ⟨j + 1, by omega, by go_num, HR9, HS9⟩
              case measure => simp [intOf]; omega
          · have g3 : (x : Int) % 3 = 2 := by omega
            have hB : q.part.bytes = fieldsF q.l := by unfold PT.part; rw [HX.out, if_neg (by omega), if_neg (by omega)]; rfl
            obtain ⟨y, hy⟩ : ∃ y, q.l = y := ⟨_, rfl⟩
            have hyl : y.length ≤ 6 := by rw [← hy]; exact HQ4.out.2.2.1
            have hyf : ∀ f ∈ y, f.1.size ≤ 1000000 ∧ f.2.size ≤ 1000000 := fun f hf => by rw [← hy] at hf; have := HQ4.out.field f hf; omega
            rw [hB] at HRD hdl
            rw [hy] at HRD hdl hc3
            have HNUM : Hid (Calls Tryd.prog 23 #[.pointer (some ⟨pr, 0, none⟩)] wr.drew (Listed Fr pr (y, some t) wr.drew)) := Lib.hid (by
              have := rFields_any Fr pr (some (fieldsF y ++ t)) wr.drew (IsR.spares (G := nowhere) HRD.out (Spares.refl _ _).drew (fun _ _ h => h)) (fun l e => by cases e; omega)
              rw [readFields_append _ _ (by omega) hyf] at this
              exact this)
            have HBY : Hid (∀ wz a9 c9, Spares (fun b => b = pr) wr.drew wz → FieldsAt wz a9 y → Calls Tryd.prog 22 #[.slice a9 y.length c9, .slice aL y.length cL] wz (Drew wz (.bool true))) := Lib.hid (fun wz a9 c9 h h1 =>
              fields_same y a9 aL c9 cL wz h1 (by rw [← hy]; exact (HSA.out wz h).2) (by omega))
            clear h3 hB hdl HSA hy hyf
            go_upto_region 26 with (fail)
            go_region_held3 (fun w' => w'.cell? ⟨b, off + j * 4 + 3, none⟩ = some (.slice aL y.length cL))
              (first
                | exact hc3
                | exact (h9.cell (p := ⟨b, off + j * 4 + 3, none⟩) hbr hbp).trans hc3
                | fail)
              (first
                | (go_at_call 23; refine HNUM.out.mono ?_; rintro e w9 ⟨⟨a9, c9, rfl, hb9, _⟩, hr9, h9⟩)
                | (go_at_call 22; refine (HBY.out _ _ _ h9 hb9).mono ?_; rintro e w10 ⟨rfl, m10, rfl⟩)
                | fail)
            all_goals
              have hd9 : Spares nowhere w9 (w9.drewN m10) := (Spares.refl _ _).drewN m10
              have HR9 : Hid (IsR Fr pr (partsF ((partsOf ps).drop (j + 1))) false (w9.drewN m10)) := Lib.hid (by rw [HTT.out]; exact IsR.spares hr9 hd9 (fun _ _ h => h))
              have HS9 : Hid (Spares nowhere w2 (w9.drewN m10)) := Lib.hid ((HSN.out _ h9).trans hd9)
              clear hr9 h9 hb9 hd9 HNUM HBY HRD HS
              go_wp2
              go_roundw
              case rel => exact ⟨j + 1, by omega, by go_num, HR9, HS9⟩
              case measure => simp [intOf]; omega
        · obtain rfl : j = k := by omega
          have hd0 : (partsOf ps).drop j = [] := List.drop_eq_nil_of_le (by simp [partsOf]; have := HN.out; omega)
          have HRE : Hid (IsR Fr pr [] false wr) := Lib.hid (by have := HRD.out; rw [hd0] at this; exact this)
          clear hd0 HRD
          go_wp2_with fail
          refine (done_any Fr pr (some []) wr HRE.out (fun l e => by cases e; decide)).mono ?_
          rintro e w7 ⟨rfl, rfl⟩
          rw [show doneF (some []) = 0 from rfl]
          go_wp2
          go_ret
          exact ⟨rfl, HS1.out.trans HS.out⟩
end Go.Proofs.YtekdkaiammebnaaDoor
