/-
  ChunkBack's walk.
-/
import Derived.Test.YtkfnebpooohflaaDoorChunkKnown
import Derived.Test.YtkfnebpooohflaaDoorChunkLawMath
import Derived.Test.YtkfnebpooohflaaDoorChunkRefBytes
import Derived.Test.YtkfnebpooohflaaDoorCodeHelp
namespace Go.Proofs.YtkfnebpooohflaaDoor
open Go.RowKit HeadMath NormMath NormS HeadS ChunkMath

theorem atLeast_none {w w1 w2 : World} (h : Spares (atLeast w1.heap.size) w1 w2) (hl : w.heap.size ≤ w1.heap.size) (h1 : Spares nowhere w w1) : Spares nowhere w w2 := h1.trans' h (fun _ hk => .inr (Nat.le_trans hl hk))
theorem bytesF_len (S : Nat) (hS : 1 ≤ S) (body : Bs) (h : body.length < 4294967296) : (bytesF S body).length ≤ 40 * body.length + 5 ∧ 5 ≤ (bytesF S body).length := by
  have := preG_len S hS body.length body (Nat.le_refl _) h
  unfold bytesF
  rw [bytesG_pre, List.length_append]
  have h2 : endB.length = 5 := rfl
  omega
set_option maxRecDepth 100000 in
set_option maxHeartbeats 8000000 in
theorem back_any (a ab : Option Addr) (c cb : Nat) (body behind : Bs) (size : Int) (w : World) (hb : BytesAt w a body) (hc : body.length ≤ c) (hbb : BytesAt w ab behind) (hnb : ab = none → cb = 0) (hz : body.length ≤ 9223372036854775807) (hzb : behind.length ≤ 9223372036854775807) (hT : TabZ w) : Calls Tryd.prog 3 #[.slice a body.length c, .slice ab behind.length cb, .int .i64 size] w (Knows w) := by
  have HK := Lib.hid (known_any w hT)
  have HT := Lib.hid hT
  have HB := Lib.hid hb
  have HBB := Lib.hid hbb
  have HC := Lib.hid hc
  obtain ⟨S, hS⟩ : ∃ S : Nat, (S : Int) = max size 1 := ⟨(max size 1).toNat, by omega⟩
  have HS0 := Lib.hid hS
  have HS1 : Hid (1 ≤ S) := Lib.hid (by omega)
  unfold Knows at HK ⊢
  clear hT hb hbb hc hS
  go_enter Tryd.func3, Tryd.ntmps3
  go_wp2_with fail
  refine HK.out.mono ?_
  rintro e w1 ⟨rfl, hs1⟩
  have HW1 := Lib.hid hs1
  clear hs1 HK
  by_cases hbig : body.length ≤ 2000 ∧ behind.length ≤ 100
  · obtain ⟨l1, l2⟩ := hbig
    have l1i : ¬ ((2000 : Int) < (body.length : Int)) := by omega
    have l2i : ¬ ((100 : Int) < (behind.length : Int)) := by omega
    have cB := cbytes_any a c body size S w1 (HB.out.spares HW1.out (fun _ _ _ h => h)) HC.out (by omega) HS0.out (HT.out.spares HW1.out)
    unfold RowPost at cB
    obtain ⟨OB, hOB⟩ : ∃ OB, bytesF S body = OB := ⟨_, rfl⟩
    have hlen := bytesF_len S HS1.out body (by omega)
    have hopen := open_back (F := fieldB) S HS1.out body behind (by omega)
    rw [hOB] at cB hlen hopen
    have HOB := Lib.hid hOB
    have HOP := Lib.hid hopen
    have HLN := Lib.hid hlen
    obtain ⟨bl, hbl⟩ : ∃ bl, body.length = bl := ⟨_, rfl⟩
    have HBL := Lib.hid hbl
    obtain ⟨kl, hkl⟩ : ∃ kl, behind.length = kl := ⟨_, rfl⟩
    have HKL := Lib.hid hkl
    rw [hbl] at l1 l1i cB ⊢
    rw [hkl] at l2 l2i ⊢
    clear hOB hopen hlen hbl hkl
    go_wp2_with fail
    refine cB.mono ?_
    rintro e w2 ⟨v1, rfl, hr1, hs2⟩
    have HW2 := Lib.hid (atLeast_none hs2 HW1.out.size HW1.out)
    have HR1 := Lib.hid hr1
    obtain ⟨a1, c1, hv1, hat1, hn1, hc1⟩ := hr1.shape
    subst hv1
    have HAT1 := Lib.hid hat1
    have HN1 := Lib.hid hn1
    have HX1 : Hid (([] : Bs).length + OB.length ≤ 140737488355328) := Lib.hid (by have := HLN.out.1; have := HBL.out; simp; omega)
    have HX2 : Hid (([] ++ OB : Bs).length + kl ≤ 140737488355328) := Lib.hid (by have := HLN.out.1; have := HBL.out; simp; omega)
    clear hr1 hs2 cB hat1 hn1 hc1
    go_wp2_with (first
      | ((with_reducible show wpList _ _ _ (⟨some 26, _, _, _, _, _⟩ :: _) _ _); refine wpList_row_bytes rfl _ _ rfl w2.heap.size _ [] rfl (row8_nil _ _) a1 c1 OB.length OB rfl rfl HAT1.out HN1.out HX1.out (Nat.le_refl _) ?_; intro v2 w3 hr2 hs3; have HR2 := Lib.hid hr2; have HS3 := Lib.hid hs3; clear hr2 hs3)
      | ((with_reducible show wpList _ _ _ (⟨some 28, _, _, _, _, _⟩ :: _) _ _); refine wpList_row_bytes rfl _ _ rfl w2.heap.size _ ([] ++ OB) rfl HR2.out ab cb kl behind rfl HKL.out.symm (HBB.out.spares (HW2.out.trans' HS3.out (fun _ hk => .inr (Nat.le_trans HW2.out.size hk))) (fun _ _ _ h => h)) hnb HX2.out HS3.out.size ?_; intro v3 w4 hr3 hs4; have HR3 := Lib.hid hr3; have HS4 := Lib.hid hs4; clear hr3 hs4)
      | fail)
    have hr3 : Row8 w2.heap.size w4 v3 (OB ++ behind) := HR3.out
    have HW4 : Hid (Spares nowhere w w4) := Lib.hid (HW2.out.trans' (HS3.out.trans HS4.out) (fun _ hk => .inr (Nat.le_trans HW2.out.size hk)))
    have HW24 : Hid (Spares nowhere w2 w4) := Lib.hid ((HS3.out.trans HS4.out).mono (fun _ hk => .inr hk))
    obtain ⟨a3, c3, hv3, hat3, _, hc3⟩ := hr3.shape
    subst hv3
    have cO := open_any a3 c3 (OB ++ behind) w4 hat3 hc3 (by rw [List.length_append]; have := HLN.out.1; have := HBL.out; have := HKL.out; omega)
    rw [HOP.out] at cO
    clear hr3 hat3 hc3
    go_wp2_with fail
    refine cO.mono ?_
    rintro e w5 ⟨⟨v4, rfl, hr4⟩, hs5⟩
    have hnn : (((OB ++ behind).length - behind.length : Nat) : Int) = (OB.length : Int) := by rw [List.length_append]; omega
    rw [hnn]
    obtain ⟨a4, c4, hv4, hat4, _, _⟩ := hr4.shape
    subst hv4
    have HAT4 := Lib.hid hat4
    have HW5 := Lib.hid (HW4.out.trans hs5)
    have HW25 := Lib.hid (HW24.out.trans hs5)
    have cR := refBytes_any a c body size S w5 (HB.out.spares HW5.out (fun _ _ _ h => h)) HC.out (by have := HBL.out; omega) HS0.out
    unfold RowPost at cR
    rw [HOB.out, HBL.out] at cR
    rw [HBL.out]
    clear hr4 hs5 cO hat4 hnn
    go_wp2_with fail
    refine cR.mono ?_
    rintro e w6 ⟨v5, rfl, hr5, hs6⟩
    obtain ⟨a5, c5, hv5, hat5, _, _⟩ := hr5.shape
    subst hv5
    have HW56 : Hid (Spares nowhere w5 w6) := Lib.hid (hs6.mono (fun _ hk => .inr hk))
    have cC := bytes_any OB OB a1 a5 c1 c5 w6 (HAT1.out.spares (HW25.out.trans HW56.out) (fun _ _ _ h => h)) hat5
    rw [beq_self_eq_true] at cC
    have cC2 := bytes_any body body a4 a c4 c w6 (HAT4.out.spares HW56.out (fun _ _ _ h => h)) (HB.out.spares (HW5.out.trans HW56.out) (fun _ _ _ h => h))
    rw [beq_self_eq_true, HBL.out] at cC2
    have HW6 := Lib.hid (HW5.out.trans HW56.out)
    clear hr5 hs6 cR hat5
    go_wp2_with fail
    refine cC.mono ?_
    rintro e w7 ⟨rfl, hw⟩
    subst hw
    go_wp2_with fail
    refine cC2.mono ?_
    rintro e w7 ⟨rfl, hw⟩
    subst hw
    go_wp2
    go_ret
    exact ⟨rfl, HW6.out⟩
  · by_cases l1 : body.length ≤ 2000
    · have l1i : ¬ ((2000 : Int) < (body.length : Int)) := by omega
      have l2i : ((100 : Int) < (behind.length : Int)) := by omega
      clear hbig
      go_wp2
      go_ret
      exact ⟨rfl, HW1.out⟩
    · have l1i : ((2000 : Int) < (body.length : Int)) := by omega
      clear hbig
      go_wp2
      go_ret
      exact ⟨rfl, HW1.out⟩
end Go.Proofs.YtkfnebpooohflaaDoor
