/-
  What may be kept: the law's walk.
-/
import Derived.Test.YtgfinhkplijhbaaGreatDoorMg34
import Derived.Test.YtgfinhkplijhbaaGreatDoorMg43
import Derived.Test.YtgfinhkplijhbaaGreatDoorMg44
namespace Go.Proofs.YtgfinhkplijhbaaGreatDoor
open Go.RowKit HeadMath HeadS CtrlS VaryS

theorem four_blocks (w : World) (o p q r : Obj) : let v := (((w.alloc o).alloc p).alloc q).alloc r
    v.heap[w.heap.size]? = some o ∧ v.heap[w.heap.size + 1]? = some p ∧ v.heap[w.heap.size + 1 + 1]? = some q ∧ v.heap[w.heap.size + 1 + 1 + 1]? = some r ∧ v.heap.size = w.heap.size + 4 ∧ Below w.heap.size w v := by
  intro v
  have h := two_reqs w o p
  have z : ((w.alloc o).alloc p).heap.size = w.heap.size + 1 + 1 := by simp
  have h2 := two_reqs ((w.alloc o).alloc p) q r
  rw [z] at h2
  exact ⟨stood0 (stood0 h.1), stood0 (stood0 h.2), h2.1, h2.2, by simp [v], below_al (below_al (below_al (below_al (Below.refl _ _) _) _) _) _⟩
theorem refMay_kin (m tg : ByteArray) (fq : Fls) (fa : Option Addr) (fc : Nat) (ba : Option Addr) (bn bc : Nat) (st : Int) (rs : ByteArray) (fr : Fls) (ga : Option Addr) (gc : Nat) (ha : Option Addr) (hn hc : Nat) {v : World}
    (hiq : FieldsIn v.heap.size v fa fq) (hfq : FewF fq) (hir : FieldsIn v.heap.size v ga fr) (hfr : FewF fr) {b : Bool} (hb : mayF m fq st fr hn = b) :
    ∀ x : Kin v, Calls Tryz.prog 15 #[.agg #[.string m, .string tg, .slice fa fq.length fc, .slice ba bn bc], .agg #[.int .i64 st, .string rs, .slice ga fr.length gc, .slice ha hn hc]] x.wd fun e w'' => e = .returned (.bool b) ∧ ∃ y : Kin v, w'' = y.wd := by
  intro x
  subst hb
  exact Kin.calls ((refMay_any x.wd m tg fq fa fc ba bn bc st rs fr ga gc ha hn hc (kin_in x hiq) hfq (kin_in x hir) hfr).mono fun _ _ h => h)
theorem safe_kin (m : ByteArray) {v : World} {b : Bool} (hb : safeF m = b) (x : Kin v) : Calls Tryz.prog 16 #[.string m] x.wd fun e w'' => e = .returned (.bool b) ∧ ∃ y : Kin v, w'' = y.wd :=
  (safe_any m x.wd).mono fun e w' ⟨h, h'⟩ => ⟨by rw [h, hb], x, h'.symm⟩
theorem refSafe_kin (m : ByteArray) {v : World} {b : Bool} (hb : safeF m = b) (x : Kin v) : Calls Tryz.prog 17 #[.string m] x.wd fun e w'' => e = .returned (.bool b) ∧ ∃ y : Kin v, w'' = y.wd :=
  (refSafe_any m x.wd).mono fun e w' ⟨h, h'⟩ => ⟨by rw [h, hb], x, h'.symm⟩
/-- A request and a response in their two boxes, and nothing else of the caller's is touched. -/
def Boxes (B : Nat) (w wx : World) : Prop := ∃ (m t : ByteArray) (fa : Option Addr) (fc : Nat) (fs : Fls) (ba : Option Addr) (bn bc : Nat) (st : Int) (rs : ByteArray) (ga : Option Addr) (gc : Nat) (gs : Fls) (ha : Option Addr) (hn hc : Nat),
  wx.heap[B]? = some (.cells #[.string m, .string t, .slice fa fs.length fc, .slice ba bn bc] 25 (0, 0)) ∧ wx.heap[B + 1]? = some (.cells #[.int .i64 st, .string rs, .slice ga gs.length gc, .slice ha hn hc] 27 (0, 0)) ∧ FieldsIn wx.heap.size wx fa fs ∧ FewF fs ∧ FieldsIn wx.heap.size wx ga gs ∧ FewF gs ∧ Below w.heap.size w wx
set_option maxRecDepth 100000 in
set_option maxHeartbeats 16000000 in
theorem may_law (w : World) (m t : ByteArray) (fs : Fls) (fa : Option Addr) (fc : Nat) (ba : Option Addr) (bn bc : Nat) (st : Int) (rs : ByteArray) (gs : Fls) (ga : Option Addr) (gc : Nat) (ha : Option Addr) (hn hc : Nat) (q0 q1 q2 q3 q4 q5 r0 r1 r2 r3 r4 r5 : Nat) (mk : Bool)
    (z0 : q0 < 256) (z1 : q1 < 256) (z2 : q2 < 256) (z3 : q3 < 256) (z4 : q4 < 256) (z5 : q5 < 256) (y0 : r0 < 256) (y1 : r1 < 256) (y2 : r2 < 256) (y3 : r3 < 256) (y4 : r4 < 256) (y5 : r5 < 256)
    (hin : FieldsIn w.heap.size w fa fs) (hw : WideF fs) (hm : m.size ≤ 9223372036854775807) (ht : t.size ≤ 9223372036854775807) (hbn : bn ≤ 9223372036854775807)
    (hig : FieldsIn w.heap.size w ga gs) (hwg : WideF gs) (hrs : rs.size ≤ maxLen) (hhn : hn ≤ maxLen) :
    Calls Tryz.prog 3 #[.agg #[.string m, .string t, .slice fa fs.length fc, .slice ba bn bc], .agg #[.int .i64 st, .string rs, .slice ga gs.length gc, .slice ha hn hc], .agg #[.int .u8 q0, .int .u8 q1, .int .u8 q2, .int .u8 q3, .int .u8 q4, .int .u8 q5], .agg #[.int .u8 r0, .int .u8 r1, .int .u8 r2, .int .u8 r3, .int .u8 r4, .int .u8 r5], .bool mk] w (RulePost true w) := by
  obtain ⟨v, hv⟩ : ∃ v, (((w.alloc (.cells #[.string m, .string t, .slice fa fs.length fc, .slice ba bn bc] 25)).alloc (.cells #[.int .i64 st, .string rs, .slice ga gs.length gc, .slice ha hn hc] 27)).alloc (.cells #[.int .u8 q0, .int .u8 q1, .int .u8 q2, .int .u8 q3, .int .u8 q4, .int .u8 q5] 29)).alloc (.cells #[.int .u8 r0, .int .u8 r1, .int .u8 r2, .int .u8 r3, .int .u8 r4, .int .u8 r5] 31) = v := ⟨_, rfl⟩
  have h4 := four_blocks w (.cells #[.string m, .string t, .slice fa fs.length fc, .slice ba bn bc] 25) (.cells #[.int .i64 st, .string rs, .slice ga gs.length gc, .slice ha hn hc] 27) (.cells #[.int .u8 q0, .int .u8 q1, .int .u8 q2, .int .u8 q3, .int .u8 q4, .int .u8 q5] 29) (.cells #[.int .u8 r0, .int .u8 r1, .int .u8 r2, .int .u8 r3, .int .u8 r4, .int .u8 r5] 31)
  simp only at h4
  rw [hv] at h4
  obtain ⟨h0, h1, h2, h3, hsz, hb⟩ := h4
  have HREQ : Hid (∀ y, Below v.heap.size v y → y.heap[w.heap.size]? = some (.cells #[.string m, .string t, .slice fa fs.length fc, .slice ba bn bc] 25 (0, 0))) := Lib.hid (fun y hy => stood3 hy h0)
  have HRESP : Hid (∀ y, Below v.heap.size v y → y.heap[w.heap.size + 1]? = some (.cells #[.int .i64 st, .string rs, .slice ga gs.length gc, .slice ha hn hc] 27 (0, 0))) := Lib.hid (fun y hy => stood3 hy h1)
  have HQ : Hid (∀ y, Below v.heap.size v y → y.heap[w.heap.size + 1 + 1]? = some (.cells #[.int .u8 q0, .int .u8 q1, .int .u8 q2, .int .u8 q3, .int .u8 q4, .int .u8 q5] 29 (0, 0))) := Lib.hid (fun y hy => stood3 hy h2)
  have HR : Hid (∀ y, Below v.heap.size v y → y.heap[w.heap.size + 1 + 1 + 1]? = some (.cells #[.int .u8 r0, .int .u8 r1, .int .u8 r2, .int .u8 r3, .int .u8 r4, .int .u8 r5] 31 (0, 0))) := Lib.hid (fun y hy => stood3 hy h3)
  have HI : Hid (∀ y, Below v.heap.size v y → FieldsIn y.heap.size y fa fs ∧ FieldsIn y.heap.size y ga gs) := Lib.hid (fun y hy => ⟨kin_in (w := w) ⟨y, hb.trans (hy.mono hb.size)⟩ hin, kin_in (w := w) ⟨y, hb.trans (hy.mono hb.size)⟩ hig⟩)
  have CL : Hid (∀ y, Below v.heap.size v y → Calls Tryz.prog 10 #[.agg #[.string m, .string t, .slice fa fs.length fc, .slice ba bn bc]] y (LitQP m t fs y)) := Lib.hid (fun y hy => lightQP_any m t fa fc fs ba bn bc y (HI.out y hy).1 hw hbn hm ht)
  have CG : Hid (∀ y, Below v.heap.size v y → Calls Tryz.prog 11 #[.agg #[.int .i64 st, .string rs, .slice ga gs.length gc, .slice ha hn hc]] y (LightRPost gs y)) := Lib.hid (fun y hy => lightR_any gs st rs ga ha gc hn hc y (HI.out y hy).2 hwg hrs hhn)
  have CQ : Hid (∀ y, Calls Tryz.prog 12 #[.agg #[.int .u8 q0, .int .u8 q1, .int .u8 q2, .int .u8 q3, .int .u8 q4, .int .u8 q5]] y (ReqMade y)) := Lib.hid (fun y => seatReq_any y q0 q1 q2 q3 q4 q5 z0 z1 z2 z3 z4 z5)
  have CR : Hid (∀ y, Calls Tryz.prog 13 #[.agg #[.int .u8 r0, .int .u8 r1, .int .u8 r2, .int .u8 r3, .int .u8 r4, .int .u8 r5], .int .i64 1000000000] y (RespMade y)) := Lib.hid (fun y => seatResp_any y _ r0 r1 r2 r3 r4 r5 y0 y1 y2 y3 y4 y5)
  have HKN := Lib.hid (fun x => pknown_any x)
  have HV := Lib.hid hv
  have HB := Lib.hid hb
  have HSZ := Lib.hid hsz
  obtain ⟨n, hn1⟩ : ∃ n, fs.length = n := ⟨_, rfl⟩
  obtain ⟨n', hn2⟩ : ∃ n, gs.length = n := ⟨_, rfl⟩
  have HN1 := Lib.hid hn1
  have HN2 := Lib.hid hn2
  rw [hn1] at CL HREQ HV ⊢
  rw [hn2] at CG HRESP HV ⊢
  clear hin hw hm ht hbn hig hwg hrs hhn hv hb hsz h0 h1 h2 h3 hn1 hn2 z0 z1 z2 z3 z4 z5 y0 y1 y2 y3 y4 y5
  unfold RulePost at HKN ⊢
  go_enter Tryz.func3, Tryz.ntmps3
  go_wp2_with fail
  change Calls _ _ _ ((((w.alloc (.cells #[.string m, .string t, .slice fa n fc, .slice ba bn bc] 25)).alloc (.cells #[.int .i64 st, .string rs, .slice ga n' gc, .slice ha hn hc] 27)).alloc (.cells #[.int .u8 q0, .int .u8 q1, .int .u8 q2, .int .u8 q3, .int .u8 q4, .int .u8 q5] 29)).alloc (.cells #[.int .u8 r0, .int .u8 r1, .int .u8 r2, .int .u8 r3, .int .u8 r4, .int .u8 r5] 31)) _
  rw [HV.out]
  refine (HKN.out _).mono ?_
  rintro e w1 ⟨rfl, hb1⟩
  have HB1 := Lib.hid hb1
  obtain ⟨k0, k1, k2, k3⟩ := four_at (HREQ.out w1 hb1)
  have CL1 := Lib.hid (CL.out w1 hb1)
  clear hb1 HKN CL
  unfold LitQP at CL1
  go_wp2_with fail
  refine CL1.out.mono ?_
  rintro e w2 ⟨b, rfl, hb2, hl⟩
  have hb2' := HB1.out.trans (hb2.mono HB1.out.size)
  have HB2 := Lib.hid hb2'
  have HL := Lib.hid hl
  have CL2 := Lib.hid (CG.out w2 hb2')
  unfold LightRPost at CL2
  clear k0 k1 k2 k3 CL1 CG
  obtain ⟨k0, k1, k2, k3⟩ := four_at (HRESP.out w2 hb2')
  clear hb2 hb2' hl
  cases b with
  | false =>
    go_wp2
    go_ret
    exact ⟨rfl, HB.out.trans (HB2.out.mono HB.out.size)⟩
  | true =>
    have HLQ := Lib.hid (light_few (HL.out rfl).2)
    clear HL
    go_wp2_with fail
    refine CL2.out.mono ?_
    rintro e w3 ⟨b, rfl, hb3, hl⟩
    have hb3' := HB2.out.trans (hb3.mono HB2.out.size)
    have HB3 := Lib.hid hb3'
    have HL := Lib.hid hl
    clear k0 k1 k2 k3 CL2 hb3 hb3' hl
    cases b with
    | false =>
      go_wp2
      go_ret
      exact ⟨rfl, HB.out.trans (HB3.out.mono HB.out.size)⟩
    | true =>
      have HLR := Lib.hid (light_few (HL.out rfl))
      clear HL
      go_upto_if 21 with (fail)
      go_cut [] (fun wx => Hid (Boxes w.heap.size w wx))
      case first =>
        cases mk with
        | false =>
          go_wp2_with fail
          go_meet
          refine Lib.hid ⟨m, t, fa, fc, fs, ba, bn, bc, st, rs, ga, gc, gs, ha, hn, hc, ?_, ?_, (HI.out _ HB3.out).1, HLQ.out, (HI.out _ HB3.out).2, HLR.out, HB.out.trans (HB3.out.mono HB.out.size)⟩
          · rw [HN1.out]; exact HREQ.out _ HB3.out
          · rw [HN2.out]; exact HRESP.out _ HB3.out
        | true =>
          go_upto_region 6 with (fail)
          have hH0 := And.intro (HQ.out w3.drew HB3.out.drew) (HR.out w3.drew HB3.out.drew)
          have HD : Hid (Below v.heap.size v w3.drew) := Lib.hid HB3.out.drew
          refine wp_region_held_drew (S := fun x => x.heap[w.heap.size + 1 + 1]? = some (.cells #[.int .u8 q0, .int .u8 q1, .int .u8 q2, .int .u8 q3, .int .u8 q4, .int .u8 q5] 29 (0, 0)) ∧ x.heap[w.heap.size + 1 + 1 + 1]? = some (.cells #[.int .u8 r0, .int .u8 r1, .int .u8 r2, .int .u8 r3, .int .u8 r4, .int .u8 r5] 31 (0, 0))) (by kernel_rfl) hH0 (fun hH => ?_)
          obtain ⟨x0, hx0⟩ : ∃ y, w3.drew = y := ⟨_, rfl⟩
          rw [hx0] at hH HD ⊢
          clear hx0 hH0
          refine wpAnyH_takeTo (i := 0) (d := some 22) (v := .agg #[.int .u8 q0, .int .u8 q1, .int .u8 q2, .int .u8 q3, .int .u8 q4, .int .u8 q5]) rfl rfl (by kernel_rfl) (by kernel_rfl) (by kernel_rfl) (fun _ _ _ h => h) (Or.inl ⟨by rfl, fun x hx => ?_⟩) hH ?_
          · obtain ⟨g0, g1, g2, g3, g4, g5⟩ := six_at hx.1
            clear hx
            go_simp
          try simp only [Act.put, List.setIfInBounds_toArray, List.set_cons_zero, List.set_cons_succ]
          refine wpAnyH_takeTo (i := 2) (d := some 24) (v := .agg #[.int .u8 r0, .int .u8 r1, .int .u8 r2, .int .u8 r3, .int .u8 r4, .int .u8 r5]) rfl rfl (by kernel_rfl) (by kernel_rfl) (by kernel_rfl) (fun _ _ _ h => h) (Or.inl ⟨by rfl, fun x hx => ?_⟩) hH ?_
          · obtain ⟨g0, g1, g2, g3, g4, g5⟩ := six_at hx.2
            clear hx
            go_simp
          try simp only [Act.put, List.setIfInBounds_toArray, List.set_cons_zero, List.set_cons_succ]
          refine wpAnyH_stepTo (i := 1) (d := some 23) (by kernel_rfl) rfl rfl (by rfl) (fun u x => ∃ (m : ByteArray) (t : ByteArray) (fa : Option Addr) (fc : Nat) (fs : Fls) (ba : Option Addr) (bn bc : Nat), u = .agg #[.string m, .string t, .slice fa fs.length fc, .slice ba bn bc] ∧ Hid (x.ownsRow x0.heap.size 48 2 (.slice fa fs.length fc) fs.length (fieldCells fs) ∧ FewF fs ∧ Below x0.heap.size x0 x)) (fun K' hK' => ?_) ?_
          · go_simp
            go_at_call 12
            refine Calls.mono (CQ.out _) ?_
            rintro e x1 ⟨m1, t1, fa1, fc1, fs1, ba1, bn1, bc1, rfl, ho1, hf1, _, hb1⟩
            exact hK' _ _ ⟨m1, t1, fa1, fc1, fs1, ba1, bn1, bc1, rfl, Lib.hid ⟨ho1, hf1, hb1⟩⟩
          rintro _ x1 ⟨m1, t1, fa1, fc1, fs1, ba1, bn1, bc1, rfl, HO1⟩
          have HD1 := Lib.hid (HD.out.trans (HO1.out.2.2.mono HD.out.size))
          refine ⟨⟨HQ.out x1 HD1.out, HR.out x1 HD1.out⟩, ?_⟩
          clear hH
          have hH := And.intro (HQ.out x1 HD1.out) (HR.out x1 HD1.out)
          try simp only [Act.put, List.setIfInBounds_toArray, List.set_cons_zero, List.set_cons_succ]
          refine wpAnyH_stepTo (i := 3) (d := some 25) (by kernel_rfl) rfl rfl (by rfl) (fun u x => ∃ (st : Nat) (t : ByteArray) (fa : Option Addr) (fc : Nat) (fs : Fls) (ba : Option Addr) (bn bc : Nat), u = .agg #[.int .i64 (st : Int), .string t, .slice fa fs.length fc, .slice ba bn bc] ∧ Hid (x.ownsRow x1.heap.size 48 2 (.slice fa fs.length fc) fs.length (fieldCells fs) ∧ FewF fs ∧ Below x1.heap.size x1 x)) (fun K' hK' => ?_) ?_
          · go_simp
            go_at_call 13
            refine Calls.mono (CR.out _) ?_
            rintro e x2 ⟨st2, t2, fa2, fc2, fs2, ba2, bn2, bc2, rfl, ho2, hf2, _, hb2⟩
            exact hK' _ _ ⟨st2, t2, fa2, fc2, fs2, ba2, bn2, bc2, rfl, Lib.hid ⟨ho2, hf2, hb2⟩⟩
          rintro _ x2 ⟨st2, t2, fa2, fc2, fs2, ba2, bn2, bc2, rfl, HO2⟩
          have HD2 := Lib.hid (HD1.out.trans (HO2.out.2.2.mono HD1.out.size))
          refine ⟨⟨HQ.out x2 HD2.out, HR.out x2 HD2.out⟩, ?_⟩
          clear hH
          have hsz := HSZ.out
          have hzx := HD.out.size
          have hzx1 := HD1.out.size
          have G1 : Hid ((x2.setCells w.heap.size 0 [.string m1, .string t1, .slice fa1 fs1.length fc1, .slice ba1 bn1 bc1]).heap[w.heap.size]? = some (.cells #[.string m1, .string t1, .slice fa1 fs1.length fc1, .slice ba1 bn1 bc1] 25 (0, 0))) := Lib.hid (heap_setCells (g := w.heap.size) (t := 25) [.string m1, .string t1, .slice fa1 fs1.length fc1, .slice ba1 bn1 bc1] [] [.string m, .string t, .slice fa n fc, .slice ba bn bc] [] x2 (HREQ.out x2 HD2.out) rfl)
          have P2 := Lib.hid (HRESP.out x2 HD2.out)
          obtain ⟨x3, hx3⟩ : ∃ y, x2.setCells w.heap.size 0 [.string m1, .string t1, .slice fa1 fs1.length fc1, .slice ba1 bn1 bc1] = y := ⟨_, rfl⟩
          have P3 : Hid (x3.heap[w.heap.size + 1]? = some (.cells #[.int .i64 st, .string rs, .slice ga n' gc, .slice ha hn hc] 27 (0, 0))) := Lib.hid (by rw [← hx3]; exact (heap_other _ _ (by omega) _ _ _).trans P2.out)
          have S3 : x3.heap[w.heap.size + 1 + 1]? = some (.cells #[.int .u8 q0, .int .u8 q1, .int .u8 q2, .int .u8 q3, .int .u8 q4, .int .u8 q5] 29 (0, 0)) ∧ x3.heap[w.heap.size + 1 + 1 + 1]? = some (.cells #[.int .u8 r0, .int .u8 r1, .int .u8 r2, .int .u8 r3, .int .u8 r4, .int .u8 r5] 31 (0, 0)) := by
            rw [← hx3]; exact ⟨(heap_other _ _ (by omega) _ _ _).trans (HQ.out x2 HD2.out), (heap_other _ _ (by omega) _ _ _).trans (HR.out x2 HD2.out)⟩
          have O3 : Hid (x3.ownsRow x0.heap.size 48 2 (.slice fa1 fs1.length fc1) fs1.length (fieldCells fs1) ∧ x3.ownsRow x1.heap.size 48 2 (.slice fa2 fs2.length fc2) fs2.length (fieldCells fs2)) := Lib.hid (by
            rw [← hx3]; exact ⟨own_sets (by omega) _ _ _ (ownsRow_below HO1.out.1 HO2.out.2.2), own_sets (by omega) _ _ _ HO2.out.1⟩)
          have B3 : Hid (Below w.heap.size w x3) := Lib.hid (by rw [← hx3]; exact bl_set (HB.out.trans (HD2.out.mono HB.out.size)) (Nat.le_refl _))
          rw [hx3] at G1
          try simp only [Act.put, List.setIfInBounds_toArray, List.set_cons_zero, List.set_cons_succ]
          refine wpAnyH_storeTo (i := 4) (by kernel_rfl) rfl rfl (by rfl) 25 (.tmp 5) (.tmp 23) rfl w.heap.size 0 #[.string m1, .string t1, .slice fa1 fs1.length fc1, .slice ba1 bn1 bc1] rfl rfl (there_of (HREQ.out x2 HD2.out) 0 4 (by simp)) info_req (by simp [Value.oneCell']) (by simp only [hx3]; exact S3) ?_
          simp only [hx3]
          have G2 : Hid ((x3.setCells (w.heap.size + 1) 0 [.int .i64 (st2 : Int), .string t2, .slice fa2 fs2.length fc2, .slice ba2 bn2 bc2]).heap[w.heap.size + 1]? = some (.cells #[.int .i64 (st2 : Int), .string t2, .slice fa2 fs2.length fc2, .slice ba2 bn2 bc2] 27 (0, 0))) := Lib.hid (heap_setCells (g := w.heap.size + 1) (t := 27) [.int .i64 (st2 : Int), .string t2, .slice fa2 fs2.length fc2, .slice ba2 bn2 bc2] [] [.int .i64 st, .string rs, .slice ga n' gc, .slice ha hn hc] [] x3 P3.out rfl)
          obtain ⟨x4, hx4⟩ : ∃ y, x3.setCells (w.heap.size + 1) 0 [.int .i64 (st2 : Int), .string t2, .slice fa2 fs2.length fc2, .slice ba2 bn2 bc2] = y := ⟨_, rfl⟩
          have S4 : x4.heap[w.heap.size + 1 + 1]? = some (.cells #[.int .u8 q0, .int .u8 q1, .int .u8 q2, .int .u8 q3, .int .u8 q4, .int .u8 q5] 29 (0, 0)) ∧ x4.heap[w.heap.size + 1 + 1 + 1]? = some (.cells #[.int .u8 r0, .int .u8 r1, .int .u8 r2, .int .u8 r3, .int .u8 r4, .int .u8 r5] 31 (0, 0)) := by
            rw [← hx4]; exact ⟨(heap_other _ _ (by omega) _ _ _).trans S3.1, (heap_other _ _ (by omega) _ _ _).trans S3.2⟩
          have G14 : Hid (x4.heap[w.heap.size]? = some (.cells #[.string m1, .string t1, .slice fa1 fs1.length fc1, .slice ba1 bn1 bc1] 25 (0, 0))) := Lib.hid (by rw [← hx4]; exact (heap_other _ _ (by omega) _ _ _).trans G1.out)
          have O4 : Hid (FieldsIn x4.heap.size x4 fa1 fs1 ∧ FieldsIn x4.heap.size x4 fa2 fs2) := Lib.hid (by
            rw [← hx4]; exact ⟨own_in (own_sets (by omega) _ _ _ O3.out.1), own_in (own_sets (by omega) _ _ _ O3.out.2)⟩)
          have B4 : Hid (Below w.heap.size w x4) := Lib.hid (by rw [← hx4]; exact bl_set B3.out (by omega))
          rw [hx4] at G2
          refine wpAnyH_storeTo (i := 5) (by kernel_rfl) rfl rfl (by rfl) 27 (.tmp 6) (.tmp 25) rfl (w.heap.size + 1) 0 #[.int .i64 (st2 : Int), .string t2, .slice fa2 fs2.length fc2, .slice ba2 bn2 bc2] rfl rfl (there_of P3.out 0 4 (by simp)) info_resp (by simp [Value.oneCell']) (by simp only [hx4]; exact S4) ?_
          simp only [hx4]
          clear hx3 hx4 S3 S4 hsz hzx hzx1
          refine wpAnyH_done (by kernel_rfl) ?_ _
          go_wp2_with fail
          go_meet
          exact Lib.hid ⟨m1, t1, fa1, fc1, fs1, ba1, bn1, bc1, _, t2, fa2, fc2, fs2, ba2, bn2, bc2, G14.out, G2.out, O4.out.1, HO1.out.2.1, O4.out.2, HO2.out.2.1, B4.out⟩
      case rest =>
        obtain ⟨m, t, fa, fc, fs, ba, bn, bc, st, rs, ga, gc, gs, ha, hn, hc, HA0, HA1, HF0, HF1, HG0, HG1, HBX⟩ := hcut.out
        obtain ⟨b, hbb⟩ : ∃ b, mayF m fs st gs hn = b := ⟨_, rfl⟩
        obtain ⟨s, hs⟩ : ∃ s, safeF m = s := ⟨_, rfl⟩
        have K1 := Lib.hid (may_kin m t fs fa fc ba bn bc st rs gs ga gc ha hn hc wc HF0 HF1 HG0 HG1 hbb)
        have K2 := Lib.hid (refMay_kin m t fs fa fc ba bn bc st rs gs ga gc ha hn hc HF0 HF1 HG0 HG1 hbb)
        have K3 := Lib.hid (fun x : Kin wc => safe_kin m hs x)
        have K4 := Lib.hid (fun x : Kin wc => refSafe_kin m hs x)
        have KA : Hid (∀ x : Kin wc, x.wd.cell? ⟨w.heap.size, 0, none⟩ = some (.string m) ∧ x.wd.cell? ⟨w.heap.size, 1, none⟩ = some (.string t) ∧ x.wd.cell? ⟨w.heap.size, 2, none⟩ = some (.slice fa fs.length fc) ∧ x.wd.cell? ⟨w.heap.size, 3, none⟩ = some (.slice ba bn bc)) := Lib.hid (fun x => four_at (kin_block x HA0))
        have KB : Hid (∀ x : Kin wc, x.wd.cell? ⟨w.heap.size + 1, 0, none⟩ = some (.int .i64 st) ∧ x.wd.cell? ⟨w.heap.size + 1, 1, none⟩ = some (.string rs) ∧ x.wd.cell? ⟨w.heap.size + 1, 2, none⟩ = some (.slice ga gs.length gc) ∧ x.wd.cell? ⟨w.heap.size + 1, 3, none⟩ = some (.slice ha hn hc)) := Lib.hid (fun x => four_at (kin_block x HA1))
        have HBX' := Lib.hid HBX
        obtain ⟨n, hn1⟩ : ∃ n, fs.length = n := ⟨_, rfl⟩
        obtain ⟨n', hn2⟩ : ∃ n, gs.length = n := ⟨_, rfl⟩
        rw [hn1] at K1 K2 KA
        rw [hn2] at K1 K2 KB
        clear hcut HA0 HA1 HF0 HF1 HG0 HG1 HBX hbb hs hn1 hn2
        go_upto_region 7 with (fail)
        have a0 := fun x => (KA.out x).1
        have a1 := fun x => (KA.out x).2.1
        have a2 := fun x => (KA.out x).2.2.1
        have a3 := fun x => (KA.out x).2.2.2
        have b0 := fun x => (KB.out x).1
        have b1 := fun x => (KB.out x).2.1
        have b2 := fun x => (KB.out x).2.2.1
        have b3 := fun x => (KB.out x).2.2.2
        have e1 : (b == b) = true := beq_self_eq_true b
        have e2 : (s == s) = true := beq_self_eq_true s
        refine wp_region_kin (by kernel_rfl) (by kernel_rfl) ?_
        repeat (go_big_quiet_step (first | (go_at_call 14; with_reducible exact K1.out _) | (go_at_call 15; with_reducible exact K2.out _) | (go_at_call 16; with_reducible exact K3.out _) | (go_at_call 17; with_reducible exact K4.out _)))
        refine wpQuiet_nil ?_
        intro _ hx
        obtain ⟨x, rfl⟩ := hx
        clear a0 a1 a2 a3 b0 b1 b2 b3
        go_wp2
        go_ret
        exact ⟨rfl, HBX'.out.trans (x.below.mono HBX'.out.size)⟩
end Go.Proofs.YtgfinhkplijhbaaGreatDoor
