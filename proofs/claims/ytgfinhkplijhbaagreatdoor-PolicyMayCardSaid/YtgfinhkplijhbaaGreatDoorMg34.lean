/-
  The reference's May: the same seven rules.
-/
import Derived.Deep.DeepCutAuto
import Derived.Test.YtgfinhkplijhbaaGreatDoorMg18
import Derived.Test.YtgfinhkplijhbaaGreatDoorMg25
import Derived.Test.YtgfinhkplijhbaaGreatDoorMg29
import Derived.Test.YtgfinhkplijhbaaGreatDoorMg30
namespace Go.Proofs.YtgfinhkplijhbaaGreatDoor
open Go.RowKit HeadMath HeadS CtrlS VaryS

def GotPost (n : ByteArray) (fs : Fls) (w : World) (e : Ending) (w' : World) : Prop := ∃ x, e = .returned (.tuple #[.string x, .bool (getF n fs).isSome]) ∧ Below w.heap.size w w'
theorem got_of {n : ByteArray} {fs : Fls} {w w' : World} {e : Ending} (h : GetPost n fs w e w') : GotPost n fs w e w' := by
  obtain ⟨hb, ⟨h, rfl⟩ | ⟨v, h, rfl⟩⟩ := h
  · exact ⟨_, by rw [h]; rfl, hb⟩
  · exact ⟨v, by rw [h]; rfl, hb⟩
def StarPost (b : Bool) (w : World) (e : Ending) (w' : World) : Prop := ∃ a n c, e = .returned (.tuple #[.slice a n c, .bool b]) ∧ Below w.heap.size w w'
theorem star_of {l : List ByteArray} {w w' : World} {e : Ending} (h : NamesPost l w e w') : StarPost (starP l) w e w' := by
  obtain ⟨a, c, rfl, _, hb⟩ := h
  exact ⟨a, _, c, rfl, hb⟩
set_option maxRecDepth 100000 in
set_option maxHeartbeats 32000000 in
theorem refMay_any (w : World) (m tg : ByteArray) (fq : Fls) (fa : Option Addr) (fc : Nat) (ba : Option Addr) (bn bc : Nat) (st : Int) (rs : ByteArray) (fr : Fls) (ga : Option Addr) (gc : Nat) (ha : Option Addr) (hn hc : Nat)
    (hiq : FieldsIn w.heap.size w fa fq) (hfq : FewF fq) (hir : FieldsIn w.heap.size w ga fr) (hfr : FewF fr) :
    Calls Tryz.prog 15 #[.agg #[.string m, .string tg, .slice fa fq.length fc, .slice ba bn bc], .agg #[.int .i64 st, .string rs, .slice ga fr.length gc, .slice ha hn hc]] w (RulePost (mayF m fq st fr hn) w) := by
  obtain ⟨v, hv⟩ : ∃ v, (w.alloc (.cells #[.string m, .string tg, .slice fa fq.length fc, .slice ba bn bc] 25)).alloc (.cells #[.int .i64 st, .string rs, .slice ga fr.length gc, .slice ha hn hc] 27) = v := ⟨_, rfl⟩
  have hb : Below w.heap.size w v := by rw [← hv]; exact ((Below.refl _ _).alloc (Nat.le_refl _) _).alloc (by simp) _
  have hsz : v.heap.size = w.heap.size + 2 := by rw [← hv]; simp
  have h0 : v.heap[w.heap.size]? = some (.cells #[.string m, .string tg, .slice fa fq.length fc, .slice ba bn bc] 25 (0, 0)) := by rw [← hv]; exact stood0 (heap_alloc_new w _)
  have h1 : v.heap[w.heap.size + 1]? = some (.cells #[.int .i64 st, .string rs, .slice ga fr.length gc, .slice ha hn hc] 27 (0, 0)) := by rw [← hv]; exact new1 w _ _
  have P1 : Hid (∀ x, Below v.heap.size v x → Calls Tryz.prog 38 #[.slice fa fq.length fc] x fun e w' => e = .returned (ctlV (CtrlS.parseF fq)) ∧ Below x.heap.size x w' ∧ Below v.heap.size v w') := Lib.hid (fun x hx => (refControl_any fq fa fc x (kin_in (w := w) ⟨x, hb.trans (hx.mono hb.size)⟩ hiq) hfq).mono fun _ _ ⟨he, hb'⟩ => ⟨he, hb', hx.trans (hb'.mono hx.size)⟩)
  have P2 : Hid (∀ x, Below v.heap.size v x → Calls Tryz.prog 38 #[.slice ga fr.length gc] x fun e w' => e = .returned (ctlV (CtrlS.parseF fr)) ∧ Below x.heap.size x w' ∧ Below v.heap.size v w') := Lib.hid (fun x hx => (refControl_any fr ga gc x (kin_in (w := w) ⟨x, hb.trans (hx.mono hb.size)⟩ hir) hfr).mono fun _ _ ⟨he, hb'⟩ => ⟨he, hb', hx.trans (hb'.mono hx.size)⟩)
  have C3 : Hid (∀ x, Below v.heap.size v x → Calls Tryz.prog 39 #[.agg #[.int .i64 st, .string rs, .slice ga fr.length gc, .slice ha hn hc]] x (StarPost (starP (listF varyN fr)) x)) := Lib.hid (fun x hx => (refNames_any fr st rs ga ha gc hn hc x (kin_in (w := w) ⟨x, hb.trans (hx.mono hb.size)⟩ hir) hfr).mono fun _ _ h => star_of h)
  have C4 : Hid (∀ x, Below v.heap.size v x → Calls Tryz.prog 40 #[.slice fa fq.length fc, .string authN] x (GotPost authN fq x)) := Lib.hid (fun x hx => (refGet_any fq authN fa fc fq.length x (kin_in (w := w) ⟨x, hb.trans (hx.mono hb.size)⟩ hiq) rfl hfq.small (by have := hfq.1; omega) (by decide)).mono fun _ _ h => got_of h)
  have C5 : Hid (∀ x, Below v.heap.size v x → Calls Tryz.prog 40 #[.slice ga fr.length gc, .string expN] x (GotPost expN fr x)) := Lib.hid (fun x hx => (refGet_any fr expN ga gc fr.length x (kin_in (w := w) ⟨x, hb.trans (hx.mono hb.size)⟩ hir) rfl hfr.small (by have := hfr.1; omega) (by decide)).mono fun _ _ h => got_of h)
  have CH : Hid (∀ x, Calls Tryz.prog 21 #[.int .i64 st] x fun e w' => e = .returned (.bool (heurF st)) ∧ Below x.heap.size x w') := Lib.hid (fun x => refHeur_any st x)
  have HVAL : Hid (mayF m fq st fr hn = ((m.toList == [71, 69, 84]) && statusF st && (!(CtrlS.parseF fq).noStore && !(CtrlS.parseF fr).noStore && !(CtrlS.parseF fr).priv) && (!(getF authN fq).isSome || (CtrlS.parseF fr).pub || (CtrlS.parseF fr).must || decide (0 ≤ (CtrlS.parseF fr).sMax)) && !starP (listF varyN fr) && ((CtrlS.parseF fr).pub || decide (0 ≤ (CtrlS.parseF fr).maxA) || decide (0 ≤ (CtrlS.parseF fr).sMax) || (getF expN fr).isSome || heurF st) && decide (hn ≤ 60000))) := Lib.hid rfl
  obtain ⟨R, hR⟩ : ∃ R, mayF m fq st fr hn = R := ⟨_, rfl⟩
  rw [hR] at HVAL ⊢
  obtain ⟨X, hX⟩ : ∃ X, CtrlS.parseF fq = X := ⟨_, rfl⟩
  obtain ⟨Y, hY⟩ : ∃ X, CtrlS.parseF fr = X := ⟨_, rfl⟩
  rw [hX, hY] at HVAL
  rw [hX] at P1
  rw [hY] at P2
  obtain ⟨sb, hsb⟩ : ∃ b, starP (listF varyN fr) = b := ⟨_, rfl⟩
  obtain ⟨ab, hab⟩ : ∃ b, (getF authN fq).isSome = b := ⟨_, rfl⟩
  obtain ⟨eb, heb⟩ : ∃ b, (getF expN fr).isSome = b := ⟨_, rfl⟩
  obtain ⟨ub, hub⟩ : ∃ b, heurF st = b := ⟨_, rfl⟩
  unfold GotPost at C4 C5
  unfold StarPost at C3
  rw [hsb] at HVAL C3
  rw [hab] at HVAL C4
  rw [heb] at HVAL C5
  rw [hub] at HVAL CH
  obtain ⟨b1, e1⟩ : ∃ b, (m.toList == [71, 69, 84]) = b := ⟨_, rfl⟩
  obtain ⟨b2, e2⟩ : ∃ b, decide (st < 200) = b := ⟨_, rfl⟩
  obtain ⟨b3, e3⟩ : ∃ b, (st == 206) = b := ⟨_, rfl⟩
  obtain ⟨b4, e4⟩ : ∃ b, (st == 304) = b := ⟨_, rfl⟩
  obtain ⟨b9, e9⟩ : ∃ b, decide ((60000 : Int) < (hn : Int)) = b := ⟨_, rfl⟩
  have e9n : decide (60000 < hn) = b9 := by rw [← e9]; exact decide_eq_decide.2 (by omega)
  have HST : Hid (statusF st = (!b2 && !b3 && !b4)) := Lib.hid (by
    unfold statusF
    rw [← e2, ← e3, ← e4]
    have : decide (200 ≤ st) = !decide (st < 200) := by
      by_cases h : st < 200
      · rw [decide_eq_true h, decide_eq_false (by omega)]; rfl
      · rw [decide_eq_false h, decide_eq_true (by omega)]; rfl
    rw [this]
    rfl)
  have HHN : Hid (decide (hn ≤ 60000) = !b9) := Lib.hid (by
    rw [← e9n]
    by_cases h : 60000 < hn
    · rw [decide_eq_true h, decide_eq_false (by omega)]; rfl
    · rw [decide_eq_false h, decide_eq_true (by omega)]; rfl)
  rw [e1, HST.out, HHN.out] at HVAL
  obtain ⟨y0, g0⟩ : ∃ b, Y.noStore = b := ⟨_, rfl⟩
  obtain ⟨y2, g2⟩ : ∃ b, Y.priv = b := ⟨_, rfl⟩
  obtain ⟨y3, g3⟩ : ∃ b, Y.pub = b := ⟨_, rfl⟩
  obtain ⟨y4, g4⟩ : ∃ b, Y.must = b := ⟨_, rfl⟩
  obtain ⟨y8, g8⟩ : ∃ b, Y.maxA = b := ⟨_, rfl⟩
  obtain ⟨y9, g9⟩ : ∃ b, Y.sMax = b := ⟨_, rfl⟩
  obtain ⟨x0, i0⟩ : ∃ b, X.noStore = b := ⟨_, rfl⟩
  rw [g0, g2, g3, g4, g8, g9, i0] at HVAL
  obtain ⟨d8, k8⟩ : ∃ b, decide (0 ≤ y8) = b := ⟨_, rfl⟩
  obtain ⟨d9, k9⟩ : ∃ b, decide (0 ≤ y9) = b := ⟨_, rfl⟩
  have k9n : decide (y9 < 0) = !d9 := by
    rw [← k9]
    by_cases h : y9 < 0
    · rw [decide_eq_true h, decide_eq_false (by omega)]; rfl
    · rw [decide_eq_false h, decide_eq_true (by omega)]; rfl
  rw [k8, k9] at HVAL
  have HCX : Hid (∀ (y : World) (g : Nat), CtlAt y g X → y.cell? ⟨g, 0, none⟩ = some (.bool x0)) := Lib.hid (fun y g h => by rw [← i0]; exact (ctl_reads h).1)
  have HCY : Hid (∀ (y : World) (g : Nat), CtlAt y g Y → y.cell? ⟨g, 0, none⟩ = some (.bool y0) ∧ y.cell? ⟨g, 2, none⟩ = some (.bool y2) ∧ y.cell? ⟨g, 3, none⟩ = some (.bool y3) ∧ y.cell? ⟨g, 4, none⟩ = some (.bool y4) ∧ y.cell? ⟨g, 8, none⟩ = some (.int .i64 y8) ∧ y.cell? ⟨g, 9, none⟩ = some (.int .i64 y9)) := Lib.hid (fun y g h => by
    rw [← g0, ← g2, ← g3, ← g4, ← g8, ← g9]
    exact ⟨(ctl_reads h).1, (ctl_reads h).2.2.1, (ctl_reads h).2.2.2.1, (ctl_reads h).2.2.2.2.1, (ctl_reads h).2.2.2.2.2.2.2.2.1, (ctl_reads h).2.2.2.2.2.2.2.2.2.1⟩)
  obtain ⟨nq, hnq⟩ : ∃ m, fq.length = m := ⟨_, rfl⟩
  obtain ⟨nr, hnr⟩ : ∃ m, fr.length = m := ⟨_, rfl⟩
  rw [hnq] at P1 C4 h0 hv ⊢
  rw [hnr] at P2 C3 C5 h1 hv ⊢
  unfold authN at C4
  unfold expN at C5
  unfold ctlV at P1 P2
  have HSEE : Hid (∀ x, Below v.heap.size v x → x.cell? ⟨w.heap.size, 2, none⟩ = some (.slice fa nq fc) ∧ x.cell? ⟨w.heap.size + 1, 2, none⟩ = some (.slice ga nr gc)) := Lib.hid (fun x hx => ⟨(four_at ((hx.block _ (Array.getElem?_eq_some_iff.1 h0).1).trans h0)).2.2.1, (four_at ((hx.block _ (Array.getElem?_eq_some_iff.1 h1).1).trans h1)).2.2.1⟩)
  have HALL : Hid (∀ x, Below v.heap.size v x → x.cell? ⟨w.heap.size, 0, none⟩ = some (.string m) ∧ x.cell? ⟨w.heap.size, 2, none⟩ = some (.slice fa nq fc) ∧ x.cell? ⟨w.heap.size + 1, 0, none⟩ = some (.int .i64 st) ∧ x.cell? ⟨w.heap.size + 1, 1, none⟩ = some (.string rs) ∧ x.cell? ⟨w.heap.size + 1, 2, none⟩ = some (.slice ga nr gc) ∧ x.cell? ⟨w.heap.size + 1, 3, none⟩ = some (.slice ha hn hc)) := Lib.hid (fun x hx => by
    obtain ⟨a0, a1, a2, a3⟩ := four_at ((hx.block _ (Array.getElem?_eq_some_iff.1 h0).1).trans h0)
    obtain ⟨c0, c1, c2, c3⟩ := four_at ((hx.block _ (Array.getElem?_eq_some_iff.1 h1).1).trans h1)
    exact ⟨a0, a2, c0, c1, c2, c3⟩)
  have HV := Lib.hid hv
  have HB := Lib.hid hb
  have E1 := Lib.hid e1
  have E2 := Lib.hid e2
  have E3 := Lib.hid e3
  have E4 := Lib.hid e4
  have E9 := Lib.hid e9
  have E9n := Lib.hid e9n
  have K8 := Lib.hid k8
  have K9 := Lib.hid k9
  have K9n := Lib.hid k9n
  clear hiq hfq hir hfr hnq hnr hX hY hb hv hsz h0 h1 hR hsb hab heb hub e1 e2 e3 e4 e9 e9n HST HHN g0 g2 g3 g4 g8 g9 i0 k8 k9 k9n
  unfold RulePost
  go_enter Tryz.func15, Tryz.ntmps15
  go_upto_region 1 with (fail)
  change Code.wp _ _ _ _ ((w.alloc (.cells #[.string m, .string tg, .slice fa nq fc, .slice ba bn bc] 25)).alloc (.cells #[.int .i64 st, .string rs, .slice ga nr gc, .slice ha hn hc] 27))
  rw [HV.out]
  have hbd : Below v.heap.size v v.drew := (Below.refl _ _).drew
  go_cut [5, 6] (fun s5 s6 wx => ∃ g h : Nat, s5 = .pointer (some ⟨g, 0, none⟩) ∧ s6 = .pointer (some ⟨h, 0, none⟩) ∧ CtlAt wx g X ∧ CtlAt wx h Y ∧ Below v.heap.size v wx)
  case first =>
    refine wp_region_held_drew (S := fun x => x.cell? ⟨w.heap.size, 2, none⟩ = some (.slice fa nq fc) ∧ x.cell? ⟨w.heap.size + 1, 2, none⟩ = some (.slice ga nr gc)) (by kernel_rfl) (HSEE.out _ hbd) (fun hH => ?_)
    refine wpAnyH_takeTo (i := 0) (d := some 13) (v := .pointer (some ⟨w.heap.size, 2, none⟩)) rfl rfl (by kernel_rfl) (by kernel_rfl) (by kernel_rfl) (fun _ _ _ h => h) (Or.inl ⟨by rfl, fun x hx => ?_⟩) hH ?_
    · obtain ⟨f0, f1⟩ := hx
      go_simp
    try simp only [Act.put, List.setIfInBounds_toArray, List.set_cons_zero, List.set_cons_succ]
    refine wpAnyH_takeTo (i := 1) (d := some 14) (v := .slice fa nq fc) rfl rfl (by kernel_rfl) (by kernel_rfl) (by kernel_rfl) (fun _ _ _ h => h) (Or.inl ⟨by rfl, fun x hx => ?_⟩) hH ?_
    · obtain ⟨f0, f1⟩ := hx
      go_simp
    try simp only [Act.put, List.setIfInBounds_toArray, List.set_cons_zero, List.set_cons_succ]
    refine wpAnyH_takeTo (i := 3) (d := some 16) (v := .pointer (some ⟨w.heap.size + 1, 2, none⟩)) rfl rfl (by kernel_rfl) (by kernel_rfl) (by kernel_rfl) (fun _ _ _ h => h) (Or.inl ⟨by rfl, fun x hx => ?_⟩) hH ?_
    · obtain ⟨f0, f1⟩ := hx
      go_simp
    try simp only [Act.put, List.setIfInBounds_toArray, List.set_cons_zero, List.set_cons_succ]
    refine wpAnyH_takeTo (i := 4) (d := some 17) (v := .slice ga nr gc) rfl rfl (by kernel_rfl) (by kernel_rfl) (by kernel_rfl) (fun _ _ _ h => h) (Or.inl ⟨by rfl, fun x hx => ?_⟩) hH ?_
    · obtain ⟨f0, f1⟩ := hx
      go_simp
    try simp only [Act.put, List.setIfInBounds_toArray, List.set_cons_zero, List.set_cons_succ]
    obtain ⟨y0_, hy0⟩ : ∃ y, v.drew = y := ⟨_, rfl⟩
    rw [hy0] at hbd hH ⊢
    have HBy0_ := Lib.hid hbd
    clear hy0 hbd
    refine wpAnyH_ready (rs := [2, 6, 7]) (by kernel_rfl) (by simp) (AllReadyH.cons rfl (fun K hK => ?_) (AllReadyH.cons rfl (fun K hK => ?_) (AllReadyH.cons rfl (fun K hK => ?_) AllReadyH.nil)))
    · rw [if_pos (by rfl)]
      go_simp
      go_at_call 38
      refine Calls.mono (P1.out _ HBy0_.out) ?_
      rintro e y1 ⟨rfl, hbx, hbn⟩
      have HBy1 := Lib.hid hbn
      refine hK.out _ _ (HSEE.out _ hbn) (fun hH => ?_)
      clear hK K hbx hbn
      try simp only [Act.put, List.setIfInBounds_toArray, List.set_cons_zero, List.set_cons_succ]
      refine wpAnyH_ready (rs := [5, 6, 7]) (by kernel_rfl) (by simp) (AllReadyH.cons rfl (fun K hK => ?_) (AllReadyH.cons rfl (fun K hK => ?_) (AllReadyH.cons rfl (fun K hK => ?_) AllReadyH.nil)))
      · rw [if_pos (by rfl)]
        go_simp
        go_at_call 38
        refine Calls.mono (P2.out _ HBy1.out) ?_
        rintro e y2 ⟨rfl, hbx, hbn⟩
        have HBy2 := Lib.hid hbn
        refine hK.out _ _ (HSEE.out _ hbn) (fun hH => ?_)
        clear hK K hbx hbn
        try simp only [Act.put, List.setIfInBounds_toArray, List.set_cons_zero, List.set_cons_succ]
        refine wpAnyH_ready (rs := [6, 7]) (by kernel_rfl) (by simp) (AllReadyH.cons rfl (fun K hK => ?_) (AllReadyH.cons rfl (fun K hK => ?_) AllReadyH.nil))
        · rw [if_pos (by rfl)]
          go_simp
          obtain ⟨y3, hy⟩ : ∃ y, y2.alloc zeroO = y := ⟨_, rfl⟩
          have hbn : Below v.heap.size v y3 := by rw [← hy]; exact bl1 HBy2.out
          have Z5y3 : Hid (ZeroAt y3 y2.heap.size) := Lib.hid (by rw [← hy]; exact zero_new y2)
          have HG5 : Hid (v.heap.size ≤ y2.heap.size) := Lib.hid HBy2.out.size
          have HBy3 := Lib.hid hbn
          change K _ (y2.alloc zeroO)
          rw [hy]
          refine hK.out _ _ (HSEE.out _ hbn) (fun hH => ?_)
          clear hK K hy hbn
          try simp only [Act.put, List.setIfInBounds_toArray, List.set_cons_zero, List.set_cons_succ]
          refine wpAnyH_ready (rs := [7]) (by kernel_rfl) (by simp) (AllReadyH.cons rfl (fun K hK => ?_) AllReadyH.nil)
          · rw [if_pos (by rfl)]
            go_simp
            obtain ⟨y4, hy⟩ : ∃ y, y3.alloc zeroO = y := ⟨_, rfl⟩
            have hbn : Below v.heap.size v y4 := by rw [← hy]; exact bl1 HBy3.out
            have Z5y4 : Hid (ZeroAt y4 y2.heap.size) := Lib.hid (by rw [← hy]; exact zero_al Z5y3.out)
            have Z6y4 : Hid (ZeroAt y4 y3.heap.size) := Lib.hid (by rw [← hy]; exact zero_new y3)
            have HG6 : Hid (v.heap.size ≤ y3.heap.size) := Lib.hid HBy3.out.size
            have HNE : Hid (y2.heap.size ≠ y3.heap.size) := Lib.hid (by have h := (Array.getElem?_eq_some_iff.1 Z5y3.out).1; omega)
            have HBy4 := Lib.hid hbn
            change K _ (y3.alloc zeroO)
            rw [hy]
            refine hK.out _ _ (HSEE.out _ hbn) (fun hH => ?_)
            clear hK K hy hbn
            try simp only [Act.put, List.setIfInBounds_toArray, List.set_cons_zero, List.set_cons_succ]
            have hS1 := HSEE.out _ (bl_set (b := y2.heap.size) (l := (#[.bool X.noStore, .bool X.noCache, .bool X.priv, .bool X.pub, .bool X.must, .bool X.prox, .bool X.only, .bool X.anyStale, .int .i64 X.maxA, .int .i64 X.sMax, .int .i64 X.minF, .int .i64 X.maxS] : Array Value).toList) HBy4.out HG5.out)
            refine wpAnyH_storeTo (i := 8) (by kernel_rfl) rfl rfl (by rfl) 58 (.tmp 5) (.tmp 15) rfl y2.heap.size 0 (#[.bool X.noStore, .bool X.noCache, .bool X.priv, .bool X.pub, .bool X.must, .bool X.prox, .bool X.only, .bool X.anyStale, .int .i64 X.maxA, .int .i64 X.sMax, .int .i64 X.minF, .int .i64 X.maxS]) rfl rfl (zero_there Z5y4.out) infoCtl (onesCtl X) hS1 ?_
            have HBS := Lib.hid (bl_set (b := y2.heap.size) (l := (#[.bool X.noStore, .bool X.noCache, .bool X.priv, .bool X.pub, .bool X.must, .bool X.prox, .bool X.only, .bool X.anyStale, .int .i64 X.maxA, .int .i64 X.sMax, .int .i64 X.minF, .int .i64 X.maxS] : Array Value).toList) HBy4.out HG5.out)
            have CX := Lib.hid (ctl_at X Z5y4.out)
            have ZY := Lib.hid (zero_keep (b := y2.heap.size) (l := (#[.bool X.noStore, .bool X.noCache, .bool X.priv, .bool X.pub, .bool X.must, .bool X.prox, .bool X.only, .bool X.anyStale, .int .i64 X.maxA, .int .i64 X.sMax, .int .i64 X.minF, .int .i64 X.maxS] : Array Value).toList) Z6y4.out (Ne.symm HNE.out))
            have hS2 := HSEE.out _ (bl_set (b := y3.heap.size) (l := (#[.bool Y.noStore, .bool Y.noCache, .bool Y.priv, .bool Y.pub, .bool Y.must, .bool Y.prox, .bool Y.only, .bool Y.anyStale, .int .i64 Y.maxA, .int .i64 Y.sMax, .int .i64 Y.minF, .int .i64 Y.maxS] : Array Value).toList) HBS.out HG6.out)
            refine wpAnyH_storeTo (i := 9) (by kernel_rfl) rfl rfl (by rfl) 58 (.tmp 6) (.tmp 18) rfl y3.heap.size 0 (#[.bool Y.noStore, .bool Y.noCache, .bool Y.priv, .bool Y.pub, .bool Y.must, .bool Y.prox, .bool Y.only, .bool Y.anyStale, .int .i64 Y.maxA, .int .i64 Y.sMax, .int .i64 Y.minF, .int .i64 Y.maxS]) rfl rfl (zero_there ZY.out) infoCtl (onesCtl Y) hS2 ?_
            refine wpAnyH_done (by kernel_rfl) ?_ _
            go_wp2_with fail
            go_meet
            exact ⟨_, _, rfl, rfl, ctl_keep CX.out HNE.out, ctl_at Y ZY.out, bl_set HBS.out HG6.out⟩
        · rw [if_pos (by rfl)]
          go_simp
          obtain ⟨y5, hy⟩ : ∃ y, y2.alloc zeroO = y := ⟨_, rfl⟩
          have hbn : Below v.heap.size v y5 := by rw [← hy]; exact bl1 HBy2.out
          have Z6y5 : Hid (ZeroAt y5 y2.heap.size) := Lib.hid (by rw [← hy]; exact zero_new y2)
          have HG6 : Hid (v.heap.size ≤ y2.heap.size) := Lib.hid HBy2.out.size
          have HBy5 := Lib.hid hbn
          change K _ (y2.alloc zeroO)
          rw [hy]
          refine hK.out _ _ (HSEE.out _ hbn) (fun hH => ?_)
          clear hK K hy hbn
          try simp only [Act.put, List.setIfInBounds_toArray, List.set_cons_zero, List.set_cons_succ]
          refine wpAnyH_ready (rs := [6]) (by kernel_rfl) (by simp) (AllReadyH.cons rfl (fun K hK => ?_) AllReadyH.nil)
          · rw [if_pos (by rfl)]
            go_simp
            obtain ⟨y6, hy⟩ : ∃ y, y5.alloc zeroO = y := ⟨_, rfl⟩
            have hbn : Below v.heap.size v y6 := by rw [← hy]; exact bl1 HBy5.out
            have Z6y6 : Hid (ZeroAt y6 y2.heap.size) := Lib.hid (by rw [← hy]; exact zero_al Z6y5.out)
            have Z5y6 : Hid (ZeroAt y6 y5.heap.size) := Lib.hid (by rw [← hy]; exact zero_new y5)
            have HG5 : Hid (v.heap.size ≤ y5.heap.size) := Lib.hid HBy5.out.size
            have HNE : Hid (y5.heap.size ≠ y2.heap.size) := Lib.hid (by have h := (Array.getElem?_eq_some_iff.1 Z6y5.out).1; omega)
            have HBy6 := Lib.hid hbn
            change K _ (y5.alloc zeroO)
            rw [hy]
            refine hK.out _ _ (HSEE.out _ hbn) (fun hH => ?_)
            clear hK K hy hbn
            try simp only [Act.put, List.setIfInBounds_toArray, List.set_cons_zero, List.set_cons_succ]
            have hS1 := HSEE.out _ (bl_set (b := y5.heap.size) (l := (#[.bool X.noStore, .bool X.noCache, .bool X.priv, .bool X.pub, .bool X.must, .bool X.prox, .bool X.only, .bool X.anyStale, .int .i64 X.maxA, .int .i64 X.sMax, .int .i64 X.minF, .int .i64 X.maxS] : Array Value).toList) HBy6.out HG5.out)
            refine wpAnyH_storeTo (i := 8) (by kernel_rfl) rfl rfl (by rfl) 58 (.tmp 5) (.tmp 15) rfl y5.heap.size 0 (#[.bool X.noStore, .bool X.noCache, .bool X.priv, .bool X.pub, .bool X.must, .bool X.prox, .bool X.only, .bool X.anyStale, .int .i64 X.maxA, .int .i64 X.sMax, .int .i64 X.minF, .int .i64 X.maxS]) rfl rfl (zero_there Z5y6.out) infoCtl (onesCtl X) hS1 ?_
            have HBS := Lib.hid (bl_set (b := y5.heap.size) (l := (#[.bool X.noStore, .bool X.noCache, .bool X.priv, .bool X.pub, .bool X.must, .bool X.prox, .bool X.only, .bool X.anyStale, .int .i64 X.maxA, .int .i64 X.sMax, .int .i64 X.minF, .int .i64 X.maxS] : Array Value).toList) HBy6.out HG5.out)
            have CX := Lib.hid (ctl_at X Z5y6.out)
            have ZY := Lib.hid (zero_keep (b := y5.heap.size) (l := (#[.bool X.noStore, .bool X.noCache, .bool X.priv, .bool X.pub, .bool X.must, .bool X.prox, .bool X.only, .bool X.anyStale, .int .i64 X.maxA, .int .i64 X.sMax, .int .i64 X.minF, .int .i64 X.maxS] : Array Value).toList) Z6y6.out (Ne.symm HNE.out))
            have hS2 := HSEE.out _ (bl_set (b := y2.heap.size) (l := (#[.bool Y.noStore, .bool Y.noCache, .bool Y.priv, .bool Y.pub, .bool Y.must, .bool Y.prox, .bool Y.only, .bool Y.anyStale, .int .i64 Y.maxA, .int .i64 Y.sMax, .int .i64 Y.minF, .int .i64 Y.maxS] : Array Value).toList) HBS.out HG6.out)
            refine wpAnyH_storeTo (i := 9) (by kernel_rfl) rfl rfl (by rfl) 58 (.tmp 6) (.tmp 18) rfl y2.heap.size 0 (#[.bool Y.noStore, .bool Y.noCache, .bool Y.priv, .bool Y.pub, .bool Y.must, .bool Y.prox, .bool Y.only, .bool Y.anyStale, .int .i64 Y.maxA, .int .i64 Y.sMax, .int .i64 Y.minF, .int .i64 Y.maxS]) rfl rfl (zero_there ZY.out) infoCtl (onesCtl Y) hS2 ?_
            refine wpAnyH_done (by kernel_rfl) ?_ _
            go_wp2_with fail
            go_meet
            exact ⟨_, _, rfl, rfl, ctl_keep CX.out HNE.out, ctl_at Y ZY.out, bl_set HBS.out HG6.out⟩
      · rw [if_pos (by rfl)]
        go_simp
        obtain ⟨y7, hy⟩ : ∃ y, y1.alloc zeroO = y := ⟨_, rfl⟩
        have hbn : Below v.heap.size v y7 := by rw [← hy]; exact bl1 HBy1.out
        have Z5y7 : Hid (ZeroAt y7 y1.heap.size) := Lib.hid (by rw [← hy]; exact zero_new y1)
        have HG5 : Hid (v.heap.size ≤ y1.heap.size) := Lib.hid HBy1.out.size
        have HBy7 := Lib.hid hbn
        change K _ (y1.alloc zeroO)
        rw [hy]
        refine hK.out _ _ (HSEE.out _ hbn) (fun hH => ?_)
        clear hK K hy hbn
        try simp only [Act.put, List.setIfInBounds_toArray, List.set_cons_zero, List.set_cons_succ]
        refine wpAnyH_ready (rs := [5, 7]) (by kernel_rfl) (by simp) (AllReadyH.cons rfl (fun K hK => ?_) (AllReadyH.cons rfl (fun K hK => ?_) AllReadyH.nil))
        · rw [if_pos (by rfl)]
          go_simp
          go_at_call 38
          refine Calls.mono (P2.out _ HBy7.out) ?_
          rintro e y8 ⟨rfl, hbx, hbn⟩
          have Z5y8 : Hid (ZeroAt y8 y1.heap.size) := Lib.hid (zero3 hbx Z5y7.out)
          have HBy8 := Lib.hid hbn
          refine hK.out _ _ (HSEE.out _ hbn) (fun hH => ?_)
          clear hK K hbx hbn
          try simp only [Act.put, List.setIfInBounds_toArray, List.set_cons_zero, List.set_cons_succ]
          refine wpAnyH_ready (rs := [7]) (by kernel_rfl) (by simp) (AllReadyH.cons rfl (fun K hK => ?_) AllReadyH.nil)
          · rw [if_pos (by rfl)]
            go_simp
            obtain ⟨y9, hy⟩ : ∃ y, y8.alloc zeroO = y := ⟨_, rfl⟩
            have hbn : Below v.heap.size v y9 := by rw [← hy]; exact bl1 HBy8.out
            have Z5y9 : Hid (ZeroAt y9 y1.heap.size) := Lib.hid (by rw [← hy]; exact zero_al Z5y8.out)
            have Z6y9 : Hid (ZeroAt y9 y8.heap.size) := Lib.hid (by rw [← hy]; exact zero_new y8)
            have HG6 : Hid (v.heap.size ≤ y8.heap.size) := Lib.hid HBy8.out.size
            have HNE : Hid (y1.heap.size ≠ y8.heap.size) := Lib.hid (by have h := (Array.getElem?_eq_some_iff.1 Z5y8.out).1; omega)
            have HBy9 := Lib.hid hbn
            change K _ (y8.alloc zeroO)
            rw [hy]
            refine hK.out _ _ (HSEE.out _ hbn) (fun hH => ?_)
            clear hK K hy hbn
            try simp only [Act.put, List.setIfInBounds_toArray, List.set_cons_zero, List.set_cons_succ]
            have hS1 := HSEE.out _ (bl_set (b := y1.heap.size) (l := (#[.bool X.noStore, .bool X.noCache, .bool X.priv, .bool X.pub, .bool X.must, .bool X.prox, .bool X.only, .bool X.anyStale, .int .i64 X.maxA, .int .i64 X.sMax, .int .i64 X.minF, .int .i64 X.maxS] : Array Value).toList) HBy9.out HG5.out)
            refine wpAnyH_storeTo (i := 8) (by kernel_rfl) rfl rfl (by rfl) 58 (.tmp 5) (.tmp 15) rfl y1.heap.size 0 (#[.bool X.noStore, .bool X.noCache, .bool X.priv, .bool X.pub, .bool X.must, .bool X.prox, .bool X.only, .bool X.anyStale, .int .i64 X.maxA, .int .i64 X.sMax, .int .i64 X.minF, .int .i64 X.maxS]) rfl rfl (zero_there Z5y9.out) infoCtl (onesCtl X) hS1 ?_
            have HBS := Lib.hid (bl_set (b := y1.heap.size) (l := (#[.bool X.noStore, .bool X.noCache, .bool X.priv, .bool X.pub, .bool X.must, .bool X.prox, .bool X.only, .bool X.anyStale, .int .i64 X.maxA, .int .i64 X.sMax, .int .i64 X.minF, .int .i64 X.maxS] : Array Value).toList) HBy9.out HG5.out)
            have CX := Lib.hid (ctl_at X Z5y9.out)
            have ZY := Lib.hid (zero_keep (b := y1.heap.size) (l := (#[.bool X.noStore, .bool X.noCache, .bool X.priv, .bool X.pub, .bool X.must, .bool X.prox, .bool X.only, .bool X.anyStale, .int .i64 X.maxA, .int .i64 X.sMax, .int .i64 X.minF, .int .i64 X.maxS] : Array Value).toList) Z6y9.out (Ne.symm HNE.out))
            have hS2 := HSEE.out _ (bl_set (b := y8.heap.size) (l := (#[.bool Y.noStore, .bool Y.noCache, .bool Y.priv, .bool Y.pub, .bool Y.must, .bool Y.prox, .bool Y.only, .bool Y.anyStale, .int .i64 Y.maxA, .int .i64 Y.sMax, .int .i64 Y.minF, .int .i64 Y.maxS] : Array Value).toList) HBS.out HG6.out)
            refine wpAnyH_storeTo (i := 9) (by kernel_rfl) rfl rfl (by rfl) 58 (.tmp 6) (.tmp 18) rfl y8.heap.size 0 (#[.bool Y.noStore, .bool Y.noCache, .bool Y.priv, .bool Y.pub, .bool Y.must, .bool Y.prox, .bool Y.only, .bool Y.anyStale, .int .i64 Y.maxA, .int .i64 Y.sMax, .int .i64 Y.minF, .int .i64 Y.maxS]) rfl rfl (zero_there ZY.out) infoCtl (onesCtl Y) hS2 ?_
            refine wpAnyH_done (by kernel_rfl) ?_ _
            go_wp2_with fail
            go_meet
            exact ⟨_, _, rfl, rfl, ctl_keep CX.out HNE.out, ctl_at Y ZY.out, bl_set HBS.out HG6.out⟩
        · rw [if_pos (by rfl)]
          go_simp
          obtain ⟨y10, hy⟩ : ∃ y, y7.alloc zeroO = y := ⟨_, rfl⟩
          have hbn : Below v.heap.size v y10 := by rw [← hy]; exact bl1 HBy7.out
          have Z5y10 : Hid (ZeroAt y10 y1.heap.size) := Lib.hid (by rw [← hy]; exact zero_al Z5y7.out)
          have Z6y10 : Hid (ZeroAt y10 y7.heap.size) := Lib.hid (by rw [← hy]; exact zero_new y7)
          have HG6 : Hid (v.heap.size ≤ y7.heap.size) := Lib.hid HBy7.out.size
          have HNE : Hid (y1.heap.size ≠ y7.heap.size) := Lib.hid (by have h := (Array.getElem?_eq_some_iff.1 Z5y7.out).1; omega)
          have HBy10 := Lib.hid hbn
          change K _ (y7.alloc zeroO)
          rw [hy]
          refine hK.out _ _ (HSEE.out _ hbn) (fun hH => ?_)
          clear hK K hy hbn
          try simp only [Act.put, List.setIfInBounds_toArray, List.set_cons_zero, List.set_cons_succ]
          refine wpAnyH_ready (rs := [5]) (by kernel_rfl) (by simp) (AllReadyH.cons rfl (fun K hK => ?_) AllReadyH.nil)
          · rw [if_pos (by rfl)]
            go_simp
            go_at_call 38
            refine Calls.mono (P2.out _ HBy10.out) ?_
            rintro e y11 ⟨rfl, hbx, hbn⟩
            have Z5y11 : Hid (ZeroAt y11 y1.heap.size) := Lib.hid (zero3 hbx Z5y10.out)
            have Z6y11 : Hid (ZeroAt y11 y7.heap.size) := Lib.hid (zero3 hbx Z6y10.out)
            have HBy11 := Lib.hid hbn
            refine hK.out _ _ (HSEE.out _ hbn) (fun hH => ?_)
            clear hK K hbx hbn
            try simp only [Act.put, List.setIfInBounds_toArray, List.set_cons_zero, List.set_cons_succ]
            have hS1 := HSEE.out _ (bl_set (b := y1.heap.size) (l := (#[.bool X.noStore, .bool X.noCache, .bool X.priv, .bool X.pub, .bool X.must, .bool X.prox, .bool X.only, .bool X.anyStale, .int .i64 X.maxA, .int .i64 X.sMax, .int .i64 X.minF, .int .i64 X.maxS] : Array Value).toList) HBy11.out HG5.out)
            refine wpAnyH_storeTo (i := 8) (by kernel_rfl) rfl rfl (by rfl) 58 (.tmp 5) (.tmp 15) rfl y1.heap.size 0 (#[.bool X.noStore, .bool X.noCache, .bool X.priv, .bool X.pub, .bool X.must, .bool X.prox, .bool X.only, .bool X.anyStale, .int .i64 X.maxA, .int .i64 X.sMax, .int .i64 X.minF, .int .i64 X.maxS]) rfl rfl (zero_there Z5y11.out) infoCtl (onesCtl X) hS1 ?_
            have HBS := Lib.hid (bl_set (b := y1.heap.size) (l := (#[.bool X.noStore, .bool X.noCache, .bool X.priv, .bool X.pub, .bool X.must, .bool X.prox, .bool X.only, .bool X.anyStale, .int .i64 X.maxA, .int .i64 X.sMax, .int .i64 X.minF, .int .i64 X.maxS] : Array Value).toList) HBy11.out HG5.out)
            have CX := Lib.hid (ctl_at X Z5y11.out)
            have ZY := Lib.hid (zero_keep (b := y1.heap.size) (l := (#[.bool X.noStore, .bool X.noCache, .bool X.priv, .bool X.pub, .bool X.must, .bool X.prox, .bool X.only, .bool X.anyStale, .int .i64 X.maxA, .int .i64 X.sMax, .int .i64 X.minF, .int .i64 X.maxS] : Array Value).toList) Z6y11.out (Ne.symm HNE.out))
            have hS2 := HSEE.out _ (bl_set (b := y7.heap.size) (l := (#[.bool Y.noStore, .bool Y.noCache, .bool Y.priv, .bool Y.pub, .bool Y.must, .bool Y.prox, .bool Y.only, .bool Y.anyStale, .int .i64 Y.maxA, .int .i64 Y.sMax, .int .i64 Y.minF, .int .i64 Y.maxS] : Array Value).toList) HBS.out HG6.out)
            refine wpAnyH_storeTo (i := 9) (by kernel_rfl) rfl rfl (by rfl) 58 (.tmp 6) (.tmp 18) rfl y7.heap.size 0 (#[.bool Y.noStore, .bool Y.noCache, .bool Y.priv, .bool Y.pub, .bool Y.must, .bool Y.prox, .bool Y.only, .bool Y.anyStale, .int .i64 Y.maxA, .int .i64 Y.sMax, .int .i64 Y.minF, .int .i64 Y.maxS]) rfl rfl (zero_there ZY.out) infoCtl (onesCtl Y) hS2 ?_
            refine wpAnyH_done (by kernel_rfl) ?_ _
            go_wp2_with fail
            go_meet
            exact ⟨_, _, rfl, rfl, ctl_keep CX.out HNE.out, ctl_at Y ZY.out, bl_set HBS.out HG6.out⟩
      · rw [if_pos (by rfl)]
        go_simp
        obtain ⟨y12, hy⟩ : ∃ y, y1.alloc zeroO = y := ⟨_, rfl⟩
        have hbn : Below v.heap.size v y12 := by rw [← hy]; exact bl1 HBy1.out
        have Z6y12 : Hid (ZeroAt y12 y1.heap.size) := Lib.hid (by rw [← hy]; exact zero_new y1)
        have HG6 : Hid (v.heap.size ≤ y1.heap.size) := Lib.hid HBy1.out.size
        have HBy12 := Lib.hid hbn
        change K _ (y1.alloc zeroO)
        rw [hy]
        refine hK.out _ _ (HSEE.out _ hbn) (fun hH => ?_)
        clear hK K hy hbn
        try simp only [Act.put, List.setIfInBounds_toArray, List.set_cons_zero, List.set_cons_succ]
        refine wpAnyH_ready (rs := [5, 6]) (by kernel_rfl) (by simp) (AllReadyH.cons rfl (fun K hK => ?_) (AllReadyH.cons rfl (fun K hK => ?_) AllReadyH.nil))
        · rw [if_pos (by rfl)]
          go_simp
          go_at_call 38
          refine Calls.mono (P2.out _ HBy12.out) ?_
          rintro e y13 ⟨rfl, hbx, hbn⟩
          have Z6y13 : Hid (ZeroAt y13 y1.heap.size) := Lib.hid (zero3 hbx Z6y12.out)
          have HBy13 := Lib.hid hbn
          refine hK.out _ _ (HSEE.out _ hbn) (fun hH => ?_)
          clear hK K hbx hbn
          try simp only [Act.put, List.setIfInBounds_toArray, List.set_cons_zero, List.set_cons_succ]
          refine wpAnyH_ready (rs := [6]) (by kernel_rfl) (by simp) (AllReadyH.cons rfl (fun K hK => ?_) AllReadyH.nil)
          · rw [if_pos (by rfl)]
            go_simp
            obtain ⟨y14, hy⟩ : ∃ y, y13.alloc zeroO = y := ⟨_, rfl⟩
            have hbn : Below v.heap.size v y14 := by rw [← hy]; exact bl1 HBy13.out
            have Z6y14 : Hid (ZeroAt y14 y1.heap.size) := Lib.hid (by rw [← hy]; exact zero_al Z6y13.out)
            have Z5y14 : Hid (ZeroAt y14 y13.heap.size) := Lib.hid (by rw [← hy]; exact zero_new y13)
            have HG5 : Hid (v.heap.size ≤ y13.heap.size) := Lib.hid HBy13.out.size
            have HNE : Hid (y13.heap.size ≠ y1.heap.size) := Lib.hid (by have h := (Array.getElem?_eq_some_iff.1 Z6y13.out).1; omega)
            have HBy14 := Lib.hid hbn
            change K _ (y13.alloc zeroO)
            rw [hy]
            refine hK.out _ _ (HSEE.out _ hbn) (fun hH => ?_)
            clear hK K hy hbn
            try simp only [Act.put, List.setIfInBounds_toArray, List.set_cons_zero, List.set_cons_succ]
            have hS1 := HSEE.out _ (bl_set (b := y13.heap.size) (l := (#[.bool X.noStore, .bool X.noCache, .bool X.priv, .bool X.pub, .bool X.must, .bool X.prox, .bool X.only, .bool X.anyStale, .int .i64 X.maxA, .int .i64 X.sMax, .int .i64 X.minF, .int .i64 X.maxS] : Array Value).toList) HBy14.out HG5.out)
            refine wpAnyH_storeTo (i := 8) (by kernel_rfl) rfl rfl (by rfl) 58 (.tmp 5) (.tmp 15) rfl y13.heap.size 0 (#[.bool X.noStore, .bool X.noCache, .bool X.priv, .bool X.pub, .bool X.must, .bool X.prox, .bool X.only, .bool X.anyStale, .int .i64 X.maxA, .int .i64 X.sMax, .int .i64 X.minF, .int .i64 X.maxS]) rfl rfl (zero_there Z5y14.out) infoCtl (onesCtl X) hS1 ?_
            have HBS := Lib.hid (bl_set (b := y13.heap.size) (l := (#[.bool X.noStore, .bool X.noCache, .bool X.priv, .bool X.pub, .bool X.must, .bool X.prox, .bool X.only, .bool X.anyStale, .int .i64 X.maxA, .int .i64 X.sMax, .int .i64 X.minF, .int .i64 X.maxS] : Array Value).toList) HBy14.out HG5.out)
            have CX := Lib.hid (ctl_at X Z5y14.out)
            have ZY := Lib.hid (zero_keep (b := y13.heap.size) (l := (#[.bool X.noStore, .bool X.noCache, .bool X.priv, .bool X.pub, .bool X.must, .bool X.prox, .bool X.only, .bool X.anyStale, .int .i64 X.maxA, .int .i64 X.sMax, .int .i64 X.minF, .int .i64 X.maxS] : Array Value).toList) Z6y14.out (Ne.symm HNE.out))
            have hS2 := HSEE.out _ (bl_set (b := y1.heap.size) (l := (#[.bool Y.noStore, .bool Y.noCache, .bool Y.priv, .bool Y.pub, .bool Y.must, .bool Y.prox, .bool Y.only, .bool Y.anyStale, .int .i64 Y.maxA, .int .i64 Y.sMax, .int .i64 Y.minF, .int .i64 Y.maxS] : Array Value).toList) HBS.out HG6.out)
            refine wpAnyH_storeTo (i := 9) (by kernel_rfl) rfl rfl (by rfl) 58 (.tmp 6) (.tmp 18) rfl y1.heap.size 0 (#[.bool Y.noStore, .bool Y.noCache, .bool Y.priv, .bool Y.pub, .bool Y.must, .bool Y.prox, .bool Y.only, .bool Y.anyStale, .int .i64 Y.maxA, .int .i64 Y.sMax, .int .i64 Y.minF, .int .i64 Y.maxS]) rfl rfl (zero_there ZY.out) infoCtl (onesCtl Y) hS2 ?_
            refine wpAnyH_done (by kernel_rfl) ?_ _
            go_wp2_with fail
            go_meet
            exact ⟨_, _, rfl, rfl, ctl_keep CX.out HNE.out, ctl_at Y ZY.out, bl_set HBS.out HG6.out⟩
        · rw [if_pos (by rfl)]
          go_simp
          obtain ⟨y15, hy⟩ : ∃ y, y12.alloc zeroO = y := ⟨_, rfl⟩
          have hbn : Below v.heap.size v y15 := by rw [← hy]; exact bl1 HBy12.out
          have Z6y15 : Hid (ZeroAt y15 y1.heap.size) := Lib.hid (by rw [← hy]; exact zero_al Z6y12.out)
          have Z5y15 : Hid (ZeroAt y15 y12.heap.size) := Lib.hid (by rw [← hy]; exact zero_new y12)
          have HG5 : Hid (v.heap.size ≤ y12.heap.size) := Lib.hid HBy12.out.size
          have HNE : Hid (y12.heap.size ≠ y1.heap.size) := Lib.hid (by have h := (Array.getElem?_eq_some_iff.1 Z6y12.out).1; omega)
          have HBy15 := Lib.hid hbn
          change K _ (y12.alloc zeroO)
          rw [hy]
          refine hK.out _ _ (HSEE.out _ hbn) (fun hH => ?_)
          clear hK K hy hbn
          try simp only [Act.put, List.setIfInBounds_toArray, List.set_cons_zero, List.set_cons_succ]
          refine wpAnyH_ready (rs := [5]) (by kernel_rfl) (by simp) (AllReadyH.cons rfl (fun K hK => ?_) AllReadyH.nil)
          · rw [if_pos (by rfl)]
            go_simp
            go_at_call 38
            refine Calls.mono (P2.out _ HBy15.out) ?_
            rintro e y16 ⟨rfl, hbx, hbn⟩
            have Z5y16 : Hid (ZeroAt y16 y12.heap.size) := Lib.hid (zero3 hbx Z5y15.out)
            have Z6y16 : Hid (ZeroAt y16 y1.heap.size) := Lib.hid (zero3 hbx Z6y15.out)
            have HBy16 := Lib.hid hbn
            refine hK.out _ _ (HSEE.out _ hbn) (fun hH => ?_)
            clear hK K hbx hbn
            try simp only [Act.put, List.setIfInBounds_toArray, List.set_cons_zero, List.set_cons_succ]
            have hS1 := HSEE.out _ (bl_set (b := y12.heap.size) (l := (#[.bool X.noStore, .bool X.noCache, .bool X.priv, .bool X.pub, .bool X.must, .bool X.prox, .bool X.only, .bool X.anyStale, .int .i64 X.maxA, .int .i64 X.sMax, .int .i64 X.minF, .int .i64 X.maxS] : Array Value).toList) HBy16.out HG5.out)
            refine wpAnyH_storeTo (i := 8) (by kernel_rfl) rfl rfl (by rfl) 58 (.tmp 5) (.tmp 15) rfl y12.heap.size 0 (#[.bool X.noStore, .bool X.noCache, .bool X.priv, .bool X.pub, .bool X.must, .bool X.prox, .bool X.only, .bool X.anyStale, .int .i64 X.maxA, .int .i64 X.sMax, .int .i64 X.minF, .int .i64 X.maxS]) rfl rfl (zero_there Z5y16.out) infoCtl (onesCtl X) hS1 ?_
            have HBS := Lib.hid (bl_set (b := y12.heap.size) (l := (#[.bool X.noStore, .bool X.noCache, .bool X.priv, .bool X.pub, .bool X.must, .bool X.prox, .bool X.only, .bool X.anyStale, .int .i64 X.maxA, .int .i64 X.sMax, .int .i64 X.minF, .int .i64 X.maxS] : Array Value).toList) HBy16.out HG5.out)
            have CX := Lib.hid (ctl_at X Z5y16.out)
            have ZY := Lib.hid (zero_keep (b := y12.heap.size) (l := (#[.bool X.noStore, .bool X.noCache, .bool X.priv, .bool X.pub, .bool X.must, .bool X.prox, .bool X.only, .bool X.anyStale, .int .i64 X.maxA, .int .i64 X.sMax, .int .i64 X.minF, .int .i64 X.maxS] : Array Value).toList) Z6y16.out (Ne.symm HNE.out))
            have hS2 := HSEE.out _ (bl_set (b := y1.heap.size) (l := (#[.bool Y.noStore, .bool Y.noCache, .bool Y.priv, .bool Y.pub, .bool Y.must, .bool Y.prox, .bool Y.only, .bool Y.anyStale, .int .i64 Y.maxA, .int .i64 Y.sMax, .int .i64 Y.minF, .int .i64 Y.maxS] : Array Value).toList) HBS.out HG6.out)
            refine wpAnyH_storeTo (i := 9) (by kernel_rfl) rfl rfl (by rfl) 58 (.tmp 6) (.tmp 18) rfl y1.heap.size 0 (#[.bool Y.noStore, .bool Y.noCache, .bool Y.priv, .bool Y.pub, .bool Y.must, .bool Y.prox, .bool Y.only, .bool Y.anyStale, .int .i64 Y.maxA, .int .i64 Y.sMax, .int .i64 Y.minF, .int .i64 Y.maxS]) rfl rfl (zero_there ZY.out) infoCtl (onesCtl Y) hS2 ?_
            refine wpAnyH_done (by kernel_rfl) ?_ _
            go_wp2_with fail
            go_meet
            exact ⟨_, _, rfl, rfl, ctl_keep CX.out HNE.out, ctl_at Y ZY.out, bl_set HBS.out HG6.out⟩
    · rw [if_pos (by rfl)]
      go_simp
      obtain ⟨y17, hy⟩ : ∃ y, y0_.alloc zeroO = y := ⟨_, rfl⟩
      have hbn : Below v.heap.size v y17 := by rw [← hy]; exact bl1 HBy0_.out
      have Z5y17 : Hid (ZeroAt y17 y0_.heap.size) := Lib.hid (by rw [← hy]; exact zero_new y0_)
      have HG5 : Hid (v.heap.size ≤ y0_.heap.size) := Lib.hid HBy0_.out.size
      have HBy17 := Lib.hid hbn
      change K _ (y0_.alloc zeroO)
      rw [hy]
      refine hK.out _ _ (HSEE.out _ hbn) (fun hH => ?_)
      clear hK K hy hbn
      try simp only [Act.put, List.setIfInBounds_toArray, List.set_cons_zero, List.set_cons_succ]
      refine wpAnyH_ready (rs := [2, 7]) (by kernel_rfl) (by simp) (AllReadyH.cons rfl (fun K hK => ?_) (AllReadyH.cons rfl (fun K hK => ?_) AllReadyH.nil))
      · rw [if_pos (by rfl)]
        go_simp
        go_at_call 38
        refine Calls.mono (P1.out _ HBy17.out) ?_
        rintro e y18 ⟨rfl, hbx, hbn⟩
        have Z5y18 : Hid (ZeroAt y18 y0_.heap.size) := Lib.hid (zero3 hbx Z5y17.out)
        have HBy18 := Lib.hid hbn
        refine hK.out _ _ (HSEE.out _ hbn) (fun hH => ?_)
        clear hK K hbx hbn
        try simp only [Act.put, List.setIfInBounds_toArray, List.set_cons_zero, List.set_cons_succ]
        refine wpAnyH_ready (rs := [5, 7]) (by kernel_rfl) (by simp) (AllReadyH.cons rfl (fun K hK => ?_) (AllReadyH.cons rfl (fun K hK => ?_) AllReadyH.nil))
        · rw [if_pos (by rfl)]
          go_simp
          go_at_call 38
          refine Calls.mono (P2.out _ HBy18.out) ?_
          rintro e y19 ⟨rfl, hbx, hbn⟩
          have Z5y19 : Hid (ZeroAt y19 y0_.heap.size) := Lib.hid (zero3 hbx Z5y18.out)
          have HBy19 := Lib.hid hbn
          refine hK.out _ _ (HSEE.out _ hbn) (fun hH => ?_)
          clear hK K hbx hbn
          try simp only [Act.put, List.setIfInBounds_toArray, List.set_cons_zero, List.set_cons_succ]
          refine wpAnyH_ready (rs := [7]) (by kernel_rfl) (by simp) (AllReadyH.cons rfl (fun K hK => ?_) AllReadyH.nil)
          · rw [if_pos (by rfl)]
            go_simp
            obtain ⟨y20, hy⟩ : ∃ y, y19.alloc zeroO = y := ⟨_, rfl⟩
            have hbn : Below v.heap.size v y20 := by rw [← hy]; exact bl1 HBy19.out
            have Z5y20 : Hid (ZeroAt y20 y0_.heap.size) := Lib.hid (by rw [← hy]; exact zero_al Z5y19.out)
            have Z6y20 : Hid (ZeroAt y20 y19.heap.size) := Lib.hid (by rw [← hy]; exact zero_new y19)
            have HG6 : Hid (v.heap.size ≤ y19.heap.size) := Lib.hid HBy19.out.size
            have HNE : Hid (y0_.heap.size ≠ y19.heap.size) := Lib.hid (by have h := (Array.getElem?_eq_some_iff.1 Z5y19.out).1; omega)
            have HBy20 := Lib.hid hbn
            change K _ (y19.alloc zeroO)
            rw [hy]
            refine hK.out _ _ (HSEE.out _ hbn) (fun hH => ?_)
            clear hK K hy hbn
            try simp only [Act.put, List.setIfInBounds_toArray, List.set_cons_zero, List.set_cons_succ]
            have hS1 := HSEE.out _ (bl_set (b := y0_.heap.size) (l := (#[.bool X.noStore, .bool X.noCache, .bool X.priv, .bool X.pub, .bool X.must, .bool X.prox, .bool X.only, .bool X.anyStale, .int .i64 X.maxA, .int .i64 X.sMax, .int .i64 X.minF, .int .i64 X.maxS] : Array Value).toList) HBy20.out HG5.out)
            refine wpAnyH_storeTo (i := 8) (by kernel_rfl) rfl rfl (by rfl) 58 (.tmp 5) (.tmp 15) rfl y0_.heap.size 0 (#[.bool X.noStore, .bool X.noCache, .bool X.priv, .bool X.pub, .bool X.must, .bool X.prox, .bool X.only, .bool X.anyStale, .int .i64 X.maxA, .int .i64 X.sMax, .int .i64 X.minF, .int .i64 X.maxS]) rfl rfl (zero_there Z5y20.out) infoCtl (onesCtl X) hS1 ?_
            have HBS := Lib.hid (bl_set (b := y0_.heap.size) (l := (#[.bool X.noStore, .bool X.noCache, .bool X.priv, .bool X.pub, .bool X.must, .bool X.prox, .bool X.only, .bool X.anyStale, .int .i64 X.maxA, .int .i64 X.sMax, .int .i64 X.minF, .int .i64 X.maxS] : Array Value).toList) HBy20.out HG5.out)
            have CX := Lib.hid (ctl_at X Z5y20.out)
            have ZY := Lib.hid (zero_keep (b := y0_.heap.size) (l := (#[.bool X.noStore, .bool X.noCache, .bool X.priv, .bool X.pub, .bool X.must, .bool X.prox, .bool X.only, .bool X.anyStale, .int .i64 X.maxA, .int .i64 X.sMax, .int .i64 X.minF, .int .i64 X.maxS] : Array Value).toList) Z6y20.out (Ne.symm HNE.out))
            have hS2 := HSEE.out _ (bl_set (b := y19.heap.size) (l := (#[.bool Y.noStore, .bool Y.noCache, .bool Y.priv, .bool Y.pub, .bool Y.must, .bool Y.prox, .bool Y.only, .bool Y.anyStale, .int .i64 Y.maxA, .int .i64 Y.sMax, .int .i64 Y.minF, .int .i64 Y.maxS] : Array Value).toList) HBS.out HG6.out)
            refine wpAnyH_storeTo (i := 9) (by kernel_rfl) rfl rfl (by rfl) 58 (.tmp 6) (.tmp 18) rfl y19.heap.size 0 (#[.bool Y.noStore, .bool Y.noCache, .bool Y.priv, .bool Y.pub, .bool Y.must, .bool Y.prox, .bool Y.only, .bool Y.anyStale, .int .i64 Y.maxA, .int .i64 Y.sMax, .int .i64 Y.minF, .int .i64 Y.maxS]) rfl rfl (zero_there ZY.out) infoCtl (onesCtl Y) hS2 ?_
            refine wpAnyH_done (by kernel_rfl) ?_ _
            go_wp2_with fail
            go_meet
            exact ⟨_, _, rfl, rfl, ctl_keep CX.out HNE.out, ctl_at Y ZY.out, bl_set HBS.out HG6.out⟩
        · rw [if_pos (by rfl)]
          go_simp
          obtain ⟨y21, hy⟩ : ∃ y, y18.alloc zeroO = y := ⟨_, rfl⟩
          have hbn : Below v.heap.size v y21 := by rw [← hy]; exact bl1 HBy18.out
          have Z5y21 : Hid (ZeroAt y21 y0_.heap.size) := Lib.hid (by rw [← hy]; exact zero_al Z5y18.out)
          have Z6y21 : Hid (ZeroAt y21 y18.heap.size) := Lib.hid (by rw [← hy]; exact zero_new y18)
          have HG6 : Hid (v.heap.size ≤ y18.heap.size) := Lib.hid HBy18.out.size
          have HNE : Hid (y0_.heap.size ≠ y18.heap.size) := Lib.hid (by have h := (Array.getElem?_eq_some_iff.1 Z5y18.out).1; omega)
          have HBy21 := Lib.hid hbn
          change K _ (y18.alloc zeroO)
          rw [hy]
          refine hK.out _ _ (HSEE.out _ hbn) (fun hH => ?_)
          clear hK K hy hbn
          try simp only [Act.put, List.setIfInBounds_toArray, List.set_cons_zero, List.set_cons_succ]
          refine wpAnyH_ready (rs := [5]) (by kernel_rfl) (by simp) (AllReadyH.cons rfl (fun K hK => ?_) AllReadyH.nil)
          · rw [if_pos (by rfl)]
            go_simp
            go_at_call 38
            refine Calls.mono (P2.out _ HBy21.out) ?_
            rintro e y22 ⟨rfl, hbx, hbn⟩
            have Z5y22 : Hid (ZeroAt y22 y0_.heap.size) := Lib.hid (zero3 hbx Z5y21.out)
            have Z6y22 : Hid (ZeroAt y22 y18.heap.size) := Lib.hid (zero3 hbx Z6y21.out)
            have HBy22 := Lib.hid hbn
            refine hK.out _ _ (HSEE.out _ hbn) (fun hH => ?_)
            clear hK K hbx hbn
            try simp only [Act.put, List.setIfInBounds_toArray, List.set_cons_zero, List.set_cons_succ]
            have hS1 := HSEE.out _ (bl_set (b := y0_.heap.size) (l := (#[.bool X.noStore, .bool X.noCache, .bool X.priv, .bool X.pub, .bool X.must, .bool X.prox, .bool X.only, .bool X.anyStale, .int .i64 X.maxA, .int .i64 X.sMax, .int .i64 X.minF, .int .i64 X.maxS] : Array Value).toList) HBy22.out HG5.out)
            refine wpAnyH_storeTo (i := 8) (by kernel_rfl) rfl rfl (by rfl) 58 (.tmp 5) (.tmp 15) rfl y0_.heap.size 0 (#[.bool X.noStore, .bool X.noCache, .bool X.priv, .bool X.pub, .bool X.must, .bool X.prox, .bool X.only, .bool X.anyStale, .int .i64 X.maxA, .int .i64 X.sMax, .int .i64 X.minF, .int .i64 X.maxS]) rfl rfl (zero_there Z5y22.out) infoCtl (onesCtl X) hS1 ?_
            have HBS := Lib.hid (bl_set (b := y0_.heap.size) (l := (#[.bool X.noStore, .bool X.noCache, .bool X.priv, .bool X.pub, .bool X.must, .bool X.prox, .bool X.only, .bool X.anyStale, .int .i64 X.maxA, .int .i64 X.sMax, .int .i64 X.minF, .int .i64 X.maxS] : Array Value).toList) HBy22.out HG5.out)
            have CX := Lib.hid (ctl_at X Z5y22.out)
            have ZY := Lib.hid (zero_keep (b := y0_.heap.size) (l := (#[.bool X.noStore, .bool X.noCache, .bool X.priv, .bool X.pub, .bool X.must, .bool X.prox, .bool X.only, .bool X.anyStale, .int .i64 X.maxA, .int .i64 X.sMax, .int .i64 X.minF, .int .i64 X.maxS] : Array Value).toList) Z6y22.out (Ne.symm HNE.out))
            have hS2 := HSEE.out _ (bl_set (b := y18.heap.size) (l := (#[.bool Y.noStore, .bool Y.noCache, .bool Y.priv, .bool Y.pub, .bool Y.must, .bool Y.prox, .bool Y.only, .bool Y.anyStale, .int .i64 Y.maxA, .int .i64 Y.sMax, .int .i64 Y.minF, .int .i64 Y.maxS] : Array Value).toList) HBS.out HG6.out)
            refine wpAnyH_storeTo (i := 9) (by kernel_rfl) rfl rfl (by rfl) 58 (.tmp 6) (.tmp 18) rfl y18.heap.size 0 (#[.bool Y.noStore, .bool Y.noCache, .bool Y.priv, .bool Y.pub, .bool Y.must, .bool Y.prox, .bool Y.only, .bool Y.anyStale, .int .i64 Y.maxA, .int .i64 Y.sMax, .int .i64 Y.minF, .int .i64 Y.maxS]) rfl rfl (zero_there ZY.out) infoCtl (onesCtl Y) hS2 ?_
            refine wpAnyH_done (by kernel_rfl) ?_ _
            go_wp2_with fail
            go_meet
            exact ⟨_, _, rfl, rfl, ctl_keep CX.out HNE.out, ctl_at Y ZY.out, bl_set HBS.out HG6.out⟩
      · rw [if_pos (by rfl)]
        go_simp
        obtain ⟨y23, hy⟩ : ∃ y, y17.alloc zeroO = y := ⟨_, rfl⟩
        have hbn : Below v.heap.size v y23 := by rw [← hy]; exact bl1 HBy17.out
        have Z5y23 : Hid (ZeroAt y23 y0_.heap.size) := Lib.hid (by rw [← hy]; exact zero_al Z5y17.out)
        have Z6y23 : Hid (ZeroAt y23 y17.heap.size) := Lib.hid (by rw [← hy]; exact zero_new y17)
        have HG6 : Hid (v.heap.size ≤ y17.heap.size) := Lib.hid HBy17.out.size
        have HNE : Hid (y0_.heap.size ≠ y17.heap.size) := Lib.hid (by have h := (Array.getElem?_eq_some_iff.1 Z5y17.out).1; omega)
        have HBy23 := Lib.hid hbn
        change K _ (y17.alloc zeroO)
        rw [hy]
        refine hK.out _ _ (HSEE.out _ hbn) (fun hH => ?_)
        clear hK K hy hbn
        try simp only [Act.put, List.setIfInBounds_toArray, List.set_cons_zero, List.set_cons_succ]
        refine wpAnyH_ready (rs := [2]) (by kernel_rfl) (by simp) (AllReadyH.cons rfl (fun K hK => ?_) AllReadyH.nil)
        · rw [if_pos (by rfl)]
          go_simp
          go_at_call 38
          refine Calls.mono (P1.out _ HBy23.out) ?_
          rintro e y24 ⟨rfl, hbx, hbn⟩
          have Z5y24 : Hid (ZeroAt y24 y0_.heap.size) := Lib.hid (zero3 hbx Z5y23.out)
          have Z6y24 : Hid (ZeroAt y24 y17.heap.size) := Lib.hid (zero3 hbx Z6y23.out)
          have HBy24 := Lib.hid hbn
          refine hK.out _ _ (HSEE.out _ hbn) (fun hH => ?_)
          clear hK K hbx hbn
          try simp only [Act.put, List.setIfInBounds_toArray, List.set_cons_zero, List.set_cons_succ]
          refine wpAnyH_ready (rs := [5]) (by kernel_rfl) (by simp) (AllReadyH.cons rfl (fun K hK => ?_) AllReadyH.nil)
          · rw [if_pos (by rfl)]
            go_simp
            go_at_call 38
            refine Calls.mono (P2.out _ HBy24.out) ?_
            rintro e y25 ⟨rfl, hbx, hbn⟩
            have Z5y25 : Hid (ZeroAt y25 y0_.heap.size) := Lib.hid (zero3 hbx Z5y24.out)
            have Z6y25 : Hid (ZeroAt y25 y17.heap.size) := Lib.hid (zero3 hbx Z6y24.out)
            have HBy25 := Lib.hid hbn
            refine hK.out _ _ (HSEE.out _ hbn) (fun hH => ?_)
            clear hK K hbx hbn
            try simp only [Act.put, List.setIfInBounds_toArray, List.set_cons_zero, List.set_cons_succ]
            have hS1 := HSEE.out _ (bl_set (b := y0_.heap.size) (l := (#[.bool X.noStore, .bool X.noCache, .bool X.priv, .bool X.pub, .bool X.must, .bool X.prox, .bool X.only, .bool X.anyStale, .int .i64 X.maxA, .int .i64 X.sMax, .int .i64 X.minF, .int .i64 X.maxS] : Array Value).toList) HBy25.out HG5.out)
            refine wpAnyH_storeTo (i := 8) (by kernel_rfl) rfl rfl (by rfl) 58 (.tmp 5) (.tmp 15) rfl y0_.heap.size 0 (#[.bool X.noStore, .bool X.noCache, .bool X.priv, .bool X.pub, .bool X.must, .bool X.prox, .bool X.only, .bool X.anyStale, .int .i64 X.maxA, .int .i64 X.sMax, .int .i64 X.minF, .int .i64 X.maxS]) rfl rfl (zero_there Z5y25.out) infoCtl (onesCtl X) hS1 ?_
            have HBS := Lib.hid (bl_set (b := y0_.heap.size) (l := (#[.bool X.noStore, .bool X.noCache, .bool X.priv, .bool X.pub, .bool X.must, .bool X.prox, .bool X.only, .bool X.anyStale, .int .i64 X.maxA, .int .i64 X.sMax, .int .i64 X.minF, .int .i64 X.maxS] : Array Value).toList) HBy25.out HG5.out)
            have CX := Lib.hid (ctl_at X Z5y25.out)
            have ZY := Lib.hid (zero_keep (b := y0_.heap.size) (l := (#[.bool X.noStore, .bool X.noCache, .bool X.priv, .bool X.pub, .bool X.must, .bool X.prox, .bool X.only, .bool X.anyStale, .int .i64 X.maxA, .int .i64 X.sMax, .int .i64 X.minF, .int .i64 X.maxS] : Array Value).toList) Z6y25.out (Ne.symm HNE.out))
            have hS2 := HSEE.out _ (bl_set (b := y17.heap.size) (l := (#[.bool Y.noStore, .bool Y.noCache, .bool Y.priv, .bool Y.pub, .bool Y.must, .bool Y.prox, .bool Y.only, .bool Y.anyStale, .int .i64 Y.maxA, .int .i64 Y.sMax, .int .i64 Y.minF, .int .i64 Y.maxS] : Array Value).toList) HBS.out HG6.out)
            refine wpAnyH_storeTo (i := 9) (by kernel_rfl) rfl rfl (by rfl) 58 (.tmp 6) (.tmp 18) rfl y17.heap.size 0 (#[.bool Y.noStore, .bool Y.noCache, .bool Y.priv, .bool Y.pub, .bool Y.must, .bool Y.prox, .bool Y.only, .bool Y.anyStale, .int .i64 Y.maxA, .int .i64 Y.sMax, .int .i64 Y.minF, .int .i64 Y.maxS]) rfl rfl (zero_there ZY.out) infoCtl (onesCtl Y) hS2 ?_
            refine wpAnyH_done (by kernel_rfl) ?_ _
            go_wp2_with fail
            go_meet
            exact ⟨_, _, rfl, rfl, ctl_keep CX.out HNE.out, ctl_at Y ZY.out, bl_set HBS.out HG6.out⟩
    · rw [if_pos (by rfl)]
      go_simp
      obtain ⟨y26, hy⟩ : ∃ y, y0_.alloc zeroO = y := ⟨_, rfl⟩
      have hbn : Below v.heap.size v y26 := by rw [← hy]; exact bl1 HBy0_.out
      have Z6y26 : Hid (ZeroAt y26 y0_.heap.size) := Lib.hid (by rw [← hy]; exact zero_new y0_)
      have HG6 : Hid (v.heap.size ≤ y0_.heap.size) := Lib.hid HBy0_.out.size
      have HBy26 := Lib.hid hbn
      change K _ (y0_.alloc zeroO)
      rw [hy]
      refine hK.out _ _ (HSEE.out _ hbn) (fun hH => ?_)
      clear hK K hy hbn
      try simp only [Act.put, List.setIfInBounds_toArray, List.set_cons_zero, List.set_cons_succ]
      refine wpAnyH_ready (rs := [2, 6]) (by kernel_rfl) (by simp) (AllReadyH.cons rfl (fun K hK => ?_) (AllReadyH.cons rfl (fun K hK => ?_) AllReadyH.nil))
      · rw [if_pos (by rfl)]
        go_simp
        go_at_call 38
        refine Calls.mono (P1.out _ HBy26.out) ?_
        rintro e y27 ⟨rfl, hbx, hbn⟩
        have Z6y27 : Hid (ZeroAt y27 y0_.heap.size) := Lib.hid (zero3 hbx Z6y26.out)
        have HBy27 := Lib.hid hbn
        refine hK.out _ _ (HSEE.out _ hbn) (fun hH => ?_)
        clear hK K hbx hbn
        try simp only [Act.put, List.setIfInBounds_toArray, List.set_cons_zero, List.set_cons_succ]
        refine wpAnyH_ready (rs := [5, 6]) (by kernel_rfl) (by simp) (AllReadyH.cons rfl (fun K hK => ?_) (AllReadyH.cons rfl (fun K hK => ?_) AllReadyH.nil))
        · rw [if_pos (by rfl)]
          go_simp
          go_at_call 38
          refine Calls.mono (P2.out _ HBy27.out) ?_
          rintro e y28 ⟨rfl, hbx, hbn⟩
          have Z6y28 : Hid (ZeroAt y28 y0_.heap.size) := Lib.hid (zero3 hbx Z6y27.out)
          have HBy28 := Lib.hid hbn
          refine hK.out _ _ (HSEE.out _ hbn) (fun hH => ?_)
          clear hK K hbx hbn
          try simp only [Act.put, List.setIfInBounds_toArray, List.set_cons_zero, List.set_cons_succ]
          refine wpAnyH_ready (rs := [6]) (by kernel_rfl) (by simp) (AllReadyH.cons rfl (fun K hK => ?_) AllReadyH.nil)
          · rw [if_pos (by rfl)]
            go_simp
            obtain ⟨y29, hy⟩ : ∃ y, y28.alloc zeroO = y := ⟨_, rfl⟩
            have hbn : Below v.heap.size v y29 := by rw [← hy]; exact bl1 HBy28.out
            have Z6y29 : Hid (ZeroAt y29 y0_.heap.size) := Lib.hid (by rw [← hy]; exact zero_al Z6y28.out)
            have Z5y29 : Hid (ZeroAt y29 y28.heap.size) := Lib.hid (by rw [← hy]; exact zero_new y28)
            have HG5 : Hid (v.heap.size ≤ y28.heap.size) := Lib.hid HBy28.out.size
            have HNE : Hid (y28.heap.size ≠ y0_.heap.size) := Lib.hid (by have h := (Array.getElem?_eq_some_iff.1 Z6y28.out).1; omega)
            have HBy29 := Lib.hid hbn
            change K _ (y28.alloc zeroO)
            rw [hy]
            refine hK.out _ _ (HSEE.out _ hbn) (fun hH => ?_)
            clear hK K hy hbn
            try simp only [Act.put, List.setIfInBounds_toArray, List.set_cons_zero, List.set_cons_succ]
            have hS1 := HSEE.out _ (bl_set (b := y28.heap.size) (l := (#[.bool X.noStore, .bool X.noCache, .bool X.priv, .bool X.pub, .bool X.must, .bool X.prox, .bool X.only, .bool X.anyStale, .int .i64 X.maxA, .int .i64 X.sMax, .int .i64 X.minF, .int .i64 X.maxS] : Array Value).toList) HBy29.out HG5.out)
            refine wpAnyH_storeTo (i := 8) (by kernel_rfl) rfl rfl (by rfl) 58 (.tmp 5) (.tmp 15) rfl y28.heap.size 0 (#[.bool X.noStore, .bool X.noCache, .bool X.priv, .bool X.pub, .bool X.must, .bool X.prox, .bool X.only, .bool X.anyStale, .int .i64 X.maxA, .int .i64 X.sMax, .int .i64 X.minF, .int .i64 X.maxS]) rfl rfl (zero_there Z5y29.out) infoCtl (onesCtl X) hS1 ?_
            have HBS := Lib.hid (bl_set (b := y28.heap.size) (l := (#[.bool X.noStore, .bool X.noCache, .bool X.priv, .bool X.pub, .bool X.must, .bool X.prox, .bool X.only, .bool X.anyStale, .int .i64 X.maxA, .int .i64 X.sMax, .int .i64 X.minF, .int .i64 X.maxS] : Array Value).toList) HBy29.out HG5.out)
            have CX := Lib.hid (ctl_at X Z5y29.out)
            have ZY := Lib.hid (zero_keep (b := y28.heap.size) (l := (#[.bool X.noStore, .bool X.noCache, .bool X.priv, .bool X.pub, .bool X.must, .bool X.prox, .bool X.only, .bool X.anyStale, .int .i64 X.maxA, .int .i64 X.sMax, .int .i64 X.minF, .int .i64 X.maxS] : Array Value).toList) Z6y29.out (Ne.symm HNE.out))
            have hS2 := HSEE.out _ (bl_set (b := y0_.heap.size) (l := (#[.bool Y.noStore, .bool Y.noCache, .bool Y.priv, .bool Y.pub, .bool Y.must, .bool Y.prox, .bool Y.only, .bool Y.anyStale, .int .i64 Y.maxA, .int .i64 Y.sMax, .int .i64 Y.minF, .int .i64 Y.maxS] : Array Value).toList) HBS.out HG6.out)
            refine wpAnyH_storeTo (i := 9) (by kernel_rfl) rfl rfl (by rfl) 58 (.tmp 6) (.tmp 18) rfl y0_.heap.size 0 (#[.bool Y.noStore, .bool Y.noCache, .bool Y.priv, .bool Y.pub, .bool Y.must, .bool Y.prox, .bool Y.only, .bool Y.anyStale, .int .i64 Y.maxA, .int .i64 Y.sMax, .int .i64 Y.minF, .int .i64 Y.maxS]) rfl rfl (zero_there ZY.out) infoCtl (onesCtl Y) hS2 ?_
            refine wpAnyH_done (by kernel_rfl) ?_ _
            go_wp2_with fail
            go_meet
            exact ⟨_, _, rfl, rfl, ctl_keep CX.out HNE.out, ctl_at Y ZY.out, bl_set HBS.out HG6.out⟩
        · rw [if_pos (by rfl)]
          go_simp
          obtain ⟨y30, hy⟩ : ∃ y, y27.alloc zeroO = y := ⟨_, rfl⟩
          have hbn : Below v.heap.size v y30 := by rw [← hy]; exact bl1 HBy27.out
          have Z6y30 : Hid (ZeroAt y30 y0_.heap.size) := Lib.hid (by rw [← hy]; exact zero_al Z6y27.out)
          have Z5y30 : Hid (ZeroAt y30 y27.heap.size) := Lib.hid (by rw [← hy]; exact zero_new y27)
          have HG5 : Hid (v.heap.size ≤ y27.heap.size) := Lib.hid HBy27.out.size
          have HNE : Hid (y27.heap.size ≠ y0_.heap.size) := Lib.hid (by have h := (Array.getElem?_eq_some_iff.1 Z6y27.out).1; omega)
          have HBy30 := Lib.hid hbn
          change K _ (y27.alloc zeroO)
          rw [hy]
          refine hK.out _ _ (HSEE.out _ hbn) (fun hH => ?_)
          clear hK K hy hbn
          try simp only [Act.put, List.setIfInBounds_toArray, List.set_cons_zero, List.set_cons_succ]
          refine wpAnyH_ready (rs := [5]) (by kernel_rfl) (by simp) (AllReadyH.cons rfl (fun K hK => ?_) AllReadyH.nil)
          · rw [if_pos (by rfl)]
            go_simp
            go_at_call 38
            refine Calls.mono (P2.out _ HBy30.out) ?_
            rintro e y31 ⟨rfl, hbx, hbn⟩
            have Z5y31 : Hid (ZeroAt y31 y27.heap.size) := Lib.hid (zero3 hbx Z5y30.out)
            have Z6y31 : Hid (ZeroAt y31 y0_.heap.size) := Lib.hid (zero3 hbx Z6y30.out)
            have HBy31 := Lib.hid hbn
            refine hK.out _ _ (HSEE.out _ hbn) (fun hH => ?_)
            clear hK K hbx hbn
            try simp only [Act.put, List.setIfInBounds_toArray, List.set_cons_zero, List.set_cons_succ]
            have hS1 := HSEE.out _ (bl_set (b := y27.heap.size) (l := (#[.bool X.noStore, .bool X.noCache, .bool X.priv, .bool X.pub, .bool X.must, .bool X.prox, .bool X.only, .bool X.anyStale, .int .i64 X.maxA, .int .i64 X.sMax, .int .i64 X.minF, .int .i64 X.maxS] : Array Value).toList) HBy31.out HG5.out)
            refine wpAnyH_storeTo (i := 8) (by kernel_rfl) rfl rfl (by rfl) 58 (.tmp 5) (.tmp 15) rfl y27.heap.size 0 (#[.bool X.noStore, .bool X.noCache, .bool X.priv, .bool X.pub, .bool X.must, .bool X.prox, .bool X.only, .bool X.anyStale, .int .i64 X.maxA, .int .i64 X.sMax, .int .i64 X.minF, .int .i64 X.maxS]) rfl rfl (zero_there Z5y31.out) infoCtl (onesCtl X) hS1 ?_
            have HBS := Lib.hid (bl_set (b := y27.heap.size) (l := (#[.bool X.noStore, .bool X.noCache, .bool X.priv, .bool X.pub, .bool X.must, .bool X.prox, .bool X.only, .bool X.anyStale, .int .i64 X.maxA, .int .i64 X.sMax, .int .i64 X.minF, .int .i64 X.maxS] : Array Value).toList) HBy31.out HG5.out)
            have CX := Lib.hid (ctl_at X Z5y31.out)
            have ZY := Lib.hid (zero_keep (b := y27.heap.size) (l := (#[.bool X.noStore, .bool X.noCache, .bool X.priv, .bool X.pub, .bool X.must, .bool X.prox, .bool X.only, .bool X.anyStale, .int .i64 X.maxA, .int .i64 X.sMax, .int .i64 X.minF, .int .i64 X.maxS] : Array Value).toList) Z6y31.out (Ne.symm HNE.out))
            have hS2 := HSEE.out _ (bl_set (b := y0_.heap.size) (l := (#[.bool Y.noStore, .bool Y.noCache, .bool Y.priv, .bool Y.pub, .bool Y.must, .bool Y.prox, .bool Y.only, .bool Y.anyStale, .int .i64 Y.maxA, .int .i64 Y.sMax, .int .i64 Y.minF, .int .i64 Y.maxS] : Array Value).toList) HBS.out HG6.out)
            refine wpAnyH_storeTo (i := 9) (by kernel_rfl) rfl rfl (by rfl) 58 (.tmp 6) (.tmp 18) rfl y0_.heap.size 0 (#[.bool Y.noStore, .bool Y.noCache, .bool Y.priv, .bool Y.pub, .bool Y.must, .bool Y.prox, .bool Y.only, .bool Y.anyStale, .int .i64 Y.maxA, .int .i64 Y.sMax, .int .i64 Y.minF, .int .i64 Y.maxS]) rfl rfl (zero_there ZY.out) infoCtl (onesCtl Y) hS2 ?_
            refine wpAnyH_done (by kernel_rfl) ?_ _
            go_wp2_with fail
            go_meet
            exact ⟨_, _, rfl, rfl, ctl_keep CX.out HNE.out, ctl_at Y ZY.out, bl_set HBS.out HG6.out⟩
      · rw [if_pos (by rfl)]
        go_simp
        obtain ⟨y32, hy⟩ : ∃ y, y26.alloc zeroO = y := ⟨_, rfl⟩
        have hbn : Below v.heap.size v y32 := by rw [← hy]; exact bl1 HBy26.out
        have Z6y32 : Hid (ZeroAt y32 y0_.heap.size) := Lib.hid (by rw [← hy]; exact zero_al Z6y26.out)
        have Z5y32 : Hid (ZeroAt y32 y26.heap.size) := Lib.hid (by rw [← hy]; exact zero_new y26)
        have HG5 : Hid (v.heap.size ≤ y26.heap.size) := Lib.hid HBy26.out.size
        have HNE : Hid (y26.heap.size ≠ y0_.heap.size) := Lib.hid (by have h := (Array.getElem?_eq_some_iff.1 Z6y26.out).1; omega)
        have HBy32 := Lib.hid hbn
        change K _ (y26.alloc zeroO)
        rw [hy]
        refine hK.out _ _ (HSEE.out _ hbn) (fun hH => ?_)
        clear hK K hy hbn
        try simp only [Act.put, List.setIfInBounds_toArray, List.set_cons_zero, List.set_cons_succ]
        refine wpAnyH_ready (rs := [2]) (by kernel_rfl) (by simp) (AllReadyH.cons rfl (fun K hK => ?_) AllReadyH.nil)
        · rw [if_pos (by rfl)]
          go_simp
          go_at_call 38
          refine Calls.mono (P1.out _ HBy32.out) ?_
          rintro e y33 ⟨rfl, hbx, hbn⟩
          have Z5y33 : Hid (ZeroAt y33 y26.heap.size) := Lib.hid (zero3 hbx Z5y32.out)
          have Z6y33 : Hid (ZeroAt y33 y0_.heap.size) := Lib.hid (zero3 hbx Z6y32.out)
          have HBy33 := Lib.hid hbn
          refine hK.out _ _ (HSEE.out _ hbn) (fun hH => ?_)
          clear hK K hbx hbn
          try simp only [Act.put, List.setIfInBounds_toArray, List.set_cons_zero, List.set_cons_succ]
          refine wpAnyH_ready (rs := [5]) (by kernel_rfl) (by simp) (AllReadyH.cons rfl (fun K hK => ?_) AllReadyH.nil)
          · rw [if_pos (by rfl)]
            go_simp
            go_at_call 38
            refine Calls.mono (P2.out _ HBy33.out) ?_
            rintro e y34 ⟨rfl, hbx, hbn⟩
            have Z5y34 : Hid (ZeroAt y34 y26.heap.size) := Lib.hid (zero3 hbx Z5y33.out)
            have Z6y34 : Hid (ZeroAt y34 y0_.heap.size) := Lib.hid (zero3 hbx Z6y33.out)
            have HBy34 := Lib.hid hbn
            refine hK.out _ _ (HSEE.out _ hbn) (fun hH => ?_)
            clear hK K hbx hbn
            try simp only [Act.put, List.setIfInBounds_toArray, List.set_cons_zero, List.set_cons_succ]
            have hS1 := HSEE.out _ (bl_set (b := y26.heap.size) (l := (#[.bool X.noStore, .bool X.noCache, .bool X.priv, .bool X.pub, .bool X.must, .bool X.prox, .bool X.only, .bool X.anyStale, .int .i64 X.maxA, .int .i64 X.sMax, .int .i64 X.minF, .int .i64 X.maxS] : Array Value).toList) HBy34.out HG5.out)
            refine wpAnyH_storeTo (i := 8) (by kernel_rfl) rfl rfl (by rfl) 58 (.tmp 5) (.tmp 15) rfl y26.heap.size 0 (#[.bool X.noStore, .bool X.noCache, .bool X.priv, .bool X.pub, .bool X.must, .bool X.prox, .bool X.only, .bool X.anyStale, .int .i64 X.maxA, .int .i64 X.sMax, .int .i64 X.minF, .int .i64 X.maxS]) rfl rfl (zero_there Z5y34.out) infoCtl (onesCtl X) hS1 ?_
            have HBS := Lib.hid (bl_set (b := y26.heap.size) (l := (#[.bool X.noStore, .bool X.noCache, .bool X.priv, .bool X.pub, .bool X.must, .bool X.prox, .bool X.only, .bool X.anyStale, .int .i64 X.maxA, .int .i64 X.sMax, .int .i64 X.minF, .int .i64 X.maxS] : Array Value).toList) HBy34.out HG5.out)
            have CX := Lib.hid (ctl_at X Z5y34.out)
            have ZY := Lib.hid (zero_keep (b := y26.heap.size) (l := (#[.bool X.noStore, .bool X.noCache, .bool X.priv, .bool X.pub, .bool X.must, .bool X.prox, .bool X.only, .bool X.anyStale, .int .i64 X.maxA, .int .i64 X.sMax, .int .i64 X.minF, .int .i64 X.maxS] : Array Value).toList) Z6y34.out (Ne.symm HNE.out))
            have hS2 := HSEE.out _ (bl_set (b := y0_.heap.size) (l := (#[.bool Y.noStore, .bool Y.noCache, .bool Y.priv, .bool Y.pub, .bool Y.must, .bool Y.prox, .bool Y.only, .bool Y.anyStale, .int .i64 Y.maxA, .int .i64 Y.sMax, .int .i64 Y.minF, .int .i64 Y.maxS] : Array Value).toList) HBS.out HG6.out)
            refine wpAnyH_storeTo (i := 9) (by kernel_rfl) rfl rfl (by rfl) 58 (.tmp 6) (.tmp 18) rfl y0_.heap.size 0 (#[.bool Y.noStore, .bool Y.noCache, .bool Y.priv, .bool Y.pub, .bool Y.must, .bool Y.prox, .bool Y.only, .bool Y.anyStale, .int .i64 Y.maxA, .int .i64 Y.sMax, .int .i64 Y.minF, .int .i64 Y.maxS]) rfl rfl (zero_there ZY.out) infoCtl (onesCtl Y) hS2 ?_
            refine wpAnyH_done (by kernel_rfl) ?_ _
            go_wp2_with fail
            go_meet
            exact ⟨_, _, rfl, rfl, ctl_keep CX.out HNE.out, ctl_at Y ZY.out, bl_set HBS.out HG6.out⟩
  case rest =>
    obtain ⟨g, h, rfl, rfl, hX, hY, hbw⟩ := hcut
    have HX := Lib.hid hX
    have HY := Lib.hid hY
    have HBW := Lib.hid hbw
    obtain ⟨q0, q2, r0, r1, r2, r3⟩ := HALL.out wc hbw
    have C3c := Lib.hid (C3.out wc hbw)
    clear hX hY hbw hbd HSEE P1 P2 C3
    go_wp2_with fail
    refine C3c.out.mono ?_
    rintro e w2 ⟨sa, sn, sc, rfl, hb2⟩
    have hv2 := HBW.out.trans (hb2.mono HBW.out.size)
    have HX2 : Hid (CtlAt w2 g X) := Lib.hid (stood3 hb2 HX.out)
    have HY2 : Hid (CtlAt w2 h Y) := Lib.hid (stood3 hb2 HY.out)
    have HV2 := Lib.hid hv2
    have C4c := Lib.hid (C4.out w2 hv2)
    clear q0 q2 r0 r1 r2 r3 C3c C4 HX HY hb2
    obtain ⟨q0, q2, r0, r1, r2, r3⟩ := HALL.out w2 hv2
    clear hv2
    go_wp2_with fail
    refine C4c.out.mono ?_
    rintro e w3 ⟨ax, rfl, hb3⟩
    have hv3 := HV2.out.trans (hb3.mono HV2.out.size)
    have HX3 : Hid (CtlAt w3 g X) := Lib.hid (stood3 hb3 HX2.out)
    have HY3 : Hid (CtlAt w3 h Y) := Lib.hid (stood3 hb3 HY2.out)
    have HV3 := Lib.hid hv3
    have C5c := Lib.hid (C5.out w3 hv3)
    clear q0 q2 r0 r1 r2 r3 C4c C5 HX2 HY2 hb3
    obtain ⟨q0, q2, r0, r1, r2, r3⟩ := HALL.out w3 hv3
    clear hv3
    go_wp2_with fail
    refine C5c.out.mono ?_
    rintro e w4 ⟨ex, rfl, hb4⟩
    have hv4 := HV3.out.trans (hb4.mono HV3.out.size)
    have hX4 : CtlAt w4 g X := stood3 hb4 HX3.out
    have hY4 : CtlAt w4 h Y := stood3 hb4 HY3.out
    have HW4 := Lib.hid (HB.out.trans (hv4.mono HB.out.size))
    clear q0 q2 r0 r1 r2 r3 C5c HX3 HY3 hb4
    obtain ⟨q0, q2, r0, r1, r2, r3⟩ := HALL.out w4 hv4
    have p0 := HCX.out w4 g hX4
    obtain ⟨p1, p2, p3, p4, p8, p9⟩ := HCY.out w4 h hY4
    clear hv4 hX4 hY4 HALL HCX HCY
    have e1 := E1.out
    have e2 := E2.out
    have e3 := E3.out
    have e4 := E4.out
    have e9 := E9.out
    have e9n := E9n.out
    have k8 := K8.out
    have k9 := K9.out
    have k9n := K9n.out
    clear E1 E2 E3 E4 E9 E9n K8 K9 K9n
    cases b1 with
    | false =>
      have hR : R = false := by rw [HVAL.out]; simp
      subst hR
      clear HVAL
      go_wp2
      go_ret
      exact ⟨rfl, HW4.out⟩
    | true =>
      cases b2 with
      | true =>
        have hR : R = false := by rw [HVAL.out]; simp
        subst hR
        clear HVAL
        go_wp2
        go_ret
        exact ⟨rfl, HW4.out⟩
      | false =>
        cases b3 with
        | true =>
          have hR : R = false := by rw [HVAL.out]; simp
          subst hR
          clear HVAL
          go_wp2
          go_ret
          exact ⟨rfl, HW4.out⟩
        | false =>
          cases b4 with
          | true =>
            have hR : R = false := by rw [HVAL.out]; simp
            subst hR
            clear HVAL
            go_wp2
            go_ret
            exact ⟨rfl, HW4.out⟩
          | false =>
            cases x0 with
            | true =>
              have hR : R = false := by rw [HVAL.out]; simp
              subst hR
              clear HVAL
              go_wp2
              go_ret
              exact ⟨rfl, HW4.out⟩
            | false =>
              cases y0 with
              | true =>
                have hR : R = false := by rw [HVAL.out]; simp
                subst hR
                clear HVAL
                go_wp2
                go_ret
                exact ⟨rfl, HW4.out⟩
              | false =>
                cases y2 with
                | true =>
                  have hR : R = false := by rw [HVAL.out]; simp
                  subst hR
                  clear HVAL
                  go_wp2
                  go_ret
                  exact ⟨rfl, HW4.out⟩
                | false =>
                  cases sb with
                  | true =>
                    have hR : R = false := by rw [HVAL.out]; simp
                    subst hR
                    clear HVAL
                    go_wp2
                    go_ret
                    exact ⟨rfl, HW4.out⟩
                  | false =>
                    cases b9 with
                    | true =>
                      have hR : R = false := by rw [HVAL.out]; simp
                      subst hR
                      clear HVAL
                      go_wp2
                      go_ret
                      exact ⟨rfl, HW4.out⟩
                    | false =>
                      cases ab with
                      | false =>
                        cases y3 with
                        | true =>
                          have hR : R = true := by rw [HVAL.out]; simp
                          subst hR
                          clear HVAL
                          go_wp2
                          go_ret
                          exact ⟨rfl, HW4.out⟩
                        | false =>
                          cases d8 with
                          | true =>
                            have hR : R = true := by rw [HVAL.out]; simp
                            subst hR
                            clear HVAL
                            go_wp2
                            go_ret
                            exact ⟨rfl, HW4.out⟩
                          | false =>
                            cases d9 with
                            | true =>
                              have hR : R = true := by rw [HVAL.out]; simp
                              subst hR
                              clear HVAL
                              go_wp2
                              go_ret
                              exact ⟨rfl, HW4.out⟩
                            | false =>
                              cases eb with
                              | true =>
                                have hR : R = true := by rw [HVAL.out]; simp
                                subst hR
                                clear HVAL
                                go_wp2
                                go_ret
                                exact ⟨rfl, HW4.out⟩
                              | false =>
                                have hR : R = ub := by rw [HVAL.out]; simp
                                subst hR
                                clear HVAL
                                go_wp2_with fail
                                refine (CH.out _).mono ?_
                                rintro e w5 ⟨rfl, hb5⟩
                                have HW5 := Lib.hid (HW4.out.trans (hb5.mono HW4.out.size))
                                clear hb5 CH
                                go_wp2
                                go_ret
                                exact ⟨rfl, HW5.out⟩
                      | true =>
                        cases y3 with
                        | true =>
                          have hR : R = true := by rw [HVAL.out]; simp
                          subst hR
                          clear HVAL
                          go_wp2
                          go_ret
                          exact ⟨rfl, HW4.out⟩
                        | false =>
                          cases y4 with
                          | true =>
                            cases d8 with
                            | true =>
                              have hR : R = true := by rw [HVAL.out]; simp
                              subst hR
                              clear HVAL
                              go_wp2
                              go_ret
                              exact ⟨rfl, HW4.out⟩
                            | false =>
                              cases d9 with
                              | true =>
                                have hR : R = true := by rw [HVAL.out]; simp
                                subst hR
                                clear HVAL
                                go_wp2
                                go_ret
                                exact ⟨rfl, HW4.out⟩
                              | false =>
                                cases eb with
                                | true =>
                                  have hR : R = true := by rw [HVAL.out]; simp
                                  subst hR
                                  clear HVAL
                                  go_wp2
                                  go_ret
                                  exact ⟨rfl, HW4.out⟩
                                | false =>
                                  have hR : R = ub := by rw [HVAL.out]; simp
                                  subst hR
                                  clear HVAL
                                  go_wp2_with fail
                                  refine (CH.out _).mono ?_
                                  rintro e w5 ⟨rfl, hb5⟩
                                  have HW5 := Lib.hid (HW4.out.trans (hb5.mono HW4.out.size))
                                  clear hb5 CH
                                  go_wp2
                                  go_ret
                                  exact ⟨rfl, HW5.out⟩
                          | false =>
                            cases d9 with
                            | true =>
                              cases d8 with
                              | true =>
                                have hR : R = true := by rw [HVAL.out]; simp
                                subst hR
                                clear HVAL
                                go_wp2
                                go_ret
                                exact ⟨rfl, HW4.out⟩
                              | false =>
                                have hR : R = true := by rw [HVAL.out]; simp
                                subst hR
                                clear HVAL
                                go_wp2
                                go_ret
                                exact ⟨rfl, HW4.out⟩
                            | false =>
                              have hR : R = false := by rw [HVAL.out]; simp
                              subst hR
                              clear HVAL
                              go_wp2
                              go_ret
                              exact ⟨rfl, HW4.out⟩
end Go.Proofs.YtgfinhkplijhbaaGreatDoor
