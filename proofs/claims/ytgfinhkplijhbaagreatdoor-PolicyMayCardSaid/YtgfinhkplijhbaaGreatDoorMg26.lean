/-
  policy.May: a response may be kept just when all seven rules hold.
  What the laws' own literals say of what may be kept; mayF: the seven rules' conjunction.
-/
import Derived.Laws.EntriesVeiled
import Derived.Deep.RegionHeld3
import Derived.Deep.DeepCutAuto
import Derived.Test.YtgfinhkplijhbaaGreatDoorMg20
import Derived.Test.YtgfinhkplijhbaaGreatDoorMg21
import Derived.Test.YtgfinhkplijhbaaGreatDoorMg25
namespace Go.Proofs.YtgfinhkplijhbaaGreatDoor
open Go.RowKit HeadMath HeadS CtrlS VaryS

theorem bl1 {v x : World} {o : Obj} (h : Below v.heap.size v x) : Below v.heap.size v (x.alloc o) := h.alloc h.size _
theorem stood0 {x : World} {b : Nat} {o p : Obj} (q : x.heap[b]? = some o) : (x.alloc p).heap[b]? = some o :=
  ((((Below.refl x.heap.size x).alloc (Nat.le_refl _) p).block _ (Array.getElem?_eq_some_iff.1 q).1)).trans q
theorem stood3 {x y : World} {b : Nat} {o : Obj} (h : Below x.heap.size x y) (q : x.heap[b]? = some o) : y.heap[b]? = some o := (h.block _ (Array.getElem?_eq_some_iff.1 q).1).trans q
theorem stood4 {x y : World} {b : Nat} {o p : Obj} (h : Below (x.alloc p).heap.size (x.alloc p) y) (q : x.heap[b]? = some o) : y.heap[b]? = some o := stood3 h (stood0 q)
theorem stood1 {y wn : World} {o : Obj} (h : Below (y.alloc o).heap.size (y.alloc o) wn) : wn.heap[y.heap.size]? = some o := stood3 h (heap_alloc_new y _)
theorem stood2 {y wn : World} {o p : Obj} (h : Below ((y.alloc o).alloc p).heap.size ((y.alloc o).alloc p) wn) : wn.heap[y.heap.size]? = some o ∧ wn.heap[y.heap.size + 1]? = some p := by
  refine ⟨stood4 h (heap_alloc_new y _), ?_⟩
  have e := stood1 h
  have hz : (y.alloc o).heap.size = y.heap.size + 1 := by simp
  rw [hz] at e
  exact e
abbrev zeroO : Obj := .cells #[.bool false, .bool false, .bool false, .bool false, .bool false, .bool false, .bool false, .bool false, .int .i64 0, .int .i64 0, .int .i64 0, .int .i64 0] 58 (0, 0)
def ZeroAt (w : World) (b : Nat) : Prop := w.heap[b]? = some zeroO
theorem store12 (W : World) (b : Nat) (b0 b1 b2 b3 b4 b5 b6 b7 : Bool) (i0 i1 i2 i3 : Int) (ht : W.there b 0 12) : (storeVar 58 ⟨b, 0, none⟩ (.agg #[.bool b0, .bool b1, .bool b2, .bool b3, .bool b4, .bool b5, .bool b6, .bool b7, .int .i64 i0, .int .i64 i1, .int .i64 i2, .int .i64 i3])).run Tryz.prog W = .ok () (W.setCells b 0 [.bool b0, .bool b1, .bool b2, .bool b3, .bool b4, .bool b5, .bool b6, .bool b7, .int .i64 i0, .int .i64 i1, .int .i64 i2, .int .i64 i3]) :=
  run_storeVar_mid W b 0 58 #[.bool b0, .bool b1, .bool b2, .bool b3, .bool b4, .bool b5, .bool b6, .bool b7, .int .i64 i0, .int .i64 i1, .int .i64 i2, .int .i64 i3] ht infoCtl (onesCtl ⟨b0, b1, b2, b3, b4, b5, b6, b7, i0, i1, i2, i3⟩)
theorem zero_there {w : World} {b : Nat} (h : ZeroAt w b) : w.there b 0 12 := there_of h 0 12 (by simp)
theorem zero_new (x : World) : ZeroAt (x.alloc zeroO) x.heap.size := heap_alloc_new x _
theorem zero_new1 (x : World) (o : Obj) : ZeroAt ((x.alloc o).alloc zeroO) (x.heap.size + 1) := by
  have e := heap_alloc_new (x.alloc o) zeroO
  have hz : (x.alloc o).heap.size = x.heap.size + 1 := by simp
  rw [hz] at e
  exact e
theorem heap_other (g k : Nat) (hk : k ≠ g) : ∀ (vs : List Value) (o : Nat) (x : World), (x.setCells g o vs).heap[k]? = x.heap[k]?
  | [], _, _ => rfl
  | v :: r, o, x => by
    show ((x.setCell ⟨g, o, none⟩ v).setCells g (o + 1) r).heap[k]? = _
    rw [heap_other g k hk r, Below.heap_setCell _ _ _ _ hk]
theorem bl_drew {v x : World} (h : Below v.heap.size v x) : Below v.heap.size v x.drew := h.drew
theorem undrew {x y : World} (h : Below x.drew.heap.size x.drew y) : Below x.heap.size x y := (Below.refl x.heap.size x).drew.trans h
theorem bl_set {v x : World} {b : Nat} {l : List Value} (h : Below v.heap.size v x) (hb : v.heap.size ≤ b) : Below v.heap.size v (x.setCells b 0 l) := by
  have : ∀ (l : List Value) (o : Nat) (y : World), Below v.heap.size v y → Below v.heap.size v (y.setCells b o l) := by
    intro l
    induction l with
    | nil => intro o y hy; exact hy
    | cons a r ih => intro o y hy; exact ih _ _ (below_cell hy hb _)
  exact this l 0 x h
theorem ctl_at {x : World} {b : Nat} (c : Ctl) (h : ZeroAt x b) : CtlAt (x.setCells b 0 [.bool c.noStore, .bool c.noCache, .bool c.priv, .bool c.pub, .bool c.must, .bool c.prox, .bool c.only, .bool c.anyStale, .int .i64 c.maxA, .int .i64 c.sMax, .int .i64 c.minF, .int .i64 c.maxS]) b c := (ctl_stored c (cs := [.bool false, .bool false, .bool false, .bool false, .bool false, .bool false, .bool false, .bool false, .int .i64 0, .int .i64 0, .int .i64 0, .int .i64 0]) (by rfl) h).2
theorem ctl_keep {x : World} {b k : Nat} {c : Ctl} {l : List Value} (h : CtlAt x k c) (hk : k ≠ b) : CtlAt (x.setCells b 0 l) k c := (heap_other b k hk l 0 x).trans h
theorem zero_keep {x : World} {b k : Nat} {l : List Value} (h : ZeroAt x k) (hk : k ≠ b) : ZeroAt (x.setCells b 0 l) k := (heap_other b k hk l 0 x).trans h
theorem zero_al {x : World} {b : Nat} {p : Obj} (h : ZeroAt x b) : ZeroAt (x.alloc p) b := stood0 h
theorem zero3 {x y : World} {b : Nat} (h : Below x.heap.size x y) (q : ZeroAt x b) : ZeroAt y b := stood3 h q
theorem zero4 {x y : World} {b : Nat} {p : Obj} (h : Below (x.alloc p).heap.size (x.alloc p) y) (q : ZeroAt x b) : ZeroAt y b := stood4 h q
theorem zero1 {y wn : World} (h : Below (y.alloc zeroO).heap.size (y.alloc zeroO) wn) : ZeroAt wn y.heap.size := stood1 h
theorem zero2 {y wn : World} (h : Below ((y.alloc zeroO).alloc zeroO).heap.size ((y.alloc zeroO).alloc zeroO) wn) : ZeroAt wn y.heap.size ∧ ZeroAt wn (y.heap.size + 1) := stood2 h
theorem zero_new2 (x : World) (p : Obj) : ZeroAt ((x.alloc zeroO).alloc p) x.heap.size := zero_al (zero_new x)
theorem th0 (x : World) : (x.alloc zeroO).there x.heap.size 0 12 := zero_there (zero_new x)
theorem th1 (x : World) (o : Obj) : ((x.alloc o).alloc zeroO).there (x.heap.size + 1) 0 12 := zero_there (zero_new1 x o)
theorem th2 (x : World) (p : Obj) : ((x.alloc zeroO).alloc p).there x.heap.size 0 12 := zero_there (zero_new2 x p)
theorem th4 {x : World} {b : Nat} {p : Obj} (h : ZeroAt x b) : (x.alloc p).there b 0 12 := zero_there (zero_al h)
theorem th5 {x : World} {b k : Nat} {l : List Value} (h : ZeroAt x k) (hk : k ≠ b) : (x.setCells b 0 l).there k 0 12 := zero_there (zero_keep h hk)
theorem th6 {x : World} {b k : Nat} {p : Obj} {l : List Value} (h : ZeroAt x k) (hk : k ≠ b) : ((x.alloc p).setCells b 0 l).there k 0 12 := zero_there (zero_keep (zero_al h) hk)
theorem new1 (x : World) (o p : Obj) : ((x.alloc o).alloc p).heap[x.heap.size + 1]? = some p := by
  have e := heap_alloc_new (x.alloc o) p
  have hz : (x.alloc o).heap.size = x.heap.size + 1 := by simp
  rw [hz] at e
  exact e
set_option maxRecDepth 100000 in
set_option maxHeartbeats 8000000 in
theorem may_any (w : World) (m tg : ByteArray) (fq : Fls) (fa : Option Addr) (fc : Nat) (ba : Option Addr) (bn bc : Nat) (st : Int) (rs : ByteArray) (fr : Fls) (ga : Option Addr) (gc : Nat) (ha : Option Addr) (hn hc : Nat)
    (hiq : FieldsIn w.heap.size w fa fq) (hfq : FewF fq) (hir : FieldsIn w.heap.size w ga fr) (hfr : FewF fr) :
    Calls Tryz.prog 14 #[.agg #[.string m, .string tg, .slice fa fq.length fc, .slice ba bn bc], .agg #[.int .i64 st, .string rs, .slice ga fr.length gc, .slice ha hn hc]] w (RulePost ((m.toList == [71, 69, 84]) && statusF st && (!(parseF fq).noStore && !(parseF fr).noStore && !(parseF fr).priv) && (!(getF authN fq).isSome || (parseF fr).pub || (parseF fr).must || decide (0 ≤ (parseF fr).sMax)) && !starP (listF varyN fr) && ((parseF fr).pub || decide (0 ≤ (parseF fr).maxA) || decide (0 ≤ (parseF fr).sMax) || (getF expN fr).isSome || heurF st) && decide (hn ≤ 60000)) w) := by
  obtain ⟨v, hv⟩ : ∃ v, (w.alloc (.cells #[.string m, .string tg, .slice fa fq.length fc, .slice ba bn bc] 25)).alloc (.cells #[.int .i64 st, .string rs, .slice ga fr.length gc, .slice ha hn hc] 27) = v := ⟨_, rfl⟩
  have hb : Below w.heap.size w v := by rw [← hv]; exact ((Below.refl _ _).alloc (Nat.le_refl _) _).alloc (by simp) _
  have hsz : v.heap.size = w.heap.size + 2 := by rw [← hv]; simp
  have kq : v.cell? ⟨w.heap.size, 2, none⟩ = some (.slice fa fq.length fc) := by rw [← hv]; simp [go_sem]
  have kr : v.cell? ⟨w.heap.size + 1, 2, none⟩ = some (.slice ga fr.length gc) := by rw [← hv]; simp [go_sem]
  have P1 : Hid (∀ x, Below v.heap.size v x → Calls Tryz.prog 26 #[.slice fa fq.length fc] x fun e w' => e = .returned (ctlV (parseF fq)) ∧ Below x.heap.size x w' ∧ Below v.heap.size v w') := Lib.hid (fun x hx => (parse_any fq fa fc x (kin_in (w := w) ⟨x, hb.trans (hx.mono hb.size)⟩ hiq) hfq).mono fun _ _ ⟨he, hb'⟩ => ⟨he, hb', hx.trans (hb'.mono hx.size)⟩)
  have P2 : Hid (∀ x, Below v.heap.size v x → Calls Tryz.prog 26 #[.slice ga fr.length gc] x fun e w' => e = .returned (ctlV (parseF fr)) ∧ Below x.heap.size x w' ∧ Below v.heap.size v w') := Lib.hid (fun x hx => (parse_any fr ga gc x (kin_in (w := w) ⟨x, hb.trans (hx.mono hb.size)⟩ hir) hfr).mono fun _ _ ⟨he, hb'⟩ => ⟨he, hb', hx.trans (hb'.mono hx.size)⟩)
  obtain ⟨X, hX⟩ : ∃ X, parseF fq = X := ⟨_, rfl⟩
  obtain ⟨Y, hY⟩ : ∃ X, parseF fr = X := ⟨_, rfl⟩
  have HSEE : Hid (∀ x, Below v.heap.size v x → x.cell? ⟨w.heap.size, 2, none⟩ = some (.slice fa fq.length fc) ∧ x.cell? ⟨w.heap.size + 1, 2, none⟩ = some (.slice ga fr.length gc)) := Lib.hid (fun x hx => ⟨(hx.cell (p := ⟨w.heap.size, 2, none⟩) (by show w.heap.size < v.heap.size; omega)).trans kq, (hx.cell (p := ⟨w.heap.size + 1, 2, none⟩) (by show w.heap.size + 1 < v.heap.size; omega)).trans kr⟩)
  rw [hX, hY]
  obtain ⟨b1, e1⟩ : ∃ b, (m.toList == [71, 69, 84]) = b := ⟨_, rfl⟩
  obtain ⟨b2, e2⟩ : ∃ b, statusF st = b := ⟨_, rfl⟩
  obtain ⟨b3, e3⟩ : ∃ b, (!X.noStore && !Y.noStore && !Y.priv) = b := ⟨_, rfl⟩
  obtain ⟨b4, e4⟩ : ∃ b, (!(getF authN fq).isSome || Y.pub || Y.must || decide (0 ≤ Y.sMax)) = b := ⟨_, rfl⟩
  obtain ⟨b5, e5⟩ : ∃ b, (!starP (listF varyN fr)) = b := ⟨_, rfl⟩
  obtain ⟨b6, e6⟩ : ∃ b, (Y.pub || decide (0 ≤ Y.maxA) || decide (0 ≤ Y.sMax) || (getF expN fr).isSome || heurF st) = b := ⟨_, rfl⟩
  obtain ⟨b7, e7⟩ : ∃ b, decide (hn ≤ 60000) = b := ⟨_, rfl⟩
  have GQ : ∀ x, Below v.heap.size v x → FieldsIn x.heap.size x fa fq := fun x hx => kin_in (w := w) ⟨x, hb.trans (hx.mono hb.size)⟩ hiq
  have GR : ∀ x, Below v.heap.size v x → FieldsIn x.heap.size x ga fr := fun x hx => kin_in (w := w) ⟨x, hb.trans (hx.mono hb.size)⟩ hir
  have R1 : Hid (∀ x, ReqAt x w.heap.size m tg fa fq.length fc ba bn bc → Calls Tryz.prog 29 #[.pointer (some ⟨w.heap.size, 0, none⟩)] x (RulePost b1 x)) := Lib.hid (fun x hx => by rw [← e1]; exact rule1_any x _ m tg _ _ _ _ _ _ hx)
  have R2 : Hid (∀ x, RespAt x (w.heap.size + 1) st rs ga fr.length gc ha hn hc → Calls Tryz.prog 30 #[.pointer (some ⟨w.heap.size + 1, 0, none⟩)] x (RulePost b2 x)) := Lib.hid (fun x hx => by rw [← e2]; exact rule2_any x _ st rs _ _ _ _ _ _ hx)
  have R3 : Hid (∀ x g h, CtlAt x g X → CtlAt x h Y → Calls Tryz.prog 31 #[.pointer (some ⟨g, 0, none⟩), .pointer (some ⟨h, 0, none⟩)] x (RulePost b3 x)) := Lib.hid (fun x g h h1 h2 => by rw [← e3]; exact rule3_any x g h X Y h1 h2)
  have R4 : Hid (∀ x hp h, Below v.heap.size v x → HasAt x hp → ReqAt x w.heap.size m tg fa fq.length fc ba bn bc → CtlAt x h Y → Calls Tryz.prog 32 #[.pointer (some ⟨hp, 0, none⟩), .pointer (some ⟨w.heap.size, 0, none⟩), .pointer (some ⟨h, 0, none⟩)] x (RulePost b4 x)) := Lib.hid (fun x hp h hx h0 h1 h2 => by rw [← e4]; exact rule4_any x hp _ h Y fq m tg fa fc ba bn bc h0 h1 h2 (GQ x hx) hfq)
  have R5 : Hid (∀ x, Below v.heap.size v x → RespAt x (w.heap.size + 1) st rs ga fr.length gc ha hn hc → Calls Tryz.prog 33 #[.pointer (some ⟨w.heap.size + 1, 0, none⟩)] x (RulePost b5 x)) := Lib.hid (fun x hx h1 => by rw [← e5]; exact rule5_any x _ st rs fr ga gc ha hn hc h1 (GR x hx) hfr)
  have R6 : Hid (∀ x hp h, Below v.heap.size v x → HasAt x hp → RespAt x (w.heap.size + 1) st rs ga fr.length gc ha hn hc → CtlAt x h Y → Calls Tryz.prog 35 #[.pointer (some ⟨h, 0, none⟩), .pointer (some ⟨hp, 0, none⟩), .pointer (some ⟨w.heap.size + 1, 0, none⟩)] x (RulePost b6 x)) := Lib.hid (fun x hp h hx h0 h1 h2 => by rw [← e6]; exact rule6_any x hp _ h Y fr st rs ga gc ha hn hc h0 h1 h2 (GR x hx) hfr)
  have R7 : Hid (∀ x, RespAt x (w.heap.size + 1) st rs ga fr.length gc ha hn hc → Calls Tryz.prog 37 #[.pointer (some ⟨w.heap.size + 1, 0, none⟩)] x (RulePost b7 x)) := Lib.hid (fun x hx => by rw [← e7]; exact rule7_any x _ st rs _ _ _ _ _ _ hx)
  rw [e1, e2, e3, e4, e5, e6, e7]
  clear GQ GR e1 e2 e3 e4 e5 e6 e7
  obtain ⟨nq, hnq⟩ : ∃ m, fq.length = m := ⟨_, rfl⟩
  obtain ⟨nr, hnr⟩ : ∃ m, fr.length = m := ⟨_, rfl⟩
  rw [hnq] at P1 HSEE kq hv R1 R4 ⊢
  rw [hnr] at P2 HSEE kr hv R2 R5 R6 R7 ⊢
  rw [hX] at P1
  rw [hY] at P2
  unfold ctlV at P1 P2
  have HV := Lib.hid hv
  have HSZ : Hid (v.heap.size = w.heap.size + 2) := Lib.hid hsz
  have HB := Lib.hid hb
  clear hiq hfq hir hfr hnq hnr hX hY hb hv hsz
  unfold RulePost
  go_enter Tryz.func14, Tryz.ntmps14
  go_upto_region 1 with (fail)
  change Code.wp _ _ _ _ ((w.alloc (.cells #[.string m, .string tg, .slice fa nq fc, .slice ba bn bc] 25)).alloc (.cells #[.int .i64 st, .string rs, .slice ga nr gc, .slice ha hn hc] 27))
  rw [HV.out]
  have hbd : Below v.heap.size v v.drew := (Below.refl _ _).drew
  go_cut [5, 6] (fun s5 s6 wx => ∃ g h : Nat, s5 = .pointer (some ⟨g, 0, none⟩) ∧ s6 = .pointer (some ⟨h, 0, none⟩) ∧ CtlAt wx g X ∧ CtlAt wx h Y ∧ Below v.heap.size v wx)
  case first =>
    refine wp_region_held_drew (S := fun x => x.cell? ⟨w.heap.size, 2, none⟩ = some (.slice fa nq fc) ∧ x.cell? ⟨w.heap.size + 1, 2, none⟩ = some (.slice ga nr gc)) (by kernel_rfl) (HSEE.out _ hbd) (fun hH => ?_)
    refine wpAnyH_takeTo (i := 0) (d := some 11) (v := .pointer (some ⟨w.heap.size, 2, none⟩)) rfl rfl (by kernel_rfl) (by kernel_rfl) (by kernel_rfl) (fun _ _ _ h => h) (Or.inl ⟨by rfl, fun x hx => ?_⟩) hH ?_
    · obtain ⟨f0, f1⟩ := hx
      go_simp
    try simp only [Act.put, List.setIfInBounds_toArray, List.set_cons_zero, List.set_cons_succ]
    refine wpAnyH_takeTo (i := 1) (d := some 12) (v := .slice fa nq fc) rfl rfl (by kernel_rfl) (by kernel_rfl) (by kernel_rfl) (fun _ _ _ h => h) (Or.inl ⟨by rfl, fun x hx => ?_⟩) hH ?_
    · obtain ⟨f0, f1⟩ := hx
      go_simp
    try simp only [Act.put, List.setIfInBounds_toArray, List.set_cons_zero, List.set_cons_succ]
    refine wpAnyH_takeTo (i := 3) (d := some 14) (v := .pointer (some ⟨w.heap.size + 1, 2, none⟩)) rfl rfl (by kernel_rfl) (by kernel_rfl) (by kernel_rfl) (fun _ _ _ h => h) (Or.inl ⟨by rfl, fun x hx => ?_⟩) hH ?_
    · obtain ⟨f0, f1⟩ := hx
      go_simp
    try simp only [Act.put, List.setIfInBounds_toArray, List.set_cons_zero, List.set_cons_succ]
    refine wpAnyH_takeTo (i := 4) (d := some 15) (v := .slice ga nr gc) rfl rfl (by kernel_rfl) (by kernel_rfl) (by kernel_rfl) (fun _ _ _ h => h) (Or.inl ⟨by rfl, fun x hx => ?_⟩) hH ?_
    · obtain ⟨f0, f1⟩ := hx
      go_simp
    try simp only [Act.put, List.setIfInBounds_toArray, List.set_cons_zero, List.set_cons_succ]
    obtain ⟨y0, hy0⟩ : ∃ y, v.drew = y := ⟨_, rfl⟩
    rw [hy0] at hbd hH ⊢
    have HBy0 := Lib.hid hbd
    clear hy0 hbd
    refine wpAnyH_ready (rs := [2, 6, 7]) (by kernel_rfl) (by simp) (AllReadyH.cons rfl (fun K hK => ?_) (AllReadyH.cons rfl (fun K hK => ?_) (AllReadyH.cons rfl (fun K hK => ?_) AllReadyH.nil)))
    · rw [if_pos (by rfl)]
      go_simp
      go_at_call 26
      refine Calls.mono (P1.out _ HBy0.out) ?_
      rintro e y1 ⟨rfl, hbx, hbn⟩
      have HBy1 := Lib.hid hbn
      refine hK.out _ _ (HSEE.out _ hbn) (fun hH => ?_)
      clear hK K hbx hbn
      try simp only [Act.put, List.setIfInBounds_toArray, List.set_cons_zero, List.set_cons_succ]
      refine wpAnyH_ready (rs := [5, 6, 7]) (by kernel_rfl) (by simp) (AllReadyH.cons rfl (fun K hK => ?_) (AllReadyH.cons rfl (fun K hK => ?_) (AllReadyH.cons rfl (fun K hK => ?_) AllReadyH.nil)))
      · rw [if_pos (by rfl)]
        go_simp
        go_at_call 26
        refine Calls.mono (P2.out _ HBy1.out) ?_
        rintro e y2 ⟨rfl, hbx, hbn⟩
        have HBy2 := Lib.hid hbn
        refine hK.out _ _ (HSEE.out _ hbn) (fun hH => ?_)
        clear hK K hbx hbn
        try simp only [Act.put, List.setIfInBounds_toArray, List.set_cons_zero, List.set_cons_succ]
        refine wpAnyH_ready (rs := [6, 7]) (by kernel_rfl) (by simp) (AllReadyH.cons rfl (fun K hK => ?_) (AllReadyH.cons rfl (fun K hK => ?_) AllReadyH.nil))
        · rw [if_pos (by rfl)]
          go_simp
          obtain ⟨y3, hy⟩ : ∃ y, y2.alloc zeroO = y := ⟨_, rfl⟩
          have hbn : Below v.heap.size v y3 := by rw [← hy]; exact bl1 HBy2.out
          have Z5y3 : Hid (ZeroAt y3 y2.heap.size) := Lib.hid (by rw [← hy]; exact zero_new y2)
          have HG5 : Hid (v.heap.size ≤ y2.heap.size) := Lib.hid HBy2.out.size
          have HBy3 := Lib.hid hbn
          change K _ (y2.alloc zeroO)
          rw [hy]
          refine hK.out _ _ (HSEE.out _ hbn) (fun hH => ?_)
          clear hK K hy hbn
          try simp only [Act.put, List.setIfInBounds_toArray, List.set_cons_zero, List.set_cons_succ]
          refine wpAnyH_ready (rs := [7]) (by kernel_rfl) (by simp) (AllReadyH.cons rfl (fun K hK => ?_) AllReadyH.nil)
          · rw [if_pos (by rfl)]
            go_simp
            obtain ⟨y4, hy⟩ : ∃ y, y3.alloc zeroO = y := ⟨_, rfl⟩
            have hbn : Below v.heap.size v y4 := by rw [← hy]; exact bl1 HBy3.out
            have Z5y4 : Hid (ZeroAt y4 y2.heap.size) := Lib.hid (by rw [← hy]; exact zero_al Z5y3.out)
            have Z6y4 : Hid (ZeroAt y4 y3.heap.size) := Lib.hid (by rw [← hy]; exact zero_new y3)
            have HG6 : Hid (v.heap.size ≤ y3.heap.size) := Lib.hid HBy3.out.size
            have HNE : Hid (y2.heap.size ≠ y3.heap.size) := Lib.hid (by have h := (Array.getElem?_eq_some_iff.1 Z5y3.out).1; omega)
            have HBy4 := Lib.hid hbn
            change K _ (y3.alloc zeroO)
            rw [hy]
            refine hK.out _ _ (HSEE.out _ hbn) (fun hH => ?_)
            clear hK K hy hbn
            try simp only [Act.put, List.setIfInBounds_toArray, List.set_cons_zero, List.set_cons_succ]
            have hS1 := HSEE.out _ (bl_set (b := y2.heap.size) (l := (#[.bool X.noStore, .bool X.noCache, .bool X.priv, .bool X.pub, .bool X.must, .bool X.prox, .bool X.only, .bool X.anyStale, .int .i64 X.maxA, .int .i64 X.sMax, .int .i64 X.minF, .int .i64 X.maxS] : Array Value).toList) HBy4.out HG5.out)
            refine wpAnyH_storeTo (i := 8) (by kernel_rfl) rfl rfl (by rfl) 58 (.tmp 5) (.tmp 13) rfl y2.heap.size 0 (#[.bool X.noStore, .bool X.noCache, .bool X.priv, .bool X.pub, .bool X.must, .bool X.prox, .bool X.only, .bool X.anyStale, .int .i64 X.maxA, .int .i64 X.sMax, .int .i64 X.minF, .int .i64 X.maxS]) rfl rfl (zero_there Z5y4.out) infoCtl (onesCtl X) hS1 ?_
            have HBS := Lib.hid (bl_set (b := y2.heap.size) (l := (#[.bool X.noStore, .bool X.noCache, .bool X.priv, .bool X.pub, .bool X.must, .bool X.prox, .bool X.only, .bool X.anyStale, .int .i64 X.maxA, .int .i64 X.sMax, .int .i64 X.minF, .int .i64 X.maxS] : Array Value).toList) HBy4.out HG5.out)
            have CX := Lib.hid (ctl_at X Z5y4.out)
            have ZY := Lib.hid (zero_keep (b := y2.heap.size) (l := (#[.bool X.noStore, .bool X.noCache, .bool X.priv, .bool X.pub, .bool X.must, .bool X.prox, .bool X.only, .bool X.anyStale, .int .i64 X.maxA, .int .i64 X.sMax, .int .i64 X.minF, .int .i64 X.maxS] : Array Value).toList) Z6y4.out (Ne.symm HNE.out))
            have hS2 := HSEE.out _ (bl_set (b := y3.heap.size) (l := (#[.bool Y.noStore, .bool Y.noCache, .bool Y.priv, .bool Y.pub, .bool Y.must, .bool Y.prox, .bool Y.only, .bool Y.anyStale, .int .i64 Y.maxA, .int .i64 Y.sMax, .int .i64 Y.minF, .int .i64 Y.maxS] : Array Value).toList) HBS.out HG6.out)
            refine wpAnyH_storeTo (i := 9) (by kernel_rfl) rfl rfl (by rfl) 58 (.tmp 6) (.tmp 16) rfl y3.heap.size 0 (#[.bool Y.noStore, .bool Y.noCache, .bool Y.priv, .bool Y.pub, .bool Y.must, .bool Y.prox, .bool Y.only, .bool Y.anyStale, .int .i64 Y.maxA, .int .i64 Y.sMax, .int .i64 Y.minF, .int .i64 Y.maxS]) rfl rfl (zero_there ZY.out) infoCtl (onesCtl Y) hS2 ?_
            refine wpAnyH_done (by kernel_rfl) ?_ _
            go_wp2_with fail
            go_meet
            exact ⟨_, _, rfl, rfl, ctl_keep CX.out HNE.out, ctl_at Y ZY.out, bl_set HBS.out HG6.out⟩
        · rw [if_pos (by rfl)]
          go_simp
          obtain ⟨y5, hy⟩ : ∃ y, y2.alloc zeroO = y := ⟨_, rfl⟩
          have hbn : Below v.heap.size v y5 := by rw [← hy]; exact bl1 HBy2.out
          have Z6y5 : Hid (ZeroAt y5 y2.heap.size) := Lib.hid (by rw [← hy]; exact zero_new y2)
          have HG6 : Hid (v.heap.size ≤ y2.heap.size) := Lib.hid HBy2.out.size
          have HBy5 := Lib.hid hbn
          change K _ (y2.alloc zeroO)
          rw [hy]
          refine hK.out _ _ (HSEE.out _ hbn) (fun hH => ?_)
          clear hK K hy hbn
          try simp only [Act.put, List.setIfInBounds_toArray, List.set_cons_zero, List.set_cons_succ]
          refine wpAnyH_ready (rs := [6]) (by kernel_rfl) (by simp) (AllReadyH.cons rfl (fun K hK => ?_) AllReadyH.nil)
          · rw [if_pos (by rfl)]
            go_simp
            obtain ⟨y6, hy⟩ : ∃ y, y5.alloc zeroO = y := ⟨_, rfl⟩
            have hbn : Below v.heap.size v y6 := by rw [← hy]; exact bl1 HBy5.out
            have Z6y6 : Hid (ZeroAt y6 y2.heap.size) := Lib.hid (by rw [← hy]; exact zero_al Z6y5.out)
            have Z5y6 : Hid (ZeroAt y6 y5.heap.size) := Lib.hid (by rw [← hy]; exact zero_new y5)
            have HG5 : Hid (v.heap.size ≤ y5.heap.size) := Lib.hid HBy5.out.size
            have HNE : Hid (y5.heap.size ≠ y2.heap.size) := Lib.hid (by have h := (Array.getElem?_eq_some_iff.1 Z6y5.out).1; omega)
            have HBy6 := Lib.hid hbn
            change K _ (y5.alloc zeroO)
            rw [hy]
            refine hK.out _ _ (HSEE.out _ hbn) (fun hH => ?_)
            clear hK K hy hbn
            try simp only [Act.put, List.setIfInBounds_toArray, List.set_cons_zero, List.set_cons_succ]
            have hS1 := HSEE.out _ (bl_set (b := y5.heap.size) (l := (#[.bool X.noStore, .bool X.noCache, .bool X.priv, .bool X.pub, .bool X.must, .bool X.prox, .bool X.only, .bool X.anyStale, .int .i64 X.maxA, .int .i64 X.sMax, .int .i64 X.minF, .int .i64 X.maxS] : Array Value).toList) HBy6.out HG5.out)
            refine wpAnyH_storeTo (i := 8) (by kernel_rfl) rfl rfl (by rfl) 58 (.tmp 5) (.tmp 13) rfl y5.heap.size 0 (#[.bool X.noStore, .bool X.noCache, .bool X.priv, .bool X.pub, .bool X.must, .bool X.prox, .bool X.only, .bool X.anyStale, .int .i64 X.maxA, .int .i64 X.sMax, .int .i64 X.minF, .int .i64 X.maxS]) rfl rfl (zero_there Z5y6.out) infoCtl (onesCtl X) hS1 ?_
            have HBS := Lib.hid (bl_set (b := y5.heap.size) (l := (#[.bool X.noStore, .bool X.noCache, .bool X.priv, .bool X.pub, .bool X.must, .bool X.prox, .bool X.only, .bool X.anyStale, .int .i64 X.maxA, .int .i64 X.sMax, .int .i64 X.minF, .int .i64 X.maxS] : Array Value).toList) HBy6.out HG5.out)
            have CX := Lib.hid (ctl_at X Z5y6.out)
            have ZY := Lib.hid (zero_keep (b := y5.heap.size) (l := (#[.bool X.noStore, .bool X.noCache, .bool X.priv, .bool X.pub, .bool X.must, .bool X.prox, .bool X.only, .bool X.anyStale, .int .i64 X.maxA, .int .i64 X.sMax, .int .i64 X.minF, .int .i64 X.maxS] : Array Value).toList) Z6y6.out (Ne.symm HNE.out))
            have hS2 := HSEE.out _ (bl_set (b := y2.heap.size) (l := (#[.bool Y.noStore, .bool Y.noCache, .bool Y.priv, .bool Y.pub, .bool Y.must, .bool Y.prox, .bool Y.only, .bool Y.anyStale, .int .i64 Y.maxA, .int .i64 Y.sMax, .int .i64 Y.minF, .int .i64 Y.maxS] : Array Value).toList) HBS.out HG6.out)
            refine wpAnyH_storeTo (i := 9) (by kernel_rfl) rfl rfl (by rfl) 58 (.tmp 6) (.tmp 16) rfl y2.heap.size 0 (#[.bool Y.noStore, .bool Y.noCache, .bool Y.priv, .bool Y.pub, .bool Y.must, .bool Y.prox, .bool Y.only, .bool Y.anyStale, .int .i64 Y.maxA, .int .i64 Y.sMax, .int .i64 Y.minF, .int .i64 Y.maxS]) rfl rfl (zero_there ZY.out) infoCtl (onesCtl Y) hS2 ?_
            refine wpAnyH_done (by kernel_rfl) ?_ _
            go_wp2_with fail
            go_meet
            exact ⟨_, _, rfl, rfl, ctl_keep CX.out HNE.out, ctl_at Y ZY.out, bl_set HBS.out HG6.out⟩
      · rw [if_pos (by rfl)]
        go_simp
        obtain ⟨y7, hy⟩ : ∃ y, y1.alloc zeroO = y := ⟨_, rfl⟩
        have hbn : Below v.heap.size v y7 := by rw [← hy]; exact bl1 HBy1.out
        have Z5y7 : Hid (ZeroAt y7 y1.heap.size) := Lib.hid (by rw [← hy]; exact zero_new y1)
        have HG5 : Hid (v.heap.size ≤ y1.heap.size) := Lib.hid HBy1.out.size
        have HBy7 := Lib.hid hbn
        change K _ (y1.alloc zeroO)
        rw [hy]
        refine hK.out _ _ (HSEE.out _ hbn) (fun hH => ?_)
        clear hK K hy hbn
        try simp only [Act.put, List.setIfInBounds_toArray, List.set_cons_zero, List.set_cons_succ]
        refine wpAnyH_ready (rs := [5, 7]) (by kernel_rfl) (by simp) (AllReadyH.cons rfl (fun K hK => ?_) (AllReadyH.cons rfl (fun K hK => ?_) AllReadyH.nil))
        · rw [if_pos (by rfl)]
          go_simp
          go_at_call 26
          refine Calls.mono (P2.out _ HBy7.out) ?_
          rintro e y8 ⟨rfl, hbx, hbn⟩
          have Z5y8 : Hid (ZeroAt y8 y1.heap.size) := Lib.hid (zero3 hbx Z5y7.out)
          have HBy8 := Lib.hid hbn
          refine hK.out _ _ (HSEE.out _ hbn) (fun hH => ?_)
          clear hK K hbx hbn
          try simp only [Act.put, List.setIfInBounds_toArray, List.set_cons_zero, List.set_cons_succ]
          refine wpAnyH_ready (rs := [7]) (by kernel_rfl) (by simp) (AllReadyH.cons rfl (fun K hK => ?_) AllReadyH.nil)
          · rw [if_pos (by rfl)]
            go_simp
            obtain ⟨y9, hy⟩ : ∃ y, y8.alloc zeroO = y := ⟨_, rfl⟩
            have hbn : Below v.heap.size v y9 := by rw [← hy]; exact bl1 HBy8.out
            have Z5y9 : Hid (ZeroAt y9 y1.heap.size) := Lib.hid (by rw [← hy]; exact zero_al Z5y8.out)
            have Z6y9 : Hid (ZeroAt y9 y8.heap.size) := Lib.hid (by rw [← hy]; exact zero_new y8)
            have HG6 : Hid (v.heap.size ≤ y8.heap.size) := Lib.hid HBy8.out.size
            have HNE : Hid (y1.heap.size ≠ y8.heap.size) := Lib.hid (by have h := (Array.getElem?_eq_some_iff.1 Z5y8.out).1; omega)
            have HBy9 := Lib.hid hbn
            change K _ (y8.alloc zeroO)
            rw [hy]
            refine hK.out _ _ (HSEE.out _ hbn) (fun hH => ?_)
            clear hK K hy hbn
            try simp only [Act.put, List.setIfInBounds_toArray, List.set_cons_zero, List.set_cons_succ]
            have hS1 := HSEE.out _ (bl_set (b := y1.heap.size) (l := (#[.bool X.noStore, .bool X.noCache, .bool X.priv, .bool X.pub, .bool X.must, .bool X.prox, .bool X.only, .bool X.anyStale, .int .i64 X.maxA, .int .i64 X.sMax, .int .i64 X.minF, .int .i64 X.maxS] : Array Value).toList) HBy9.out HG5.out)
            refine wpAnyH_storeTo (i := 8) (by kernel_rfl) rfl rfl (by rfl) 58 (.tmp 5) (.tmp 13) rfl y1.heap.size 0 (#[.bool X.noStore, .bool X.noCache, .bool X.priv, .bool X.pub, .bool X.must, .bool X.prox, .bool X.only, .bool X.anyStale, .int .i64 X.maxA, .int .i64 X.sMax, .int .i64 X.minF, .int .i64 X.maxS]) rfl rfl (zero_there Z5y9.out) infoCtl (onesCtl X) hS1 ?_
            have HBS := Lib.hid (bl_set (b := y1.heap.size) (l := (#[.bool X.noStore, .bool X.noCache, .bool X.priv, .bool X.pub, .bool X.must, .bool X.prox, .bool X.only, .bool X.anyStale, .int .i64 X.maxA, .int .i64 X.sMax, .int .i64 X.minF, .int .i64 X.maxS] : Array Value).toList) HBy9.out HG5.out)
            have CX := Lib.hid (ctl_at X Z5y9.out)
            have ZY := Lib.hid (zero_keep (b := y1.heap.size) (l := (#[.bool X.noStore, .bool X.noCache, .bool X.priv, .bool X.pub, .bool X.must, .bool X.prox, .bool X.only, .bool X.anyStale, .int .i64 X.maxA, .int .i64 X.sMax, .int .i64 X.minF, .int .i64 X.maxS] : Array Value).toList) Z6y9.out (Ne.symm HNE.out))
            have hS2 := HSEE.out _ (bl_set (b := y8.heap.size) (l := (#[.bool Y.noStore, .bool Y.noCache, .bool Y.priv, .bool Y.pub, .bool Y.must, .bool Y.prox, .bool Y.only, .bool Y.anyStale, .int .i64 Y.maxA, .int .i64 Y.sMax, .int .i64 Y.minF, .int .i64 Y.maxS] : Array Value).toList) HBS.out HG6.out)
            refine wpAnyH_storeTo (i := 9) (by kernel_rfl) rfl rfl (by rfl) 58 (.tmp 6) (.tmp 16) rfl y8.heap.size 0 (#[.bool Y.noStore, .bool Y.noCache, .bool Y.priv, .bool Y.pub, .bool Y.must, .bool Y.prox, .bool Y.only, .bool Y.anyStale, .int .i64 Y.maxA, .int .i64 Y.sMax, .int .i64 Y.minF, .int .i64 Y.maxS]) rfl rfl (zero_there ZY.out) infoCtl (onesCtl Y) hS2 ?_
            refine wpAnyH_done (by kernel_rfl) ?_ _
            go_wp2_with fail
            go_meet
            exact ⟨_, _, rfl, rfl, ctl_keep CX.out HNE.out, ctl_at Y ZY.out, bl_set HBS.out HG6.out⟩
        · rw [if_pos (by rfl)]
          go_simp
          obtain ⟨y10, hy⟩ : ∃ y, y7.alloc zeroO = y := ⟨_, rfl⟩
          have hbn : Below v.heap.size v y10 := by rw [← hy]; exact bl1 HBy7.out
          have Z5y10 : Hid (ZeroAt y10 y1.heap.size) := Lib.hid (by rw [← hy]; exact zero_al Z5y7.out)
          have Z6y10 : Hid (ZeroAt y10 y7.heap.size) := Lib.hid (by rw [← hy]; exact zero_new y7)
          have HG6 : Hid (v.heap.size ≤ y7.heap.size) := Lib.hid HBy7.out.size
          have HNE : Hid (y1.heap.size ≠ y7.heap.size) := Lib.hid (by have h := (Array.getElem?_eq_some_iff.1 Z5y7.out).1; omega)
          have HBy10 := Lib.hid hbn
          change K _ (y7.alloc zeroO)
          rw [hy]
          refine hK.out _ _ (HSEE.out _ hbn) (fun hH => ?_)
          clear hK K hy hbn
          try simp only [Act.put, List.setIfInBounds_toArray, List.set_cons_zero, List.set_cons_succ]
          refine wpAnyH_ready (rs := [5]) (by kernel_rfl) (by simp) (AllReadyH.cons rfl (fun K hK => ?_) AllReadyH.nil)
          · rw [if_pos (by rfl)]
            go_simp
            go_at_call 26
            refine Calls.mono (P2.out _ HBy10.out) ?_
            rintro e y11 ⟨rfl, hbx, hbn⟩
            have Z5y11 : Hid (ZeroAt y11 y1.heap.size) := Lib.hid (zero3 hbx Z5y10.out)
            have Z6y11 : Hid (ZeroAt y11 y7.heap.size) := Lib.hid (zero3 hbx Z6y10.out)
            have HBy11 := Lib.hid hbn
            refine hK.out _ _ (HSEE.out _ hbn) (fun hH => ?_)
            clear hK K hbx hbn
            try simp only [Act.put, List.setIfInBounds_toArray, List.set_cons_zero, List.set_cons_succ]
            have hS1 := HSEE.out _ (bl_set (b := y1.heap.size) (l := (#[.bool X.noStore, .bool X.noCache, .bool X.priv, .bool X.pub, .bool X.must, .bool X.prox, .bool X.only, .bool X.anyStale, .int .i64 X.maxA, .int .i64 X.sMax, .int .i64 X.minF, .int .i64 X.maxS] : Array Value).toList) HBy11.out HG5.out)
            refine wpAnyH_storeTo (i := 8) (by kernel_rfl) rfl rfl (by rfl) 58 (.tmp 5) (.tmp 13) rfl y1.heap.size 0 (#[.bool X.noStore, .bool X.noCache, .bool X.priv, .bool X.pub, .bool X.must, .bool X.prox, .bool X.only, .bool X.anyStale, .int .i64 X.maxA, .int .i64 X.sMax, .int .i64 X.minF, .int .i64 X.maxS]) rfl rfl (zero_there Z5y11.out) infoCtl (onesCtl X) hS1 ?_
            have HBS := Lib.hid (bl_set (b := y1.heap.size) (l := (#[.bool X.noStore, .bool X.noCache, .bool X.priv, .bool X.pub, .bool X.must, .bool X.prox, .bool X.only, .bool X.anyStale, .int .i64 X.maxA, .int .i64 X.sMax, .int .i64 X.minF, .int .i64 X.maxS] : Array Value).toList) HBy11.out HG5.out)
            have CX := Lib.hid (ctl_at X Z5y11.out)
            have ZY := Lib.hid (zero_keep (b := y1.heap.size) (l := (#[.bool X.noStore, .bool X.noCache, .bool X.priv, .bool X.pub, .bool X.must, .bool X.prox, .bool X.only, .bool X.anyStale, .int .i64 X.maxA, .int .i64 X.sMax, .int .i64 X.minF, .int .i64 X.maxS] : Array Value).toList) Z6y11.out (Ne.symm HNE.out))
            have hS2 := HSEE.out _ (bl_set (b := y7.heap.size) (l := (#[.bool Y.noStore, .bool Y.noCache, .bool Y.priv, .bool Y.pub, .bool Y.must, .bool Y.prox, .bool Y.only, .bool Y.anyStale, .int .i64 Y.maxA, .int .i64 Y.sMax, .int .i64 Y.minF, .int .i64 Y.maxS] : Array Value).toList) HBS.out HG6.out)
            refine wpAnyH_storeTo (i := 9) (by kernel_rfl) rfl rfl (by rfl) 58 (.tmp 6) (.tmp 16) rfl y7.heap.size 0 (#[.bool Y.noStore, .bool Y.noCache, .bool Y.priv, .bool Y.pub, .bool Y.must, .bool Y.prox, .bool Y.only, .bool Y.anyStale, .int .i64 Y.maxA, .int .i64 Y.sMax, .int .i64 Y.minF, .int .i64 Y.maxS]) rfl rfl (zero_there ZY.out) infoCtl (onesCtl Y) hS2 ?_
            refine wpAnyH_done (by kernel_rfl) ?_ _
            go_wp2_with fail
            go_meet
            exact ⟨_, _, rfl, rfl, ctl_keep CX.out HNE.out, ctl_at Y ZY.out, bl_set HBS.out HG6.out⟩
      · rw [if_pos (by rfl)]
        go_simp
        obtain ⟨y12, hy⟩ : ∃ y, y1.alloc zeroO = y := ⟨_, rfl⟩
        have hbn : Below v.heap.size v y12 := by rw [← hy]; exact bl1 HBy1.out
        have Z6y12 : Hid (ZeroAt y12 y1.heap.size) := Lib.hid (by rw [← hy]; exact zero_new y1)
        have HG6 : Hid (v.heap.size ≤ y1.heap.size) := Lib.hid HBy1.out.size
        have HBy12 := Lib.hid hbn
        change K _ (y1.alloc zeroO)
        rw [hy]
        refine hK.out _ _ (HSEE.out _ hbn) (fun hH => ?_)
        clear hK K hy hbn
        try simp only [Act.put, List.setIfInBounds_toArray, List.set_cons_zero, List.set_cons_succ]
        refine wpAnyH_ready (rs := [5, 6]) (by kernel_rfl) (by simp) (AllReadyH.cons rfl (fun K hK => ?_) (AllReadyH.cons rfl (fun K hK => ?_) AllReadyH.nil))
        · rw [if_pos (by rfl)]
          go_simp
          go_at_call 26
          refine Calls.mono (P2.out _ HBy12.out) ?_
          rintro e y13 ⟨rfl, hbx, hbn⟩
          have Z6y13 : Hid (ZeroAt y13 y1.heap.size) := Lib.hid (zero3 hbx Z6y12.out)
          have HBy13 := Lib.hid hbn
          refine hK.out _ _ (HSEE.out _ hbn) (fun hH => ?_)
          clear hK K hbx hbn
          try simp only [Act.put, List.setIfInBounds_toArray, List.set_cons_zero, List.set_cons_succ]
          refine wpAnyH_ready (rs := [6]) (by kernel_rfl) (by simp) (AllReadyH.cons rfl (fun K hK => ?_) AllReadyH.nil)
          · rw [if_pos (by rfl)]
            go_simp
            obtain ⟨y14, hy⟩ : ∃ y, y13.alloc zeroO = y := ⟨_, rfl⟩
            have hbn : Below v.heap.size v y14 := by rw [← hy]; exact bl1 HBy13.out
            have Z6y14 : Hid (ZeroAt y14 y1.heap.size) := Lib.hid (by rw [← hy]; exact zero_al Z6y13.out)
            have Z5y14 : Hid (ZeroAt y14 y13.heap.size) := Lib.hid (by rw [← hy]; exact zero_new y13)
            have HG5 : Hid (v.heap.size ≤ y13.heap.size) := Lib.hid HBy13.out.size
            have HNE : Hid (y13.heap.size ≠ y1.heap.size) := Lib.hid (by have h := (Array.getElem?_eq_some_iff.1 Z6y13.out).1; omega)
            have HBy14 := Lib.hid hbn
            change K _ (y13.alloc zeroO)
            rw [hy]
            refine hK.out _ _ (HSEE.out _ hbn) (fun hH => ?_)
            clear hK K hy hbn
            try simp only [Act.put, List.setIfInBounds_toArray, List.set_cons_zero, List.set_cons_succ]
            have hS1 := HSEE.out _ (bl_set (b := y13.heap.size) (l := (#[.bool X.noStore, .bool X.noCache, .bool X.priv, .bool X.pub, .bool X.must, .bool X.prox, .bool X.only, .bool X.anyStale, .int .i64 X.maxA, .int .i64 X.sMax, .int .i64 X.minF, .int .i64 X.maxS] : Array Value).toList) HBy14.out HG5.out)
            refine wpAnyH_storeTo (i := 8) (by kernel_rfl) rfl rfl (by rfl) 58 (.tmp 5) (.tmp 13) rfl y13.heap.size 0 (#[.bool X.noStore, .bool X.noCache, .bool X.priv, .bool X.pub, .bool X.must, .bool X.prox, .bool X.only, .bool X.anyStale, .int .i64 X.maxA, .int .i64 X.sMax, .int .i64 X.minF, .int .i64 X.maxS]) rfl rfl (zero_there Z5y14.out) infoCtl (onesCtl X) hS1 ?_
            have HBS := Lib.hid (bl_set (b := y13.heap.size) (l := (#[.bool X.noStore, .bool X.noCache, .bool X.priv, .bool X.pub, .bool X.must, .bool X.prox, .bool X.only, .bool X.anyStale, .int .i64 X.maxA, .int .i64 X.sMax, .int .i64 X.minF, .int .i64 X.maxS] : Array Value).toList) HBy14.out HG5.out)
            have CX := Lib.hid (ctl_at X Z5y14.out)
            have ZY := Lib.hid (zero_keep (b := y13.heap.size) (l := (#[.bool X.noStore, .bool X.noCache, .bool X.priv, .bool X.pub, .bool X.must, .bool X.prox, .bool X.only, .bool X.anyStale, .int .i64 X.maxA, .int .i64 X.sMax, .int .i64 X.minF, .int .i64 X.maxS] : Array Value).toList) Z6y14.out (Ne.symm HNE.out))
            have hS2 := HSEE.out _ (bl_set (b := y1.heap.size) (l := (#[.bool Y.noStore, .bool Y.noCache, .bool Y.priv, .bool Y.pub, .bool Y.must, .bool Y.prox, .bool Y.only, .bool Y.anyStale, .int .i64 Y.maxA, .int .i64 Y.sMax, .int .i64 Y.minF, .int .i64 Y.maxS] : Array Value).toList) HBS.out HG6.out)
            refine wpAnyH_storeTo (i := 9) (by kernel_rfl) rfl rfl (by rfl) 58 (.tmp 6) (.tmp 16) rfl y1.heap.size 0 (#[.bool Y.noStore, .bool Y.noCache, .bool Y.priv, .bool Y.pub, .bool Y.must, .bool Y.prox, .bool Y.only, .bool Y.anyStale, .int .i64 Y.maxA, .int .i64 Y.sMax, .int .i64 Y.minF, .int .i64 Y.maxS]) rfl rfl (zero_there ZY.out) infoCtl (onesCtl Y) hS2 ?_
            refine wpAnyH_done (by kernel_rfl) ?_ _
            go_wp2_with fail
            go_meet
            exact ⟨_, _, rfl, rfl, ctl_keep CX.out HNE.out, ctl_at Y ZY.out, bl_set HBS.out HG6.out⟩
        · rw [if_pos (by rfl)]
          go_simp
          obtain ⟨y15, hy⟩ : ∃ y, y12.alloc zeroO = y := ⟨_, rfl⟩
          have hbn : Below v.heap.size v y15 := by rw [← hy]; exact bl1 HBy12.out
          have Z6y15 : Hid (ZeroAt y15 y1.heap.size) := Lib.hid (by rw [← hy]; exact zero_al Z6y12.out)
          have Z5y15 : Hid (ZeroAt y15 y12.heap.size) := Lib.hid (by rw [← hy]; exact zero_new y12)
          have HG5 : Hid (v.heap.size ≤ y12.heap.size) := Lib.hid HBy12.out.size
          have HNE : Hid (y12.heap.size ≠ y1.heap.size) := Lib.hid (by have h := (Array.getElem?_eq_some_iff.1 Z6y12.out).1; omega)
          have HBy15 := Lib.hid hbn
          change K _ (y12.alloc zeroO)
          rw [hy]
          refine hK.out _ _ (HSEE.out _ hbn) (fun hH => ?_)
          clear hK K hy hbn
          try simp only [Act.put, List.setIfInBounds_toArray, List.set_cons_zero, List.set_cons_succ]
          refine wpAnyH_ready (rs := [5]) (by kernel_rfl) (by simp) (AllReadyH.cons rfl (fun K hK => ?_) AllReadyH.nil)
          · rw [if_pos (by rfl)]
            go_simp
            go_at_call 26
            refine Calls.mono (P2.out _ HBy15.out) ?_
            rintro e y16 ⟨rfl, hbx, hbn⟩
            have Z5y16 : Hid (ZeroAt y16 y12.heap.size) := Lib.hid (zero3 hbx Z5y15.out)
            have Z6y16 : Hid (ZeroAt y16 y1.heap.size) := Lib.hid (zero3 hbx Z6y15.out)
            have HBy16 := Lib.hid hbn
            refine hK.out _ _ (HSEE.out _ hbn) (fun hH => ?_)
            clear hK K hbx hbn
            try simp only [Act.put, List.setIfInBounds_toArray, List.set_cons_zero, List.set_cons_succ]
            have hS1 := HSEE.out _ (bl_set (b := y12.heap.size) (l := (#[.bool X.noStore, .bool X.noCache, .bool X.priv, .bool X.pub, .bool X.must, .bool X.prox, .bool X.only, .bool X.anyStale, .int .i64 X.maxA, .int .i64 X.sMax, .int .i64 X.minF, .int .i64 X.maxS] : Array Value).toList) HBy16.out HG5.out)
            refine wpAnyH_storeTo (i := 8) (by kernel_rfl) rfl rfl (by rfl) 58 (.tmp 5) (.tmp 13) rfl y12.heap.size 0 (#[.bool X.noStore, .bool X.noCache, .bool X.priv, .bool X.pub, .bool X.must, .bool X.prox, .bool X.only, .bool X.anyStale, .int .i64 X.maxA, .int .i64 X.sMax, .int .i64 X.minF, .int .i64 X.maxS]) rfl rfl (zero_there Z5y16.out) infoCtl (onesCtl X) hS1 ?_
            have HBS := Lib.hid (bl_set (b := y12.heap.size) (l := (#[.bool X.noStore, .bool X.noCache, .bool X.priv, .bool X.pub, .bool X.must, .bool X.prox, .bool X.only, .bool X.anyStale, .int .i64 X.maxA, .int .i64 X.sMax, .int .i64 X.minF, .int .i64 X.maxS] : Array Value).toList) HBy16.out HG5.out)
            have CX := Lib.hid (ctl_at X Z5y16.out)
            have ZY := Lib.hid (zero_keep (b := y12.heap.size) (l := (#[.bool X.noStore, .bool X.noCache, .bool X.priv, .bool X.pub, .bool X.must, .bool X.prox, .bool X.only, .bool X.anyStale, .int .i64 X.maxA, .int .i64 X.sMax, .int .i64 X.minF, .int .i64 X.maxS] : Array Value).toList) Z6y16.out (Ne.symm HNE.out))
            have hS2 := HSEE.out _ (bl_set (b := y1.heap.size) (l := (#[.bool Y.noStore, .bool Y.noCache, .bool Y.priv, .bool Y.pub, .bool Y.must, .bool Y.prox, .bool Y.only, .bool Y.anyStale, .int .i64 Y.maxA, .int .i64 Y.sMax, .int .i64 Y.minF, .int .i64 Y.maxS] : Array Value).toList) HBS.out HG6.out)
            refine wpAnyH_storeTo (i := 9) (by kernel_rfl) rfl rfl (by rfl) 58 (.tmp 6) (.tmp 16) rfl y1.heap.size 0 (#[.bool Y.noStore, .bool Y.noCache, .bool Y.priv, .bool Y.pub, .bool Y.must, .bool Y.prox, .bool Y.only, .bool Y.anyStale, .int .i64 Y.maxA, .int .i64 Y.sMax, .int .i64 Y.minF, .int .i64 Y.maxS]) rfl rfl (zero_there ZY.out) infoCtl (onesCtl Y) hS2 ?_
            refine wpAnyH_done (by kernel_rfl) ?_ _
            go_wp2_with fail
            go_meet
            exact ⟨_, _, rfl, rfl, ctl_keep CX.out HNE.out, ctl_at Y ZY.out, bl_set HBS.out HG6.out⟩
    · rw [if_pos (by rfl)]
      go_simp
      obtain ⟨y17, hy⟩ : ∃ y, y0.alloc zeroO = y := ⟨_, rfl⟩
      have hbn : Below v.heap.size v y17 := by rw [← hy]; exact bl1 HBy0.out
      have Z5y17 : Hid (ZeroAt y17 y0.heap.size) := Lib.hid (by rw [← hy]; exact zero_new y0)
      have HG5 : Hid (v.heap.size ≤ y0.heap.size) := Lib.hid HBy0.out.size
      have HBy17 := Lib.hid hbn
      change K _ (y0.alloc zeroO)
      rw [hy]
      refine hK.out _ _ (HSEE.out _ hbn) (fun hH => ?_)
      clear hK K hy hbn
      try simp only [Act.put, List.setIfInBounds_toArray, List.set_cons_zero, List.set_cons_succ]
      refine wpAnyH_ready (rs := [2, 7]) (by kernel_rfl) (by simp) (AllReadyH.cons rfl (fun K hK => ?_) (AllReadyH.cons rfl (fun K hK => ?_) AllReadyH.nil))
      · rw [if_pos (by rfl)]
        go_simp
        go_at_call 26
        refine Calls.mono (P1.out _ HBy17.out) ?_
        rintro e y18 ⟨rfl, hbx, hbn⟩
        have Z5y18 : Hid (ZeroAt y18 y0.heap.size) := Lib.hid (zero3 hbx Z5y17.out)
        have HBy18 := Lib.hid hbn
        refine hK.out _ _ (HSEE.out _ hbn) (fun hH => ?_)
        clear hK K hbx hbn
        try simp only [Act.put, List.setIfInBounds_toArray, List.set_cons_zero, List.set_cons_succ]
        refine wpAnyH_ready (rs := [5, 7]) (by kernel_rfl) (by simp) (AllReadyH.cons rfl (fun K hK => ?_) (AllReadyH.cons rfl (fun K hK => ?_) AllReadyH.nil))
        · rw [if_pos (by rfl)]
          go_simp
          go_at_call 26
          refine Calls.mono (P2.out _ HBy18.out) ?_
          rintro e y19 ⟨rfl, hbx, hbn⟩
          have Z5y19 : Hid (ZeroAt y19 y0.heap.size) := Lib.hid (zero3 hbx Z5y18.out)
          have HBy19 := Lib.hid hbn
          refine hK.out _ _ (HSEE.out _ hbn) (fun hH => ?_)
          clear hK K hbx hbn
          try simp only [Act.put, List.setIfInBounds_toArray, List.set_cons_zero, List.set_cons_succ]
          refine wpAnyH_ready (rs := [7]) (by kernel_rfl) (by simp) (AllReadyH.cons rfl (fun K hK => ?_) AllReadyH.nil)
          · rw [if_pos (by rfl)]
            go_simp
            obtain ⟨y20, hy⟩ : ∃ y, y19.alloc zeroO = y := ⟨_, rfl⟩
            have hbn : Below v.heap.size v y20 := by rw [← hy]; exact bl1 HBy19.out
            have Z5y20 : Hid (ZeroAt y20 y0.heap.size) := Lib.hid (by rw [← hy]; exact zero_al Z5y19.out)
            have Z6y20 : Hid (ZeroAt y20 y19.heap.size) := Lib.hid (by rw [← hy]; exact zero_new y19)
            have HG6 : Hid (v.heap.size ≤ y19.heap.size) := Lib.hid HBy19.out.size
            have HNE : Hid (y0.heap.size ≠ y19.heap.size) := Lib.hid (by have h := (Array.getElem?_eq_some_iff.1 Z5y19.out).1; omega)
            have HBy20 := Lib.hid hbn
            change K _ (y19.alloc zeroO)
            rw [hy]
            refine hK.out _ _ (HSEE.out _ hbn) (fun hH => ?_)
            clear hK K hy hbn
            try simp only [Act.put, List.setIfInBounds_toArray, List.set_cons_zero, List.set_cons_succ]
            have hS1 := HSEE.out _ (bl_set (b := y0.heap.size) (l := (#[.bool X.noStore, .bool X.noCache, .bool X.priv, .bool X.pub, .bool X.must, .bool X.prox, .bool X.only, .bool X.anyStale, .int .i64 X.maxA, .int .i64 X.sMax, .int .i64 X.minF, .int .i64 X.maxS] : Array Value).toList) HBy20.out HG5.out)
            refine wpAnyH_storeTo (i := 8) (by kernel_rfl) rfl rfl (by rfl) 58 (.tmp 5) (.tmp 13) rfl y0.heap.size 0 (#[.bool X.noStore, .bool X.noCache, .bool X.priv, .bool X.pub, .bool X.must, .bool X.prox, .bool X.only, .bool X.anyStale, .int .i64 X.maxA, .int .i64 X.sMax, .int .i64 X.minF, .int .i64 X.maxS]) rfl rfl (zero_there Z5y20.out) infoCtl (onesCtl X) hS1 ?_
            have HBS := Lib.hid (bl_set (b := y0.heap.size) (l := (#[.bool X.noStore, .bool X.noCache, .bool X.priv, .bool X.pub, .bool X.must, .bool X.prox, .bool X.only, .bool X.anyStale, .int .i64 X.maxA, .int .i64 X.sMax, .int .i64 X.minF, .int .i64 X.maxS] : Array Value).toList) HBy20.out HG5.out)
            have CX := Lib.hid (ctl_at X Z5y20.out)
            have ZY := Lib.hid (zero_keep (b := y0.heap.size) (l := (#[.bool X.noStore, .bool X.noCache, .bool X.priv, .bool X.pub, .bool X.must, .bool X.prox, .bool X.only, .bool X.anyStale, .int .i64 X.maxA, .int .i64 X.sMax, .int .i64 X.minF, .int .i64 X.maxS] : Array Value).toList) Z6y20.out (Ne.symm HNE.out))
            have hS2 := HSEE.out _ (bl_set (b := y19.heap.size) (l := (#[.bool Y.noStore, .bool Y.noCache, .bool Y.priv, .bool Y.pub, .bool Y.must, .bool Y.prox, .bool Y.only, .bool Y.anyStale, .int .i64 Y.maxA, .int .i64 Y.sMax, .int .i64 Y.minF, .int .i64 Y.maxS] : Array Value).toList) HBS.out HG6.out)
            refine wpAnyH_storeTo (i := 9) (by kernel_rfl) rfl rfl (by rfl) 58 (.tmp 6) (.tmp 16) rfl y19.heap.size 0 (#[.bool Y.noStore, .bool Y.noCache, .bool Y.priv, .bool Y.pub, .bool Y.must, .bool Y.prox, .bool Y.only, .bool Y.anyStale, .int .i64 Y.maxA, .int .i64 Y.sMax, .int .i64 Y.minF, .int .i64 Y.maxS]) rfl rfl (zero_there ZY.out) infoCtl (onesCtl Y) hS2 ?_
            refine wpAnyH_done (by kernel_rfl) ?_ _
            go_wp2_with fail
            go_meet
            exact ⟨_, _, rfl, rfl, ctl_keep CX.out HNE.out, ctl_at Y ZY.out, bl_set HBS.out HG6.out⟩
        · rw [if_pos (by rfl)]
          go_simp
          obtain ⟨y21, hy⟩ : ∃ y, y18.alloc zeroO = y := ⟨_, rfl⟩
          have hbn : Below v.heap.size v y21 := by rw [← hy]; exact bl1 HBy18.out
          have Z5y21 : Hid (ZeroAt y21 y0.heap.size) := Lib.hid (by rw [← hy]; exact zero_al Z5y18.out)
          have Z6y21 : Hid (ZeroAt y21 y18.heap.size) := Lib.hid (by rw [← hy]; exact zero_new y18)
          have HG6 : Hid (v.heap.size ≤ y18.heap.size) := Lib.hid HBy18.out.size
          have HNE : Hid (y0.heap.size ≠ y18.heap.size) := Lib.hid (by have h := (Array.getElem?_eq_some_iff.1 Z5y18.out).1; omega)
          have HBy21 := Lib.hid hbn
          change K _ (y18.alloc zeroO)
          rw [hy]
          refine hK.out _ _ (HSEE.out _ hbn) (fun hH => ?_)
          clear hK K hy hbn
          try simp only [Act.put, List.setIfInBounds_toArray, List.set_cons_zero, List.set_cons_succ]
          refine wpAnyH_ready (rs := [5]) (by kernel_rfl) (by simp) (AllReadyH.cons rfl (fun K hK => ?_) AllReadyH.nil)
          · rw [if_pos (by rfl)]
            go_simp
            go_at_call 26
            refine Calls.mono (P2.out _ HBy21.out) ?_
            rintro e y22 ⟨rfl, hbx, hbn⟩
            have Z5y22 : Hid (ZeroAt y22 y0.heap.size) := Lib.hid (zero3 hbx Z5y21.out)
            have Z6y22 : Hid (ZeroAt y22 y18.heap.size) := Lib.hid (zero3 hbx Z6y21.out)
            have HBy22 := Lib.hid hbn
            refine hK.out _ _ (HSEE.out _ hbn) (fun hH => ?_)
            clear hK K hbx hbn
            try simp only [Act.put, List.setIfInBounds_toArray, List.set_cons_zero, List.set_cons_succ]
            have hS1 := HSEE.out _ (bl_set (b := y0.heap.size) (l := (#[.bool X.noStore, .bool X.noCache, .bool X.priv, .bool X.pub, .bool X.must, .bool X.prox, .bool X.only, .bool X.anyStale, .int .i64 X.maxA, .int .i64 X.sMax, .int .i64 X.minF, .int .i64 X.maxS] : Array Value).toList) HBy22.out HG5.out)
            refine wpAnyH_storeTo (i := 8) (by kernel_rfl) rfl rfl (by rfl) 58 (.tmp 5) (.tmp 13) rfl y0.heap.size 0 (#[.bool X.noStore, .bool X.noCache, .bool X.priv, .bool X.pub, .bool X.must, .bool X.prox, .bool X.only, .bool X.anyStale, .int .i64 X.maxA, .int .i64 X.sMax, .int .i64 X.minF, .int .i64 X.maxS]) rfl rfl (zero_there Z5y22.out) infoCtl (onesCtl X) hS1 ?_
            have HBS := Lib.hid (bl_set (b := y0.heap.size) (l := (#[.bool X.noStore, .bool X.noCache, .bool X.priv, .bool X.pub, .bool X.must, .bool X.prox, .bool X.only, .bool X.anyStale, .int .i64 X.maxA, .int .i64 X.sMax, .int .i64 X.minF, .int .i64 X.maxS] : Array Value).toList) HBy22.out HG5.out)
            have CX := Lib.hid (ctl_at X Z5y22.out)
            have ZY := Lib.hid (zero_keep (b := y0.heap.size) (l := (#[.bool X.noStore, .bool X.noCache, .bool X.priv, .bool X.pub, .bool X.must, .bool X.prox, .bool X.only, .bool X.anyStale, .int .i64 X.maxA, .int .i64 X.sMax, .int .i64 X.minF, .int .i64 X.maxS] : Array Value).toList) Z6y22.out (Ne.symm HNE.out))
            have hS2 := HSEE.out _ (bl_set (b := y18.heap.size) (l := (#[.bool Y.noStore, .bool Y.noCache, .bool Y.priv, .bool Y.pub, .bool Y.must, .bool Y.prox, .bool Y.only, .bool Y.anyStale, .int .i64 Y.maxA, .int .i64 Y.sMax, .int .i64 Y.minF, .int .i64 Y.maxS] : Array Value).toList) HBS.out HG6.out)
            refine wpAnyH_storeTo (i := 9) (by kernel_rfl) rfl rfl (by rfl) 58 (.tmp 6) (.tmp 16) rfl y18.heap.size 0 (#[.bool Y.noStore, .bool Y.noCache, .bool Y.priv, .bool Y.pub, .bool Y.must, .bool Y.prox, .bool Y.only, .bool Y.anyStale, .int .i64 Y.maxA, .int .i64 Y.sMax, .int .i64 Y.minF, .int .i64 Y.maxS]) rfl rfl (zero_there ZY.out) infoCtl (onesCtl Y) hS2 ?_
            refine wpAnyH_done (by kernel_rfl) ?_ _
            go_wp2_with fail
            go_meet
            exact ⟨_, _, rfl, rfl, ctl_keep CX.out HNE.out, ctl_at Y ZY.out, bl_set HBS.out HG6.out⟩
      · rw [if_pos (by rfl)]
        go_simp
        obtain ⟨y23, hy⟩ : ∃ y, y17.alloc zeroO = y := ⟨_, rfl⟩
        have hbn : Below v.heap.size v y23 := by rw [← hy]; exact bl1 HBy17.out
        have Z5y23 : Hid (ZeroAt y23 y0.heap.size) := Lib.hid (by rw [← hy]; exact zero_al Z5y17.out)
        have Z6y23 : Hid (ZeroAt y23 y17.heap.size) := Lib.hid (by rw [← hy]; exact zero_new y17)
        have HG6 : Hid (v.heap.size ≤ y17.heap.size) := Lib.hid HBy17.out.size
        have HNE : Hid (y0.heap.size ≠ y17.heap.size) := Lib.hid (by have h := (Array.getElem?_eq_some_iff.1 Z5y17.out).1; omega)
        have HBy23 := Lib.hid hbn
        change K _ (y17.alloc zeroO)
        rw [hy]
        refine hK.out _ _ (HSEE.out _ hbn) (fun hH => ?_)
        clear hK K hy hbn
        try simp only [Act.put, List.setIfInBounds_toArray, List.set_cons_zero, List.set_cons_succ]
        refine wpAnyH_ready (rs := [2]) (by kernel_rfl) (by simp) (AllReadyH.cons rfl (fun K hK => ?_) AllReadyH.nil)
        · rw [if_pos (by rfl)]
          go_simp
          go_at_call 26
          refine Calls.mono (P1.out _ HBy23.out) ?_
          rintro e y24 ⟨rfl, hbx, hbn⟩
          have Z5y24 : Hid (ZeroAt y24 y0.heap.size) := Lib.hid (zero3 hbx Z5y23.out)
          have Z6y24 : Hid (ZeroAt y24 y17.heap.size) := Lib.hid (zero3 hbx Z6y23.out)
          have HBy24 := Lib.hid hbn
          refine hK.out _ _ (HSEE.out _ hbn) (fun hH => ?_)
          clear hK K hbx hbn
          try simp only [Act.put, List.setIfInBounds_toArray, List.set_cons_zero, List.set_cons_succ]
          refine wpAnyH_ready (rs := [5]) (by kernel_rfl) (by simp) (AllReadyH.cons rfl (fun K hK => ?_) AllReadyH.nil)
          · rw [if_pos (by rfl)]
            go_simp
            go_at_call 26
            refine Calls.mono (P2.out _ HBy24.out) ?_
            rintro e y25 ⟨rfl, hbx, hbn⟩
            have Z5y25 : Hid (ZeroAt y25 y0.heap.size) := Lib.hid (zero3 hbx Z5y24.out)
            have Z6y25 : Hid (ZeroAt y25 y17.heap.size) := Lib.hid (zero3 hbx Z6y24.out)
            have HBy25 := Lib.hid hbn
            refine hK.out _ _ (HSEE.out _ hbn) (fun hH => ?_)
            clear hK K hbx hbn
            try simp only [Act.put, List.setIfInBounds_toArray, List.set_cons_zero, List.set_cons_succ]
            have hS1 := HSEE.out _ (bl_set (b := y0.heap.size) (l := (#[.bool X.noStore, .bool X.noCache, .bool X.priv, .bool X.pub, .bool X.must, .bool X.prox, .bool X.only, .bool X.anyStale, .int .i64 X.maxA, .int .i64 X.sMax, .int .i64 X.minF, .int .i64 X.maxS] : Array Value).toList) HBy25.out HG5.out)
            refine wpAnyH_storeTo (i := 8) (by kernel_rfl) rfl rfl (by rfl) 58 (.tmp 5) (.tmp 13) rfl y0.heap.size 0 (#[.bool X.noStore, .bool X.noCache, .bool X.priv, .bool X.pub, .bool X.must, .bool X.prox, .bool X.only, .bool X.anyStale, .int .i64 X.maxA, .int .i64 X.sMax, .int .i64 X.minF, .int .i64 X.maxS]) rfl rfl (zero_there Z5y25.out) infoCtl (onesCtl X) hS1 ?_
            have HBS := Lib.hid (bl_set (b := y0.heap.size) (l := (#[.bool X.noStore, .bool X.noCache, .bool X.priv, .bool X.pub, .bool X.must, .bool X.prox, .bool X.only, .bool X.anyStale, .int .i64 X.maxA, .int .i64 X.sMax, .int .i64 X.minF, .int .i64 X.maxS] : Array Value).toList) HBy25.out HG5.out)
            have CX := Lib.hid (ctl_at X Z5y25.out)
            have ZY := Lib.hid (zero_keep (b := y0.heap.size) (l := (#[.bool X.noStore, .bool X.noCache, .bool X.priv, .bool X.pub, .bool X.must, .bool X.prox, .bool X.only, .bool X.anyStale, .int .i64 X.maxA, .int .i64 X.sMax, .int .i64 X.minF, .int .i64 X.maxS] : Array Value).toList) Z6y25.out (Ne.symm HNE.out))
            have hS2 := HSEE.out _ (bl_set (b := y17.heap.size) (l := (#[.bool Y.noStore, .bool Y.noCache, .bool Y.priv, .bool Y.pub, .bool Y.must, .bool Y.prox, .bool Y.only, .bool Y.anyStale, .int .i64 Y.maxA, .int .i64 Y.sMax, .int .i64 Y.minF, .int .i64 Y.maxS] : Array Value).toList) HBS.out HG6.out)
            refine wpAnyH_storeTo (i := 9) (by kernel_rfl) rfl rfl (by rfl) 58 (.tmp 6) (.tmp 16) rfl y17.heap.size 0 (#[.bool Y.noStore, .bool Y.noCache, .bool Y.priv, .bool Y.pub, .bool Y.must, .bool Y.prox, .bool Y.only, .bool Y.anyStale, .int .i64 Y.maxA, .int .i64 Y.sMax, .int .i64 Y.minF, .int .i64 Y.maxS]) rfl rfl (zero_there ZY.out) infoCtl (onesCtl Y) hS2 ?_
            refine wpAnyH_done (by kernel_rfl) ?_ _
            go_wp2_with fail
            go_meet
            exact ⟨_, _, rfl, rfl, ctl_keep CX.out HNE.out, ctl_at Y ZY.out, bl_set HBS.out HG6.out⟩
    · rw [if_pos (by rfl)]
      go_simp
      obtain ⟨y26, hy⟩ : ∃ y, y0.alloc zeroO = y := ⟨_, rfl⟩
      have hbn : Below v.heap.size v y26 := by rw [← hy]; exact bl1 HBy0.out
      have Z6y26 : Hid (ZeroAt y26 y0.heap.size) := Lib.hid (by rw [← hy]; exact zero_new y0)
      have HG6 : Hid (v.heap.size ≤ y0.heap.size) := Lib.hid HBy0.out.size
      have HBy26 := Lib.hid hbn
      change K _ (y0.alloc zeroO)
      rw [hy]
      refine hK.out _ _ (HSEE.out _ hbn) (fun hH => ?_)
      clear hK K hy hbn
      try simp only [Act.put, List.setIfInBounds_toArray, List.set_cons_zero, List.set_cons_succ]
      refine wpAnyH_ready (rs := [2, 6]) (by kernel_rfl) (by simp) (AllReadyH.cons rfl (fun K hK => ?_) (AllReadyH.cons rfl (fun K hK => ?_) AllReadyH.nil))
      · rw [if_pos (by rfl)]
        go_simp
        go_at_call 26
        refine Calls.mono (P1.out _ HBy26.out) ?_
        rintro e y27 ⟨rfl, hbx, hbn⟩
        have Z6y27 : Hid (ZeroAt y27 y0.heap.size) := Lib.hid (zero3 hbx Z6y26.out)
        have HBy27 := Lib.hid hbn
        refine hK.out _ _ (HSEE.out _ hbn) (fun hH => ?_)
        clear hK K hbx hbn
        try simp only [Act.put, List.setIfInBounds_toArray, List.set_cons_zero, List.set_cons_succ]
        refine wpAnyH_ready (rs := [5, 6]) (by kernel_rfl) (by simp) (AllReadyH.cons rfl (fun K hK => ?_) (AllReadyH.cons rfl (fun K hK => ?_) AllReadyH.nil))
        · rw [if_pos (by rfl)]
          go_simp
          go_at_call 26
          refine Calls.mono (P2.out _ HBy27.out) ?_
          rintro e y28 ⟨rfl, hbx, hbn⟩
          have Z6y28 : Hid (ZeroAt y28 y0.heap.size) := Lib.hid (zero3 hbx Z6y27.out)
          have HBy28 := Lib.hid hbn
          refine hK.out _ _ (HSEE.out _ hbn) (fun hH => ?_)
          clear hK K hbx hbn
          try simp only [Act.put, List.setIfInBounds_toArray, List.set_cons_zero, List.set_cons_succ]
          refine wpAnyH_ready (rs := [6]) (by kernel_rfl) (by simp) (AllReadyH.cons rfl (fun K hK => ?_) AllReadyH.nil)
          · rw [if_pos (by rfl)]
            go_simp
            obtain ⟨y29, hy⟩ : ∃ y, y28.alloc zeroO = y := ⟨_, rfl⟩
            have hbn : Below v.heap.size v y29 := by rw [← hy]; exact bl1 HBy28.out
            have Z6y29 : Hid (ZeroAt y29 y0.heap.size) := Lib.hid (by rw [← hy]; exact zero_al Z6y28.out)
            have Z5y29 : Hid (ZeroAt y29 y28.heap.size) := Lib.hid (by rw [← hy]; exact zero_new y28)
            have HG5 : Hid (v.heap.size ≤ y28.heap.size) := Lib.hid HBy28.out.size
            have HNE : Hid (y28.heap.size ≠ y0.heap.size) := Lib.hid (by have h := (Array.getElem?_eq_some_iff.1 Z6y28.out).1; omega)
            have HBy29 := Lib.hid hbn
            change K _ (y28.alloc zeroO)
            rw [hy]
            refine hK.out _ _ (HSEE.out _ hbn) (fun hH => ?_)
            clear hK K hy hbn
            try simp only [Act.put, List.setIfInBounds_toArray, List.set_cons_zero, List.set_cons_succ]
            have hS1 := HSEE.out _ (bl_set (b := y28.heap.size) (l := (#[.bool X.noStore, .bool X.noCache, .bool X.priv, .bool X.pub, .bool X.must, .bool X.prox, .bool X.only, .bool X.anyStale, .int .i64 X.maxA, .int .i64 X.sMax, .int .i64 X.minF, .int .i64 X.maxS] : Array Value).toList) HBy29.out HG5.out)
            refine wpAnyH_storeTo (i := 8) (by kernel_rfl) rfl rfl (by rfl) 58 (.tmp 5) (.tmp 13) rfl y28.heap.size 0 (#[.bool X.noStore, .bool X.noCache, .bool X.priv, .bool X.pub, .bool X.must, .bool X.prox, .bool X.only, .bool X.anyStale, .int .i64 X.maxA, .int .i64 X.sMax, .int .i64 X.minF, .int .i64 X.maxS]) rfl rfl (zero_there Z5y29.out) infoCtl (onesCtl X) hS1 ?_
            have HBS := Lib.hid (bl_set (b := y28.heap.size) (l := (#[.bool X.noStore, .bool X.noCache, .bool X.priv, .bool X.pub, .bool X.must, .bool X.prox, .bool X.only, .bool X.anyStale, .int .i64 X.maxA, .int .i64 X.sMax, .int .i64 X.minF, .int .i64 X.maxS] : Array Value).toList) HBy29.out HG5.out)
            have CX := Lib.hid (ctl_at X Z5y29.out)
            have ZY := Lib.hid (zero_keep (b := y28.heap.size) (l := (#[.bool X.noStore, .bool X.noCache, .bool X.priv, .bool X.pub, .bool X.must, .bool X.prox, .bool X.only, .bool X.anyStale, .int .i64 X.maxA, .int .i64 X.sMax, .int .i64 X.minF, .int .i64 X.maxS] : Array Value).toList) Z6y29.out (Ne.symm HNE.out))
            have hS2 := HSEE.out _ (bl_set (b := y0.heap.size) (l := (#[.bool Y.noStore, .bool Y.noCache, .bool Y.priv, .bool Y.pub, .bool Y.must, .bool Y.prox, .bool Y.only, .bool Y.anyStale, .int .i64 Y.maxA, .int .i64 Y.sMax, .int .i64 Y.minF, .int .i64 Y.maxS] : Array Value).toList) HBS.out HG6.out)
            refine wpAnyH_storeTo (i := 9) (by kernel_rfl) rfl rfl (by rfl) 58 (.tmp 6) (.tmp 16) rfl y0.heap.size 0 (#[.bool Y.noStore, .bool Y.noCache, .bool Y.priv, .bool Y.pub, .bool Y.must, .bool Y.prox, .bool Y.only, .bool Y.anyStale, .int .i64 Y.maxA, .int .i64 Y.sMax, .int .i64 Y.minF, .int .i64 Y.maxS]) rfl rfl (zero_there ZY.out) infoCtl (onesCtl Y) hS2 ?_
            refine wpAnyH_done (by kernel_rfl) ?_ _
            go_wp2_with fail
            go_meet
            exact ⟨_, _, rfl, rfl, ctl_keep CX.out HNE.out, ctl_at Y ZY.out, bl_set HBS.out HG6.out⟩
        · rw [if_pos (by rfl)]
          go_simp
          obtain ⟨y30, hy⟩ : ∃ y, y27.alloc zeroO = y := ⟨_, rfl⟩
          have hbn : Below v.heap.size v y30 := by rw [← hy]; exact bl1 HBy27.out
          have Z6y30 : Hid (ZeroAt y30 y0.heap.size) := Lib.hid (by rw [← hy]; exact zero_al Z6y27.out)
          have Z5y30 : Hid (ZeroAt y30 y27.heap.size) := Lib.hid (by rw [← hy]; exact zero_new y27)
          have HG5 : Hid (v.heap.size ≤ y27.heap.size) := Lib.hid HBy27.out.size
          have HNE : Hid (y27.heap.size ≠ y0.heap.size) := Lib.hid (by have h := (Array.getElem?_eq_some_iff.1 Z6y27.out).1; omega)
          have HBy30 := Lib.hid hbn
          change K _ (y27.alloc zeroO)
          rw [hy]
          refine hK.out _ _ (HSEE.out _ hbn) (fun hH => ?_)
          clear hK K hy hbn
          try simp only [Act.put, List.setIfInBounds_toArray, List.set_cons_zero, List.set_cons_succ]
          refine wpAnyH_ready (rs := [5]) (by kernel_rfl) (by simp) (AllReadyH.cons rfl (fun K hK => ?_) AllReadyH.nil)
          · rw [if_pos (by rfl)]
            go_simp
            go_at_call 26
            refine Calls.mono (P2.out _ HBy30.out) ?_
            rintro e y31 ⟨rfl, hbx, hbn⟩
            have Z5y31 : Hid (ZeroAt y31 y27.heap.size) := Lib.hid (zero3 hbx Z5y30.out)
            have Z6y31 : Hid (ZeroAt y31 y0.heap.size) := Lib.hid (zero3 hbx Z6y30.out)
            have HBy31 := Lib.hid hbn
            refine hK.out _ _ (HSEE.out _ hbn) (fun hH => ?_)
            clear hK K hbx hbn
            try simp only [Act.put, List.setIfInBounds_toArray, List.set_cons_zero, List.set_cons_succ]
            have hS1 := HSEE.out _ (bl_set (b := y27.heap.size) (l := (#[.bool X.noStore, .bool X.noCache, .bool X.priv, .bool X.pub, .bool X.must, .bool X.prox, .bool X.only, .bool X.anyStale, .int .i64 X.maxA, .int .i64 X.sMax, .int .i64 X.minF, .int .i64 X.maxS] : Array Value).toList) HBy31.out HG5.out)
            refine wpAnyH_storeTo (i := 8) (by kernel_rfl) rfl rfl (by rfl) 58 (.tmp 5) (.tmp 13) rfl y27.heap.size 0 (#[.bool X.noStore, .bool X.noCache, .bool X.priv, .bool X.pub, .bool X.must, .bool X.prox, .bool X.only, .bool X.anyStale, .int .i64 X.maxA, .int .i64 X.sMax, .int .i64 X.minF, .int .i64 X.maxS]) rfl rfl (zero_there Z5y31.out) infoCtl (onesCtl X) hS1 ?_
            have HBS := Lib.hid (bl_set (b := y27.heap.size) (l := (#[.bool X.noStore, .bool X.noCache, .bool X.priv, .bool X.pub, .bool X.must, .bool X.prox, .bool X.only, .bool X.anyStale, .int .i64 X.maxA, .int .i64 X.sMax, .int .i64 X.minF, .int .i64 X.maxS] : Array Value).toList) HBy31.out HG5.out)
            have CX := Lib.hid (ctl_at X Z5y31.out)
            have ZY := Lib.hid (zero_keep (b := y27.heap.size) (l := (#[.bool X.noStore, .bool X.noCache, .bool X.priv, .bool X.pub, .bool X.must, .bool X.prox, .bool X.only, .bool X.anyStale, .int .i64 X.maxA, .int .i64 X.sMax, .int .i64 X.minF, .int .i64 X.maxS] : Array Value).toList) Z6y31.out (Ne.symm HNE.out))
            have hS2 := HSEE.out _ (bl_set (b := y0.heap.size) (l := (#[.bool Y.noStore, .bool Y.noCache, .bool Y.priv, .bool Y.pub, .bool Y.must, .bool Y.prox, .bool Y.only, .bool Y.anyStale, .int .i64 Y.maxA, .int .i64 Y.sMax, .int .i64 Y.minF, .int .i64 Y.maxS] : Array Value).toList) HBS.out HG6.out)
            refine wpAnyH_storeTo (i := 9) (by kernel_rfl) rfl rfl (by rfl) 58 (.tmp 6) (.tmp 16) rfl y0.heap.size 0 (#[.bool Y.noStore, .bool Y.noCache, .bool Y.priv, .bool Y.pub, .bool Y.must, .bool Y.prox, .bool Y.only, .bool Y.anyStale, .int .i64 Y.maxA, .int .i64 Y.sMax, .int .i64 Y.minF, .int .i64 Y.maxS]) rfl rfl (zero_there ZY.out) infoCtl (onesCtl Y) hS2 ?_
            refine wpAnyH_done (by kernel_rfl) ?_ _
            go_wp2_with fail
            go_meet
            exact ⟨_, _, rfl, rfl, ctl_keep CX.out HNE.out, ctl_at Y ZY.out, bl_set HBS.out HG6.out⟩
      · rw [if_pos (by rfl)]
        go_simp
        obtain ⟨y32, hy⟩ : ∃ y, y26.alloc zeroO = y := ⟨_, rfl⟩
        have hbn : Below v.heap.size v y32 := by rw [← hy]; exact bl1 HBy26.out
        have Z6y32 : Hid (ZeroAt y32 y0.heap.size) := Lib.hid (by rw [← hy]; exact zero_al Z6y26.out)
        have Z5y32 : Hid (ZeroAt y32 y26.heap.size) := Lib.hid (by rw [← hy]; exact zero_new y26)
        have HG5 : Hid (v.heap.size ≤ y26.heap.size) := Lib.hid HBy26.out.size
        have HNE : Hid (y26.heap.size ≠ y0.heap.size) := Lib.hid (by have h := (Array.getElem?_eq_some_iff.1 Z6y26.out).1; omega)
        have HBy32 := Lib.hid hbn
        change K _ (y26.alloc zeroO)
        rw [hy]
        refine hK.out _ _ (HSEE.out _ hbn) (fun hH => ?_)
        clear hK K hy hbn
        try simp only [Act.put, List.setIfInBounds_toArray, List.set_cons_zero, List.set_cons_succ]
        refine wpAnyH_ready (rs := [2]) (by kernel_rfl) (by simp) (AllReadyH.cons rfl (fun K hK => ?_) AllReadyH.nil)
        · rw [if_pos (by rfl)]
          go_simp
          go_at_call 26
          refine Calls.mono (P1.out _ HBy32.out) ?_
          rintro e y33 ⟨rfl, hbx, hbn⟩
          have Z5y33 : Hid (ZeroAt y33 y26.heap.size) := Lib.hid (zero3 hbx Z5y32.out)
          have Z6y33 : Hid (ZeroAt y33 y0.heap.size) := Lib.hid (zero3 hbx Z6y32.out)
          have HBy33 := Lib.hid hbn
          refine hK.out _ _ (HSEE.out _ hbn) (fun hH => ?_)
          clear hK K hbx hbn
          try simp only [Act.put, List.setIfInBounds_toArray, List.set_cons_zero, List.set_cons_succ]
          refine wpAnyH_ready (rs := [5]) (by kernel_rfl) (by simp) (AllReadyH.cons rfl (fun K hK => ?_) AllReadyH.nil)
          · rw [if_pos (by rfl)]
            go_simp
            go_at_call 26
            refine Calls.mono (P2.out _ HBy33.out) ?_
            rintro e y34 ⟨rfl, hbx, hbn⟩
            have Z5y34 : Hid (ZeroAt y34 y26.heap.size) := Lib.hid (zero3 hbx Z5y33.out)
            have Z6y34 : Hid (ZeroAt y34 y0.heap.size) := Lib.hid (zero3 hbx Z6y33.out)
            have HBy34 := Lib.hid hbn
            refine hK.out _ _ (HSEE.out _ hbn) (fun hH => ?_)
            clear hK K hbx hbn
            try simp only [Act.put, List.setIfInBounds_toArray, List.set_cons_zero, List.set_cons_succ]
            have hS1 := HSEE.out _ (bl_set (b := y26.heap.size) (l := (#[.bool X.noStore, .bool X.noCache, .bool X.priv, .bool X.pub, .bool X.must, .bool X.prox, .bool X.only, .bool X.anyStale, .int .i64 X.maxA, .int .i64 X.sMax, .int .i64 X.minF, .int .i64 X.maxS] : Array Value).toList) HBy34.out HG5.out)
            refine wpAnyH_storeTo (i := 8) (by kernel_rfl) rfl rfl (by rfl) 58 (.tmp 5) (.tmp 13) rfl y26.heap.size 0 (#[.bool X.noStore, .bool X.noCache, .bool X.priv, .bool X.pub, .bool X.must, .bool X.prox, .bool X.only, .bool X.anyStale, .int .i64 X.maxA, .int .i64 X.sMax, .int .i64 X.minF, .int .i64 X.maxS]) rfl rfl (zero_there Z5y34.out) infoCtl (onesCtl X) hS1 ?_
            have HBS := Lib.hid (bl_set (b := y26.heap.size) (l := (#[.bool X.noStore, .bool X.noCache, .bool X.priv, .bool X.pub, .bool X.must, .bool X.prox, .bool X.only, .bool X.anyStale, .int .i64 X.maxA, .int .i64 X.sMax, .int .i64 X.minF, .int .i64 X.maxS] : Array Value).toList) HBy34.out HG5.out)
            have CX := Lib.hid (ctl_at X Z5y34.out)
            have ZY := Lib.hid (zero_keep (b := y26.heap.size) (l := (#[.bool X.noStore, .bool X.noCache, .bool X.priv, .bool X.pub, .bool X.must, .bool X.prox, .bool X.only, .bool X.anyStale, .int .i64 X.maxA, .int .i64 X.sMax, .int .i64 X.minF, .int .i64 X.maxS] : Array Value).toList) Z6y34.out (Ne.symm HNE.out))
            have hS2 := HSEE.out _ (bl_set (b := y0.heap.size) (l := (#[.bool Y.noStore, .bool Y.noCache, .bool Y.priv, .bool Y.pub, .bool Y.must, .bool Y.prox, .bool Y.only, .bool Y.anyStale, .int .i64 Y.maxA, .int .i64 Y.sMax, .int .i64 Y.minF, .int .i64 Y.maxS] : Array Value).toList) HBS.out HG6.out)
            refine wpAnyH_storeTo (i := 9) (by kernel_rfl) rfl rfl (by rfl) 58 (.tmp 6) (.tmp 16) rfl y0.heap.size 0 (#[.bool Y.noStore, .bool Y.noCache, .bool Y.priv, .bool Y.pub, .bool Y.must, .bool Y.prox, .bool Y.only, .bool Y.anyStale, .int .i64 Y.maxA, .int .i64 Y.sMax, .int .i64 Y.minF, .int .i64 Y.maxS]) rfl rfl (zero_there ZY.out) infoCtl (onesCtl Y) hS2 ?_
            refine wpAnyH_done (by kernel_rfl) ?_ _
            go_wp2_with fail
            go_meet
            exact ⟨_, _, rfl, rfl, ctl_keep CX.out HNE.out, ctl_at Y ZY.out, bl_set HBS.out HG6.out⟩
  case rest =>
    obtain ⟨g, h, rfl, rfl, hX, hY, hbw⟩ := hcut
    have HX := Lib.hid hX
    have HY := Lib.hid hY
    have HBW := Lib.hid hbw
    have HQR : Hid (ReqAt v w.heap.size m tg fa nq fc ba bn bc ∧ RespAt v (w.heap.size + 1) st rs ga nr gc ha hn hc) := Lib.hid (by rw [← HV.out]; exact ⟨stood0 (heap_alloc_new w _), new1 w _ _⟩)
    clear hX hY hbw
    have hu0 : Below v.heap.size v ((wc.alloc (.cells #[.func (.func 27) #[] #[]] 62)).alloc (.cells #[.func (.func 29) #[] #[.pointer (some ⟨w.heap.size, 0, none⟩)], .func (.func 30) #[] #[.pointer (some ⟨w.heap.size + 1, 0, none⟩)], .func (.func 31) #[] #[.pointer (some ⟨g, 0, none⟩), .pointer (some ⟨h, 0, none⟩)], .func (.func 32) #[] #[.pointer (some ⟨wc.heap.size, 0, none⟩), .pointer (some ⟨w.heap.size, 0, none⟩), .pointer (some ⟨h, 0, none⟩)], .func (.func 33) #[] #[.pointer (some ⟨w.heap.size + 1, 0, none⟩)], .func (.func 35) #[] #[.pointer (some ⟨h, 0, none⟩), .pointer (some ⟨wc.heap.size, 0, none⟩), .pointer (some ⟨w.heap.size + 1, 0, none⟩)], .func (.func 37) #[] #[.pointer (some ⟨w.heap.size + 1, 0, none⟩)]] 32)) := (HBW.out.alloc HBW.out.size _).alloc (HBW.out.alloc HBW.out.size _).size _
    have HQ0 : HasAt ((wc.alloc (.cells #[.func (.func 27) #[] #[]] 62)).alloc (.cells #[.func (.func 29) #[] #[.pointer (some ⟨w.heap.size, 0, none⟩)], .func (.func 30) #[] #[.pointer (some ⟨w.heap.size + 1, 0, none⟩)], .func (.func 31) #[] #[.pointer (some ⟨g, 0, none⟩), .pointer (some ⟨h, 0, none⟩)], .func (.func 32) #[] #[.pointer (some ⟨wc.heap.size, 0, none⟩), .pointer (some ⟨w.heap.size, 0, none⟩), .pointer (some ⟨h, 0, none⟩)], .func (.func 33) #[] #[.pointer (some ⟨w.heap.size + 1, 0, none⟩)], .func (.func 35) #[] #[.pointer (some ⟨h, 0, none⟩), .pointer (some ⟨wc.heap.size, 0, none⟩), .pointer (some ⟨w.heap.size + 1, 0, none⟩)], .func (.func 37) #[] #[.pointer (some ⟨w.heap.size + 1, 0, none⟩)]] 32)) wc.heap.size := stood0 (heap_alloc_new wc _)
    have HR0 := new1 wc (.cells #[.func (.func 27) #[] #[]] 62) (.cells #[.func (.func 29) #[] #[.pointer (some ⟨w.heap.size, 0, none⟩)], .func (.func 30) #[] #[.pointer (some ⟨w.heap.size + 1, 0, none⟩)], .func (.func 31) #[] #[.pointer (some ⟨g, 0, none⟩), .pointer (some ⟨h, 0, none⟩)], .func (.func 32) #[] #[.pointer (some ⟨wc.heap.size, 0, none⟩), .pointer (some ⟨w.heap.size, 0, none⟩), .pointer (some ⟨h, 0, none⟩)], .func (.func 33) #[] #[.pointer (some ⟨w.heap.size + 1, 0, none⟩)], .func (.func 35) #[] #[.pointer (some ⟨h, 0, none⟩), .pointer (some ⟨wc.heap.size, 0, none⟩), .pointer (some ⟨w.heap.size + 1, 0, none⟩)], .func (.func 37) #[] #[.pointer (some ⟨w.heap.size + 1, 0, none⟩)]] 32)
    have HX0 := stood0 (p := .cells #[.func (.func 29) #[] #[.pointer (some ⟨w.heap.size, 0, none⟩)], .func (.func 30) #[] #[.pointer (some ⟨w.heap.size + 1, 0, none⟩)], .func (.func 31) #[] #[.pointer (some ⟨g, 0, none⟩), .pointer (some ⟨h, 0, none⟩)], .func (.func 32) #[] #[.pointer (some ⟨wc.heap.size, 0, none⟩), .pointer (some ⟨w.heap.size, 0, none⟩), .pointer (some ⟨h, 0, none⟩)], .func (.func 33) #[] #[.pointer (some ⟨w.heap.size + 1, 0, none⟩)], .func (.func 35) #[] #[.pointer (some ⟨h, 0, none⟩), .pointer (some ⟨wc.heap.size, 0, none⟩), .pointer (some ⟨w.heap.size + 1, 0, none⟩)], .func (.func 37) #[] #[.pointer (some ⟨w.heap.size + 1, 0, none⟩)]] 32) (stood0 (p := .cells #[.func (.func 27) #[] #[]] 62) HX.out)
    have HY0 := stood0 (p := .cells #[.func (.func 29) #[] #[.pointer (some ⟨w.heap.size, 0, none⟩)], .func (.func 30) #[] #[.pointer (some ⟨w.heap.size + 1, 0, none⟩)], .func (.func 31) #[] #[.pointer (some ⟨g, 0, none⟩), .pointer (some ⟨h, 0, none⟩)], .func (.func 32) #[] #[.pointer (some ⟨wc.heap.size, 0, none⟩), .pointer (some ⟨w.heap.size, 0, none⟩), .pointer (some ⟨h, 0, none⟩)], .func (.func 33) #[] #[.pointer (some ⟨w.heap.size + 1, 0, none⟩)], .func (.func 35) #[] #[.pointer (some ⟨h, 0, none⟩), .pointer (some ⟨wc.heap.size, 0, none⟩), .pointer (some ⟨w.heap.size + 1, 0, none⟩)], .func (.func 37) #[] #[.pointer (some ⟨w.heap.size + 1, 0, none⟩)]] 32) (stood0 (p := .cells #[.func (.func 27) #[] #[]] 62) HY.out)
    go_wp2
    obtain ⟨u, hu⟩ : ∃ u, (wc.alloc (.cells #[.func (.func 27) #[] #[]] 62)).alloc (.cells #[.func (.func 29) #[] #[.pointer (some ⟨w.heap.size, 0, none⟩)], .func (.func 30) #[] #[.pointer (some ⟨w.heap.size + 1, 0, none⟩)], .func (.func 31) #[] #[.pointer (some ⟨g, 0, none⟩), .pointer (some ⟨h, 0, none⟩)], .func (.func 32) #[] #[.pointer (some ⟨wc.heap.size, 0, none⟩), .pointer (some ⟨w.heap.size, 0, none⟩), .pointer (some ⟨h, 0, none⟩)], .func (.func 33) #[] #[.pointer (some ⟨w.heap.size + 1, 0, none⟩)], .func (.func 35) #[] #[.pointer (some ⟨h, 0, none⟩), .pointer (some ⟨wc.heap.size, 0, none⟩), .pointer (some ⟨w.heap.size + 1, 0, none⟩)], .func (.func 37) #[] #[.pointer (some ⟨w.heap.size + 1, 0, none⟩)]] 32) = u := ⟨_, rfl⟩
    change Code.wp _ _ _ _ ((wc.alloc (.cells #[.func (.func 27) #[] #[]] 62)).alloc (.cells #[.func (.func 29) #[] #[.pointer (some ⟨w.heap.size, 0, none⟩)], .func (.func 30) #[] #[.pointer (some ⟨w.heap.size + 1, 0, none⟩)], .func (.func 31) #[] #[.pointer (some ⟨g, 0, none⟩), .pointer (some ⟨h, 0, none⟩)], .func (.func 32) #[] #[.pointer (some ⟨wc.heap.size, 0, none⟩), .pointer (some ⟨w.heap.size, 0, none⟩), .pointer (some ⟨h, 0, none⟩)], .func (.func 33) #[] #[.pointer (some ⟨w.heap.size + 1, 0, none⟩)], .func (.func 35) #[] #[.pointer (some ⟨h, 0, none⟩), .pointer (some ⟨wc.heap.size, 0, none⟩), .pointer (some ⟨w.heap.size + 1, 0, none⟩)], .func (.func 37) #[] #[.pointer (some ⟨w.heap.size + 1, 0, none⟩)]] 32))
    rw [hu] at hu0 HQ0 HR0 HX0 HY0 ⊢
    have HQ : Hid (∀ x, Below u.heap.size u x → ReqAt x w.heap.size m tg fa nq fc ba bn bc ∧ RespAt x (w.heap.size + 1) st rs ga nr gc ha hn hc ∧ CtlAt x g X ∧ CtlAt x h Y ∧ HasAt x wc.heap.size ∧ Below v.heap.size v x ∧ x.heap[wc.heap.size + 1]? = some (.cells #[.func (.func 29) #[] #[.pointer (some ⟨w.heap.size, 0, none⟩)], .func (.func 30) #[] #[.pointer (some ⟨w.heap.size + 1, 0, none⟩)], .func (.func 31) #[] #[.pointer (some ⟨g, 0, none⟩), .pointer (some ⟨h, 0, none⟩)], .func (.func 32) #[] #[.pointer (some ⟨wc.heap.size, 0, none⟩), .pointer (some ⟨w.heap.size, 0, none⟩), .pointer (some ⟨h, 0, none⟩)], .func (.func 33) #[] #[.pointer (some ⟨w.heap.size + 1, 0, none⟩)], .func (.func 35) #[] #[.pointer (some ⟨h, 0, none⟩), .pointer (some ⟨wc.heap.size, 0, none⟩), .pointer (some ⟨w.heap.size + 1, 0, none⟩)], .func (.func 37) #[] #[.pointer (some ⟨w.heap.size + 1, 0, none⟩)]] 32)) := Lib.hid (fun x hx => ⟨stood3 (hu0.trans (hx.mono hu0.size)) HQR.out.1, stood3 (hu0.trans (hx.mono hu0.size)) HQR.out.2, stood3 hx HX0, stood3 hx HY0, stood3 hx HQ0, hu0.trans (hx.mono hu0.size), stood3 hx HR0⟩)
    have HW : Hid (∀ x, Below u.heap.size u x → Below w.heap.size w x) := Lib.hid (fun x hx => HB.out.trans ((hu0.trans (hx.mono hu0.size)).mono HB.out.size))
    clear hu0 HQ0 HR0 HX0 HY0 hu HX HY HBW HQR HSEE P1 P2 HB HV HSZ kq kr hbd
    go_loopw [27] (fun i wr => ∃ k : Nat, k ≤ 7 ∧ i = .int .i64 k ∧ Hid (([b1, b2, b3, b4, b5, b6, b7].take k).all id = true) ∧ Hid (Below u.heap.size u wr)) (fun i _ => 7 - (intOf i).toNat)
    case atStart => exact ⟨0, by omega, rfl, Lib.hid rfl, Lib.hid (Below.refl _ _)⟩
    case round =>
      obtain ⟨k, hk, rfl, HT, HB⟩ := hrel
      have hk7 : k = 0 ∨ k = 1 ∨ k = 2 ∨ k = 3 ∨ k = 4 ∨ k = 5 ∨ k = 6 ∨ k = 7 := by omega
      clear hk
      rcases hk7 with rfl | rfl | rfl | rfl | rfl | rfl | rfl | rfl
      · have c0 : wr.cell? ⟨wc.heap.size + 1, 0, none⟩ = some (.func (.func 29) #[] #[.pointer (some ⟨w.heap.size, 0, none⟩)]) := by rw [Lib.cell_of_heap (HQ.out _ HB.out).2.2.2.2.2.2]; rfl
        go_wp2_with fail
        refine (R1.out _ (HQ.out _ HB.out).1).mono ?_
        rintro e w2 ⟨rfl, hb2⟩
        have HB2 := Lib.hid (HB.out.trans (hb2.mono HB.out.size))
        clear hb2 c0
        cases b1
        · have HE := Lib.hid (HW.out _ HB2.out)
          go_wp2
          go_ret
          exact ⟨by simp, HE.out⟩
        · have HT2 := Lib.hid HT.out
          go_wp2
          go_roundw
          case rel => exact ⟨1, by omega, by go_num, Lib.hid (by have := HT2.out; simp at this; simp [*]), HB2⟩
          case measure => simp [intOf]
      · have c0 : wr.cell? ⟨wc.heap.size + 1, 1, none⟩ = some (.func (.func 30) #[] #[.pointer (some ⟨w.heap.size + 1, 0, none⟩)]) := by rw [Lib.cell_of_heap (HQ.out _ HB.out).2.2.2.2.2.2]; rfl
        go_wp2_with fail
        refine (R2.out _ (HQ.out _ HB.out).2.1).mono ?_
        rintro e w2 ⟨rfl, hb2⟩
        have HB2 := Lib.hid (HB.out.trans (hb2.mono HB.out.size))
        clear hb2 c0
        cases b2
        · have HE := Lib.hid (HW.out _ HB2.out)
          go_wp2
          go_ret
          exact ⟨by simp, HE.out⟩
        · have HT2 := Lib.hid HT.out
          go_wp2
          go_roundw
          case rel => exact ⟨2, by omega, by go_num, Lib.hid (by have := HT2.out; simp at this; simp [*]), HB2⟩
          case measure => simp [intOf]
      · have c0 : wr.cell? ⟨wc.heap.size + 1, 2, none⟩ = some (.func (.func 31) #[] #[.pointer (some ⟨g, 0, none⟩), .pointer (some ⟨h, 0, none⟩)]) := by rw [Lib.cell_of_heap (HQ.out _ HB.out).2.2.2.2.2.2]; rfl
        go_wp2_with fail
        refine (R3.out _ _ _ (HQ.out _ HB.out).2.2.1 (HQ.out _ HB.out).2.2.2.1).mono ?_
        rintro e w2 ⟨rfl, hb2⟩
        have HB2 := Lib.hid (HB.out.trans (hb2.mono HB.out.size))
        clear hb2 c0
        cases b3
        · have HE := Lib.hid (HW.out _ HB2.out)
          go_wp2
          go_ret
          exact ⟨by simp, HE.out⟩
        · have HT2 := Lib.hid HT.out
          go_wp2
          go_roundw
          case rel => exact ⟨3, by omega, by go_num, Lib.hid (by have := HT2.out; simp at this; simp [*]), HB2⟩
          case measure => simp [intOf]
      · have c0 : wr.cell? ⟨wc.heap.size + 1, 3, none⟩ = some (.func (.func 32) #[] #[.pointer (some ⟨wc.heap.size, 0, none⟩), .pointer (some ⟨w.heap.size, 0, none⟩), .pointer (some ⟨h, 0, none⟩)]) := by rw [Lib.cell_of_heap (HQ.out _ HB.out).2.2.2.2.2.2]; rfl
        go_wp2_with fail
        refine (R4.out _ _ _ (HQ.out _ HB.out).2.2.2.2.2.1 (HQ.out _ HB.out).2.2.2.2.1 (HQ.out _ HB.out).1 (HQ.out _ HB.out).2.2.2.1).mono ?_
        rintro e w2 ⟨rfl, hb2⟩
        have HB2 := Lib.hid (HB.out.trans (hb2.mono HB.out.size))
        clear hb2 c0
        cases b4
        · have HE := Lib.hid (HW.out _ HB2.out)
          go_wp2
          go_ret
          exact ⟨by simp, HE.out⟩
        · have HT2 := Lib.hid HT.out
          go_wp2
          go_roundw
          case rel => exact ⟨4, by omega, by go_num, Lib.hid (by have := HT2.out; simp at this; simp [*]), HB2⟩
          case measure => simp [intOf]
      · have c0 : wr.cell? ⟨wc.heap.size + 1, 4, none⟩ = some (.func (.func 33) #[] #[.pointer (some ⟨w.heap.size + 1, 0, none⟩)]) := by rw [Lib.cell_of_heap (HQ.out _ HB.out).2.2.2.2.2.2]; rfl
        go_wp2_with fail
        refine (R5.out _ (HQ.out _ HB.out).2.2.2.2.2.1 (HQ.out _ HB.out).2.1).mono ?_
        rintro e w2 ⟨rfl, hb2⟩
        have HB2 := Lib.hid (HB.out.trans (hb2.mono HB.out.size))
        clear hb2 c0
        cases b5
        · have HE := Lib.hid (HW.out _ HB2.out)
          go_wp2
          go_ret
          exact ⟨by simp, HE.out⟩
        · have HT2 := Lib.hid HT.out
          go_wp2
          go_roundw
          case rel => exact ⟨5, by omega, by go_num, Lib.hid (by have := HT2.out; simp at this; simp [*]), HB2⟩
          case measure => simp [intOf]
      · have c0 : wr.cell? ⟨wc.heap.size + 1, 5, none⟩ = some (.func (.func 35) #[] #[.pointer (some ⟨h, 0, none⟩), .pointer (some ⟨wc.heap.size, 0, none⟩), .pointer (some ⟨w.heap.size + 1, 0, none⟩)]) := by rw [Lib.cell_of_heap (HQ.out _ HB.out).2.2.2.2.2.2]; rfl
        go_wp2_with fail
        refine (R6.out _ _ _ (HQ.out _ HB.out).2.2.2.2.2.1 (HQ.out _ HB.out).2.2.2.2.1 (HQ.out _ HB.out).2.1 (HQ.out _ HB.out).2.2.2.1).mono ?_
        rintro e w2 ⟨rfl, hb2⟩
        have HB2 := Lib.hid (HB.out.trans (hb2.mono HB.out.size))
        clear hb2 c0
        cases b6
        · have HE := Lib.hid (HW.out _ HB2.out)
          go_wp2
          go_ret
          exact ⟨by simp, HE.out⟩
        · have HT2 := Lib.hid HT.out
          go_wp2
          go_roundw
          case rel => exact ⟨6, by omega, by go_num, Lib.hid (by have := HT2.out; simp at this; simp [*]), HB2⟩
          case measure => simp [intOf]
      · have c0 : wr.cell? ⟨wc.heap.size + 1, 6, none⟩ = some (.func (.func 37) #[] #[.pointer (some ⟨w.heap.size + 1, 0, none⟩)]) := by rw [Lib.cell_of_heap (HQ.out _ HB.out).2.2.2.2.2.2]; rfl
        go_wp2_with fail
        refine (R7.out _ (HQ.out _ HB.out).2.1).mono ?_
        rintro e w2 ⟨rfl, hb2⟩
        have HB2 := Lib.hid (HB.out.trans (hb2.mono HB.out.size))
        clear hb2 c0
        cases b7
        · have HE := Lib.hid (HW.out _ HB2.out)
          go_wp2
          go_ret
          exact ⟨by simp, HE.out⟩
        · have HT2 := Lib.hid HT.out
          go_wp2
          go_roundw
          case rel => exact ⟨7, by omega, by go_num, Lib.hid (by have := HT2.out; simp at this; simp [*]), HB2⟩
          case measure => simp [intOf]
      · have HE := Lib.hid (HW.out _ HB.out)
        go_wp2
        go_ret
        exact ⟨by have := HT.out; simp at this; simp [this], HE.out⟩
end Go.Proofs.YtgfinhkplijhbaaGreatDoor
namespace Go.Proofs.YtgfinhkplijhbaaGreatDoor
open Go.RowKit HeadMath HeadS CtrlS VaryS

def mayF (m : ByteArray) (fq : Fls) (st : Int) (fr : Fls) (hn : Nat) : Bool := (m.toList == [71, 69, 84]) && statusF st && (!(parseF fq).noStore && !(parseF fr).noStore && !(parseF fr).priv) && (!(getF authN fq).isSome || (parseF fr).pub || (parseF fr).must || decide (0 ≤ (parseF fr).sMax)) && !starP (listF varyN fr) && ((parseF fr).pub || decide (0 ≤ (parseF fr).maxA) || decide (0 ≤ (parseF fr).sMax) || (getF expN fr).isSome || heurF st) && decide (hn ≤ 60000)
theorem parse_sing {n t : ByteArray} (hn : isNamed cacheN (n, t) = true) {l : List ByteArray} (hp : partsF t = l) : parseF [(n, t)] = ctlL l := by
  have ha : allF cacheN [(n, t)] = [t] := by
    unfold allF
    simp [hn]
  unfold CtrlS.parseF
  rw [ha, if_neg (by simp)]
  unfold listF
  rw [ha]
  show ctlL (partsF t ++ []) = _
  rw [List.append_nil, hp]
theorem parse_other {n t : ByteArray} (hn : isNamed cacheN (n, t) = false) (hp : isNamed pragmaN (n, t) = false) : parseF [(n, t)] = ctl0 := by
  have ha : allF cacheN [(n, t)] = [] := by
    unfold allF
    simp [hn]
  have hb : allF pragmaN [(n, t)] = [] := by
    unfold allF
    simp [hp]
  unfold CtrlS.parseF listF
  rw [ha, hb]
  rfl
def ccL : ByteArray := ⟨#[99, 97, 99, 104, 101, 45, 99, 111, 110, 116, 114, 111, 108]⟩
def ccN : ByteArray := ⟨#[67, 97, 99, 104, 101, 45, 67, 111, 110, 116, 114, 111, 108]⟩
def vMaxAge5 : ByteArray := ⟨#[109, 97, 120, 45, 97, 103, 101, 61, 53]⟩
theorem parts_vMaxAge5 : partsF vMaxAge5 = [⟨#[109, 97, 120, 45, 97, 103, 101, 61, 53]⟩] := by
  have e1 : vMaxAge5 = arr ([109, 97, 120, 45, 97, 103, 101, 61, 53] ++ []) := rfl
  rw [e1, parts_step _ _ _ (plain_closed (by decide)) (.inl ⟨rfl, rfl⟩), partsF_nil (v := arr []) rfl]
  decide +kernel
theorem say_vMaxAge5 : ctlL (partsF vMaxAge5) = ⟨false, false, false, false, false, false, false, false, 5, -1, -1, -1⟩ := by rw [parts_vMaxAge5]; decide +kernel
theorem ctl_vMaxAge5_ccL : parseF [(ccL, vMaxAge5)] = ⟨false, false, false, false, false, false, false, false, 5, -1, -1, -1⟩ := (parse_sing (by decide +kernel) rfl).trans say_vMaxAge5
theorem ctl_vMaxAge5_ccN : parseF [(ccN, vMaxAge5)] = ⟨false, false, false, false, false, false, false, false, 5, -1, -1, -1⟩ := (parse_sing (by decide +kernel) rfl).trans say_vMaxAge5
def vPublic : ByteArray := ⟨#[112, 117, 98, 108, 105, 99]⟩
theorem parts_vPublic : partsF vPublic = [⟨#[112, 117, 98, 108, 105, 99]⟩] := by
  have e1 : vPublic = arr ([112, 117, 98, 108, 105, 99] ++ []) := rfl
  rw [e1, parts_step _ _ _ (plain_closed (by decide)) (.inl ⟨rfl, rfl⟩), partsF_nil (v := arr []) rfl]
  decide +kernel
theorem say_vPublic : ctlL (partsF vPublic) = ⟨false, false, false, true, false, false, false, false, -1, -1, -1, -1⟩ := by rw [parts_vPublic]; decide +kernel
theorem ctl_vPublic_ccL : parseF [(ccL, vPublic)] = ⟨false, false, false, true, false, false, false, false, -1, -1, -1, -1⟩ := (parse_sing (by decide +kernel) rfl).trans say_vPublic
theorem ctl_vPublic_ccN : parseF [(ccN, vPublic)] = ⟨false, false, false, true, false, false, false, false, -1, -1, -1, -1⟩ := (parse_sing (by decide +kernel) rfl).trans say_vPublic
def vSMaxage0 : ByteArray := ⟨#[115, 45, 109, 97, 120, 97, 103, 101, 61, 48]⟩
theorem parts_vSMaxage0 : partsF vSMaxage0 = [⟨#[115, 45, 109, 97, 120, 97, 103, 101, 61, 48]⟩] := by
  have e1 : vSMaxage0 = arr ([115, 45, 109, 97, 120, 97, 103, 101, 61, 48] ++ []) := rfl
  rw [e1, parts_step _ _ _ (plain_closed (by decide)) (.inl ⟨rfl, rfl⟩), partsF_nil (v := arr []) rfl]
  decide +kernel
theorem say_vSMaxage0 : ctlL (partsF vSMaxage0) = ⟨false, false, false, false, false, false, false, false, -1, 0, -1, -1⟩ := by rw [parts_vSMaxage0]; decide +kernel
theorem ctl_vSMaxage0_ccL : parseF [(ccL, vSMaxage0)] = ⟨false, false, false, false, false, false, false, false, -1, 0, -1, -1⟩ := (parse_sing (by decide +kernel) rfl).trans say_vSMaxage0
theorem ctl_vSMaxage0_ccN : parseF [(ccN, vSMaxage0)] = ⟨false, false, false, false, false, false, false, false, -1, 0, -1, -1⟩ := (parse_sing (by decide +kernel) rfl).trans say_vSMaxage0
def vPrivateMaxAge9 : ByteArray := ⟨#[112, 114, 105, 118, 97, 116, 101, 44, 32, 109, 97, 120, 45, 97, 103, 101, 61, 57]⟩
theorem parts_vPrivateMaxAge9 : partsF vPrivateMaxAge9 = [⟨#[112, 114, 105, 118, 97, 116, 101]⟩, ⟨#[109, 97, 120, 45, 97, 103, 101, 61, 57]⟩] := by
  have e1 : vPrivateMaxAge9 = arr ([112, 114, 105, 118, 97, 116, 101] ++ 44 :: ([32, 109, 97, 120, 45, 97, 103, 101, 61, 57] ++ [])) := rfl
  rw [e1, parts_step _ _ _ (plain_closed (by decide)) (.inr rfl), parts_step _ _ _ (plain_closed (by decide)) (.inl ⟨rfl, rfl⟩), partsF_nil (v := arr []) rfl]
  decide +kernel
theorem say_vPrivateMaxAge9 : ctlL (partsF vPrivateMaxAge9) = ⟨false, false, true, false, false, false, false, false, 9, -1, -1, -1⟩ := by rw [parts_vPrivateMaxAge9]; decide +kernel
theorem ctl_vPrivateMaxAge9_ccL : parseF [(ccL, vPrivateMaxAge9)] = ⟨false, false, true, false, false, false, false, false, 9, -1, -1, -1⟩ := (parse_sing (by decide +kernel) rfl).trans say_vPrivateMaxAge9
theorem ctl_vPrivateMaxAge9_ccN : parseF [(ccN, vPrivateMaxAge9)] = ⟨false, false, true, false, false, false, false, false, 9, -1, -1, -1⟩ := (parse_sing (by decide +kernel) rfl).trans say_vPrivateMaxAge9
def vNoStore : ByteArray := ⟨#[110, 111, 45, 115, 116, 111, 114, 101]⟩
theorem parts_vNoStore : partsF vNoStore = [⟨#[110, 111, 45, 115, 116, 111, 114, 101]⟩] := by
  have e1 : vNoStore = arr ([110, 111, 45, 115, 116, 111, 114, 101] ++ []) := rfl
  rw [e1, parts_step _ _ _ (plain_closed (by decide)) (.inl ⟨rfl, rfl⟩), partsF_nil (v := arr []) rfl]
  decide +kernel
theorem say_vNoStore : ctlL (partsF vNoStore) = ⟨true, false, false, false, false, false, false, false, -1, -1, -1, -1⟩ := by rw [parts_vNoStore]; decide +kernel
theorem ctl_vNoStore_ccL : parseF [(ccL, vNoStore)] = ⟨true, false, false, false, false, false, false, false, -1, -1, -1, -1⟩ := (parse_sing (by decide +kernel) rfl).trans say_vNoStore
theorem ctl_vNoStore_ccN : parseF [(ccN, vNoStore)] = ⟨true, false, false, false, false, false, false, false, -1, -1, -1, -1⟩ := (parse_sing (by decide +kernel) rfl).trans say_vNoStore
def vMaxAge5Public : ByteArray := ⟨#[109, 97, 120, 45, 97, 103, 101, 61, 53, 44, 32, 112, 117, 98, 108, 105, 99]⟩
theorem parts_vMaxAge5Public : partsF vMaxAge5Public = [⟨#[109, 97, 120, 45, 97, 103, 101, 61, 53]⟩, ⟨#[112, 117, 98, 108, 105, 99]⟩] := by
  have e1 : vMaxAge5Public = arr ([109, 97, 120, 45, 97, 103, 101, 61, 53] ++ 44 :: ([32, 112, 117, 98, 108, 105, 99] ++ [])) := rfl
  rw [e1, parts_step _ _ _ (plain_closed (by decide)) (.inr rfl), parts_step _ _ _ (plain_closed (by decide)) (.inl ⟨rfl, rfl⟩), partsF_nil (v := arr []) rfl]
  decide +kernel
theorem say_vMaxAge5Public : ctlL (partsF vMaxAge5Public) = ⟨false, false, false, true, false, false, false, false, 5, -1, -1, -1⟩ := by rw [parts_vMaxAge5Public]; decide +kernel
theorem ctl_vMaxAge5Public_ccL : parseF [(ccL, vMaxAge5Public)] = ⟨false, false, false, true, false, false, false, false, 5, -1, -1, -1⟩ := (parse_sing (by decide +kernel) rfl).trans say_vMaxAge5Public
theorem ctl_vMaxAge5Public_ccN : parseF [(ccN, vMaxAge5Public)] = ⟨false, false, false, true, false, false, false, false, 5, -1, -1, -1⟩ := (parse_sing (by decide +kernel) rfl).trans say_vMaxAge5Public
def vMaxAge5MustRevalidate : ByteArray := ⟨#[109, 97, 120, 45, 97, 103, 101, 61, 53, 44, 32, 109, 117, 115, 116, 45, 114, 101, 118, 97, 108, 105, 100, 97, 116, 101]⟩
theorem parts_vMaxAge5MustRevalidate : partsF vMaxAge5MustRevalidate = [⟨#[109, 97, 120, 45, 97, 103, 101, 61, 53]⟩, ⟨#[109, 117, 115, 116, 45, 114, 101, 118, 97, 108, 105, 100, 97, 116, 101]⟩] := by
  have e1 : vMaxAge5MustRevalidate = arr ([109, 97, 120, 45, 97, 103, 101, 61, 53] ++ 44 :: ([32, 109, 117, 115, 116, 45, 114, 101, 118, 97, 108, 105, 100, 97, 116, 101] ++ [])) := rfl
  rw [e1, parts_step _ _ _ (plain_closed (by decide)) (.inr rfl), parts_step _ _ _ (plain_closed (by decide)) (.inl ⟨rfl, rfl⟩), partsF_nil (v := arr []) rfl]
  decide +kernel
theorem say_vMaxAge5MustRevalidate : ctlL (partsF vMaxAge5MustRevalidate) = ⟨false, false, false, false, true, false, false, false, 5, -1, -1, -1⟩ := by rw [parts_vMaxAge5MustRevalidate]; decide +kernel
theorem ctl_vMaxAge5MustRevalidate_ccL : parseF [(ccL, vMaxAge5MustRevalidate)] = ⟨false, false, false, false, true, false, false, false, 5, -1, -1, -1⟩ := (parse_sing (by decide +kernel) rfl).trans say_vMaxAge5MustRevalidate
theorem ctl_vMaxAge5MustRevalidate_ccN : parseF [(ccN, vMaxAge5MustRevalidate)] = ⟨false, false, false, false, true, false, false, false, 5, -1, -1, -1⟩ := (parse_sing (by decide +kernel) rfl).trans say_vMaxAge5MustRevalidate
def vSMaxage5 : ByteArray := ⟨#[115, 45, 109, 97, 120, 97, 103, 101, 61, 53]⟩
theorem parts_vSMaxage5 : partsF vSMaxage5 = [⟨#[115, 45, 109, 97, 120, 97, 103, 101, 61, 53]⟩] := by
  have e1 : vSMaxage5 = arr ([115, 45, 109, 97, 120, 97, 103, 101, 61, 53] ++ []) := rfl
  rw [e1, parts_step _ _ _ (plain_closed (by decide)) (.inl ⟨rfl, rfl⟩), partsF_nil (v := arr []) rfl]
  decide +kernel
theorem say_vSMaxage5 : ctlL (partsF vSMaxage5) = ⟨false, false, false, false, false, false, false, false, -1, 5, -1, -1⟩ := by rw [parts_vSMaxage5]; decide +kernel
theorem ctl_vSMaxage5_ccL : parseF [(ccL, vSMaxage5)] = ⟨false, false, false, false, false, false, false, false, -1, 5, -1, -1⟩ := (parse_sing (by decide +kernel) rfl).trans say_vSMaxage5
theorem ctl_vSMaxage5_ccN : parseF [(ccN, vSMaxage5)] = ⟨false, false, false, false, false, false, false, false, -1, 5, -1, -1⟩ := (parse_sing (by decide +kernel) rfl).trans say_vSMaxage5
def vMaxAge5ProxyRevalidate : ByteArray := ⟨#[109, 97, 120, 45, 97, 103, 101, 61, 53, 44, 32, 112, 114, 111, 120, 121, 45, 114, 101, 118, 97, 108, 105, 100, 97, 116, 101]⟩
theorem parts_vMaxAge5ProxyRevalidate : partsF vMaxAge5ProxyRevalidate = [⟨#[109, 97, 120, 45, 97, 103, 101, 61, 53]⟩, ⟨#[112, 114, 111, 120, 121, 45, 114, 101, 118, 97, 108, 105, 100, 97, 116, 101]⟩] := by
  have e1 : vMaxAge5ProxyRevalidate = arr ([109, 97, 120, 45, 97, 103, 101, 61, 53] ++ 44 :: ([32, 112, 114, 111, 120, 121, 45, 114, 101, 118, 97, 108, 105, 100, 97, 116, 101] ++ [])) := rfl
  rw [e1, parts_step _ _ _ (plain_closed (by decide)) (.inr rfl), parts_step _ _ _ (plain_closed (by decide)) (.inl ⟨rfl, rfl⟩), partsF_nil (v := arr []) rfl]
  decide +kernel
theorem say_vMaxAge5ProxyRevalidate : ctlL (partsF vMaxAge5ProxyRevalidate) = ⟨false, false, false, false, false, true, false, false, 5, -1, -1, -1⟩ := by rw [parts_vMaxAge5ProxyRevalidate]; decide +kernel
theorem ctl_vMaxAge5ProxyRevalidate_ccL : parseF [(ccL, vMaxAge5ProxyRevalidate)] = ⟨false, false, false, false, false, true, false, false, 5, -1, -1, -1⟩ := (parse_sing (by decide +kernel) rfl).trans say_vMaxAge5ProxyRevalidate
theorem ctl_vMaxAge5ProxyRevalidate_ccN : parseF [(ccN, vMaxAge5ProxyRevalidate)] = ⟨false, false, false, false, false, true, false, false, 5, -1, -1, -1⟩ := (parse_sing (by decide +kernel) rfl).trans say_vMaxAge5ProxyRevalidate
def vNoCache : ByteArray := ⟨#[110, 111, 45, 99, 97, 99, 104, 101]⟩
theorem parts_vNoCache : partsF vNoCache = [⟨#[110, 111, 45, 99, 97, 99, 104, 101]⟩] := by
  have e1 : vNoCache = arr ([110, 111, 45, 99, 97, 99, 104, 101] ++ []) := rfl
  rw [e1, parts_step _ _ _ (plain_closed (by decide)) (.inl ⟨rfl, rfl⟩), partsF_nil (v := arr []) rfl]
  decide +kernel
theorem say_vNoCache : ctlL (partsF vNoCache) = ⟨false, true, false, false, false, false, false, false, -1, -1, -1, -1⟩ := by rw [parts_vNoCache]; decide +kernel
theorem ctl_vNoCache_ccL : parseF [(ccL, vNoCache)] = ⟨false, true, false, false, false, false, false, false, -1, -1, -1, -1⟩ := (parse_sing (by decide +kernel) rfl).trans say_vNoCache
theorem ctl_vNoCache_ccN : parseF [(ccN, vNoCache)] = ⟨false, true, false, false, false, false, false, false, -1, -1, -1, -1⟩ := (parse_sing (by decide +kernel) rfl).trans say_vNoCache
def vPrivate : ByteArray := ⟨#[112, 114, 105, 118, 97, 116, 101]⟩
theorem parts_vPrivate : partsF vPrivate = [⟨#[112, 114, 105, 118, 97, 116, 101]⟩] := by
  have e1 : vPrivate = arr ([112, 114, 105, 118, 97, 116, 101] ++ []) := rfl
  rw [e1, parts_step _ _ _ (plain_closed (by decide)) (.inl ⟨rfl, rfl⟩), partsF_nil (v := arr []) rfl]
  decide +kernel
theorem say_vPrivate : ctlL (partsF vPrivate) = ⟨false, false, true, false, false, false, false, false, -1, -1, -1, -1⟩ := by rw [parts_vPrivate]; decide +kernel
theorem ctl_vPrivate_ccL : parseF [(ccL, vPrivate)] = ⟨false, false, true, false, false, false, false, false, -1, -1, -1, -1⟩ := (parse_sing (by decide +kernel) rfl).trans say_vPrivate
theorem ctl_vPrivate_ccN : parseF [(ccN, vPrivate)] = ⟨false, false, true, false, false, false, false, false, -1, -1, -1, -1⟩ := (parse_sing (by decide +kernel) rfl).trans say_vPrivate
def vMaxAge9NoStore : ByteArray := ⟨#[109, 97, 120, 45, 97, 103, 101, 61, 57, 44, 32, 78, 111, 45, 83, 116, 111, 114, 101]⟩
theorem parts_vMaxAge9NoStore : partsF vMaxAge9NoStore = [⟨#[109, 97, 120, 45, 97, 103, 101, 61, 57]⟩, ⟨#[78, 111, 45, 83, 116, 111, 114, 101]⟩] := by
  have e1 : vMaxAge9NoStore = arr ([109, 97, 120, 45, 97, 103, 101, 61, 57] ++ 44 :: ([32, 78, 111, 45, 83, 116, 111, 114, 101] ++ [])) := rfl
  rw [e1, parts_step _ _ _ (plain_closed (by decide)) (.inr rfl), parts_step _ _ _ (plain_closed (by decide)) (.inl ⟨rfl, rfl⟩), partsF_nil (v := arr []) rfl]
  decide +kernel
theorem say_vMaxAge9NoStore : ctlL (partsF vMaxAge9NoStore) = ⟨true, false, false, false, false, false, false, false, 9, -1, -1, -1⟩ := by rw [parts_vMaxAge9NoStore]; decide +kernel
theorem ctl_vMaxAge9NoStore_ccL : parseF [(ccL, vMaxAge9NoStore)] = ⟨true, false, false, false, false, false, false, false, 9, -1, -1, -1⟩ := (parse_sing (by decide +kernel) rfl).trans say_vMaxAge9NoStore
theorem ctl_vMaxAge9NoStore_ccN : parseF [(ccN, vMaxAge9NoStore)] = ⟨true, false, false, false, false, false, false, false, 9, -1, -1, -1⟩ := (parse_sing (by decide +kernel) rfl).trans say_vMaxAge9NoStore
def vNil : ByteArray := ⟨#[]⟩
theorem parts_vNil : partsF vNil = [] := by
  exact partsF_nil rfl
theorem say_vNil : ctlL (partsF vNil) = ⟨false, false, false, false, false, false, false, false, -1, -1, -1, -1⟩ := by rw [parts_vNil]; decide +kernel
theorem ctl_vNil_ccL : parseF [(ccL, vNil)] = ⟨false, false, false, false, false, false, false, false, -1, -1, -1, -1⟩ := (parse_sing (by decide +kernel) rfl).trans say_vNil
theorem ctl_vNil_ccN : parseF [(ccN, vNil)] = ⟨false, false, false, false, false, false, false, false, -1, -1, -1, -1⟩ := (parse_sing (by decide +kernel) rfl).trans say_vNil
end Go.Proofs.YtgfinhkplijhbaaGreatDoor
