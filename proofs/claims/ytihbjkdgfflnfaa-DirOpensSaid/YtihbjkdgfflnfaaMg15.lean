/-
  An entry put behind its bucket's others.
  How many entries a directory holds.
  Purge's closure: does an entry go?
  slices.IndexFunc of Purge's closure: the first entry that goes.
  clear of a slice of entries.
  slices.Delete of one entry.
  A row of which one entry is deleted.
  slices.DeleteFunc of Purge's closure: what goes is gone, and the others close up.
  A sweep: Purge.
  The reference's directory made; a law's key.
  An entry appended to whatever row: in its own room, or in a new block.
  The reference's Insert.
  The reference's Probe.
  A law's key.
-/
import Derived.Deep.Upon
import Derived.Lib.SliceRun
import Derived.Laws.IdiomCopy
import Derived.Test.YtihbjkdgfflnfaaMg5
import Derived.Test.YtihbjkdgfflnfaaMg8
import Derived.Test.YtihbjkdgfflnfaaMg11
import Derived.Test.YtihbjkdgfflnfaaMg14
namespace Go.Proofs.Ytihbjkdgfflnfaa
open Go.RowKit

theorem IsDir.spares {F G : Nat → Prop} {p bk n s : Nat} {R : Nat → Row} {E : List (List Ent)} {w w' : World} (h : IsDir F p bk n s R E w) (hs : Spares G w w') (hn : ∀ b, F b → b < w.heap.size → ¬ G b) : IsDir F p bk n s R E w' :=
  ⟨hs.heap h.hd (hn p h.inF (Array.getElem?_eq_some_iff.1 h.hd).1), h.rows.spares hs hn, h.inF, h.ne, h.offp, h.n0, h.n1, h.s0, h.s1, h.cap⟩
/-- The load of a whole row, as one step of a region that draws. -/
theorem step_loadrow {P : Program} {ops : Array Oper} {o : Oper} {a : Act} {w : World} {K : Act → World → Prop} {Q : Exit → Act → World → Prop} {E : Prop} (hgd : o.guard = none) (ty : TypeId) (x : Operand) (ho : o.op = .load ty x) (b off : Nat) (hx : a.eval x = .pointer (some ⟨b, off, none⟩)) (cs : Array Value)
    (hl : (loadVar ty ⟨b, off, none⟩).run P w = .ok (.agg cs) w) (hK : K (a.put o.dst (.agg cs)) w) : if Region.wanted o (yielded ops a.tmps) = true then Oper.wp P o a w K Q else E := by
  have hw : Region.wanted o (yielded ops a.tmps) = true := by simp [Region.wanted, hgd]
  rw [if_pos hw]
  unfold Oper.wp
  simp only [execOp, ho, hx, Instr.loadAt, Instr.sureAddr, Sem.run_bind, Sem.run_pure, Result.andThen_ok, hl]
  exact hK
theorem rowCells_single (x : Ent) : rowCells [x] = entCells x := by simp [rowCells]
/-- A bucket's row grown in its own room. -/
theorem add_dir {F : Nat → Prop} {p bk n s : Nat} {R : Nat → Row} {E : List (List Ent)} {w : World} (h : IsDir F p bk n s R E w) {b : Nat} (hb : b < n) {row : List Ent} (hrow : ∀ hE : b < E.length, E[b] = row) {g off : Nat} (hR : (R b).a = some (g, off)) (hl : row.length < s) {x : Ent} (hx : x.ok) :
    IsDir F p bk n s R (E.set b (row ++ [x])) ((w.setCells g (off + row.length * 4) (entCells x)).setCell ⟨bk, b, none⟩ (.slice (some ⟨g, off, none⟩) (row.length + 1) s)) := by
  have hE : b < E.length := by rw [h.rows.len]; exact hb
  have hrw := h.rows.row b hE
  rw [hrow hE] at hrw
  have hcap := (h.cap b hb).1
  have hgbk := h.rows.off b hb g off hR
  have hgp := h.offp b hb g off hR
  have hst := hrw.store hR (k0 := row.length) [x] (Nat.le_refl _) (by rw [hcap, List.length_singleton]; omega)
  rw [List.take_length, rowCells_single] at hst
  have hp := h.rows.put (w1 := w.setCells g (off + row.length * 4) (entCells x)) (F' := F) hb (fun _ h => h) (World.heap_setCells_other w g _ _ h.rows.lt (fun e => hgbk e.symm))
    (fun j hj hne => (h.rows.row j hj).sets g _ _ (fun b' o' e => by
      have := h.rows.apart j b (by rw [← h.rows.len]; exact hj) hb hne b' o' g off e hR
      rw [hcap] at this
      have h4 : (entCells x).length = 4 := rfl
      rw [h4]
      omega)) (R b) (row ++ [x]) hst (fun j hj hne => h.rows.apart b j hb hj (fun e => hne e.symm)) (fun b' o' e => h.rows.off b hb b' o' e) (fun e he => by
      rcases List.mem_append.1 he with he | he
      · exact h.rows.ok row (by rw [← hrow hE]; exact List.getElem_mem hE) e he
      · rw [List.mem_singleton.1 he]; exact hx)
  have e1 : (fun j => if j = b then R b else R j) = R := by
    funext j
    by_cases e : j = b
    · rw [if_pos e, e]
    · rw [if_neg e]
  have e2 : (R b).ad = some ⟨g, off, none⟩ := by unfold Row.ad; rw [hR]; rfl
  have e3 : (row ++ [x]).length = row.length + 1 := by simp
  rw [e1, e2, e3, hcap] at hp
  refine ⟨?_, hp, h.inF, h.ne, h.offp, h.n0, h.n1, h.s0, h.s1, h.cap⟩
  rw [Below.heap_setCell _ _ _ _ (fun e => h.ne e), World.heap_setCells_other w g _ _ (Array.getElem?_eq_some_iff.1 h.hd).1 (fun e => hgp e.symm)]
  exact h.hd
theorem HasRoom.alloc {w : World} {g N : Nat} (h : HasRoom w g N) (o : Obj) : HasRoom (w.alloc o) g N := h.spares ((Spares.refl nowhere w).alloc o) (fun h => h)
theorem ent_new (w : World) (x : Ent) : ∀ j u, (entCells x)[j]? = some u → (w.alloc (.cells #[.int .u16 x.tag, .int .u32 x.at_, .int .u16 x.sec, .int .u64 x.turn] 41)).cell? ((⟨w.heap.size, 0, none⟩ : Addr).add j) = some u := by
  intro j u hj
  rw [Addr.add_lit, Lib.cell_of_heap (heap_alloc_new w _), Nat.zero_add]
  simpa [entCells] using hj
def insE (s : Nat) (row : List Ent) (sc tn : Nat) : Nat := if sc = 0 ∨ 9223372036854775807 < tn then 40 else if row.length = s then 50 else 0
def insF (s : Nat) (E : List (List Ent)) (b : Nat) (e : Ent) : List (List Ent) := if insE s (atRow E b) e.sec e.turn = 0 then addF E b e else E
def InsPost (F : Nat → Prop) (p bk n s : Nat) (E : List (List Ent)) (b : Nat) (x : Ent) (w : World) (e : Ending) (w' : World) : Prop :=
  e = .returned (.int .i64 (insE s (atRow E b) x.sec x.turn : Nat)) ∧ Spares F w w' ∧ ∃ R, IsDir F p bk n s R (insF s E b x) w'
set_option maxRecDepth 100000 in
set_option maxHeartbeats 4000000 in
theorem insert_any (F : Nat → Prop) (p bk n s : Nat) (R : Nat → Row) (E : List (List Ent)) (K : List UInt8) (a sc tn : Nat) (w : World) (h : IsDir F p bk n s R E w) (_hF : ∀ b, F b → b < w.heap.size) (hK : K.length = 32) (ha : a < 4294967296) (hsc : sc < 65536) (htn : tn < 18446744073709551616) :
    Calls Try.prog 16 #[.pointer (some ⟨p, 0, none⟩), .agg (bytesV K), .int .u32 a, .int .u16 sc, .int .u64 tn] w (InsPost F p bk n s E (bktF K n) ⟨tagF K, a, sc, tn⟩ w) := by
  have hEn := h.rows.len
  obtain ⟨b, hb⟩ : ∃ b, bktF K n = b := ⟨_, rfl⟩
  have hbn : b < n := by rw [← hb]; exact bktF_lt K n h.n0
  obtain ⟨row, hrow⟩ : ∃ row, atRow E b = row := ⟨_, rfl⟩
  have hrow' : E[b]'(by omega) = row := by rw [← hrow]; unfold atRow; rw [List.getD_eq_getElem?_getD, List.getElem?_eq_getElem (by omega)]; rfl
  obtain ⟨hcs, ⟨g, off⟩, hRa⟩ := h.cap b hbn
  have hrw := h.rows.row b (by omega)
  rw [hrow'] at hrw
  have hle := hrw.le
  rw [hcs] at hle
  unfold InsPost
  rw [hb]
  simp only [hrow]
  obtain ⟨v, hv⟩ : ∃ v, w.alloc (.cells (bytesV K) 36) = v := ⟨_, rfl⟩
  have hs : Spares nowhere w v := by rw [← hv]; exact (Spares.refl _ w).alloc _
  have hkb : v.heap[w.heap.size]? = some (.cells (bytesV K) 36 (0, 0)) := by rw [← hv]; exact heap_alloc_new w _
  have hD := h
  have HV := Lib.hid hv
  have HS := Lib.hid hs
  have HD := Lib.hid hD
  have HKB := Lib.hid hkb
  have HRW := Lib.hid hrw
  have HRA := Lib.hid hRa
  have HCS := Lib.hid hcs
  have HROW := Lib.hid hrow
  have HROW' := Lib.hid hrow'
  have HB := Lib.hid hb
  clear hv hs hD hkb h hrw hRa hcs hrow hrow' hb
  have HBAD : Hid ((sc = 0 ∨ 9223372036854775807 < tn) → (Ending.returned (.int .i64 40) = .returned (.int .i64 (insE s row sc tn : Nat)) ∧ Spares F w (w.alloc (.cells (bytesV K) 36)) ∧ ∃ R, IsDir F p bk n s R (insF s E b ⟨tagF K, a, sc, tn⟩) (w.alloc (.cells (bytesV K) 36)))) := Lib.hid (fun h => by
    have he : insE s row sc tn = 40 := by unfold insE; rw [if_pos h]
    have e2 : insF s E b ⟨tagF K, a, sc, tn⟩ = E := by unfold insF; rw [HROW.out]; simp only [he]; rfl
    rw [he, e2, HV.out]
    exact ⟨rfl, HS.out.mono (fun _ h => h.elim), R, HD.out.spares HS.out (fun _ _ _ h => h)⟩)
  go_enter Try.func16, Try.ntmps16
  by_cases h1 : sc = 0
  · have i1 : ((sc : Int) == 0) = true := by simp [h1]
    go_wp2
    go_ret
    exact HBAD.out (.inl h1)
  · have i1 : ((sc : Int) == 0) = false := by simp [h1]
    by_cases h2 : 9223372036854775807 < tn
    · have i2 : (9223372036854775807 : Int) < (tn : Int) := by omega
      go_wp2
      go_ret
      exact HBAD.out (.inr h2)
    · have i2 : ¬ (9223372036854775807 : Int) < (tn : Int) := by omega
      go_wp2
      rw [HV.out]
      have hd := HS.out.heap HD.out.hd (fun h => h)
      have k0 : ∀ x : Kin v, x.wd.cell? ⟨p, 0, none⟩ = some (.int .i64 s) := fun x => x.cell (by rw [Lib.cell_of_heap hd]; rfl)
      have k1 : ∀ x : Kin v, x.wd.cell? ⟨p, 1, none⟩ = some (.slice (some ⟨bk, 0, none⟩) n n) := fun x => x.cell (by rw [Lib.cell_of_heap hd]; rfl)
      have KK : Hid (∀ W, (∃ x : Kin v, W = x.wd) → W.rangeAt w.heap.size 0 (Lib.byteCells K)) := Lib.hid (by
        rintro W ⟨x, rfl⟩ j u hj
        have := x.cell (p := ⟨w.heap.size, 0 + j, none⟩) (v := u) (by rw [Lib.cell_of_heap HKB.out, Nat.zero_add]; simpa [bytesV] using hj)
        exact this)
      have HIC : Hid ((Try.prog.info? 36).map (·.size) = some (Lib.byteCells K).length) := Lib.hid (by rw [byteCells_len, hK]; kernel_rfl)
      have C1 : Hid (∀ x : Kin v, Calls Try.prog 30 #[.pointer (some ⟨p, 0, none⟩), .agg (bytesV K)] x.wd fun e w'' => e = .returned (.int .i64 b) ∧ ∃ y : Kin v, w'' = y.wd) := Lib.hid (fun x => Kin.calls ((bucket_any K p n n _ x.wd hK HD.out.n0 HD.out.n1 (k1 x)).mono (by rintro e w' ⟨rfl, hs⟩; exact ⟨by rw [HB.out], hs.below0⟩)))
      have C2 : Hid (∀ x : Kin v, Calls Try.prog 34 #[.agg (bytesV K)] x.wd fun e w'' => e = .returned (.int .u16 (tagF K : Nat)) ∧ ∃ y : Kin v, w'' = y.wd) := Lib.hid (fun x => Kin.calls ((tag_any K x.wd hK).mono (by rintro e w' ⟨rfl, hs⟩; exact ⟨rfl, hs.below0⟩)))
      clear hd
      refine wp_region_kin (by kernel_rfl) (by kernel_rfl) ?_
      repeat (first
        | (refine wpQuiet_step (fun K9 hK9 => ?_); refine quiet_if (.agg (bytesV K)) (by rfl) (fun W hW => quiet_load 36 (.tmp 6) rfl w.heap.size 0 rfl (Lib.byteCells K) _ W (KK.out W hW) Try.underlying36 rfl HIC.out) ?_; go_simp; refine hK9 _ ?_; clear hK9 K9)
        | go_big_quiet_step ((go_at_call 30; with_reducible exact C1.out _)))
      refine wpQuiet_nil ?_
      intro _ hx
      obtain ⟨x, rfl⟩ := hx
      have hx0 : Spares nowhere v x.wd := Below.spares x.below (fun k hk => .inr hk)
      have HX := Lib.hid hx0
      have hr := (HD.out.rows.spares (HS.out.trans hx0) (fun _ _ _ h => h))
      have cb : x.wd.cell? ⟨bk, b, none⟩ = some (.slice (some ⟨g, off, none⟩) row.length s) := by
        have h := (hr.cell b (by omega)).1
        rw [HROW'.out, HCS.out] at h
        rw [h]; simp [Row.ad, HRA.out]
      have fb := (hr.cell b (by omega)).2
      have j0 : ∀ x : Kin v, x.wd.cell? ⟨bk, b, none⟩ = some (.slice (some ⟨g, off, none⟩) row.length s) := fun x => by
        have hr := (HD.out.rows.spares (HS.out.trans (Below.spares (F := nowhere) x.below (fun k hk => .inr hk))) (fun _ _ _ h => h))
        have h := (hr.cell b (by omega)).1
        rw [HROW'.out, HCS.out] at h
        rw [h]; simp [Row.ad, HRA.out]
      have c0 := k0 x
      by_cases h3 : row.length = s
      · have i3 : ((row.length : Int) == (s : Int)) = true := by simp [h3]
        clear j0 k0 k1
        go_wp2
        go_quiet (fail)
        go_wp2
        go_ret
        have he : insE s row sc tn = 50 := by unfold insE; rw [if_neg (by omega), if_pos h3]
        refine ⟨by rw [he]; rfl, ((HS.out.trans HX.out).drewN _).mono (fun _ h => h.elim), R, ?_⟩
        have e2 : insF s E b ⟨tagF K, a, sc, tn⟩ = E := by unfold insF; rw [HROW.out]; simp only [he]; rfl
        rw [e2]
        exact HD.out.spares ((HS.out.trans HX.out).drewN _) (fun _ _ _ h => h)
      · have i3 : ((row.length : Int) == (s : Int)) = false := by simp; omega
        clear j0 k0 k1
        go_wp2
        go_quiet (fail)
        go_wp2
        obtain ⟨u, hu⟩ : ∃ u, x.wd.drewN nq = u := ⟨_, rfl⟩
        have hxu : Spares nowhere w u := by rw [← hu]; exact (HS.out.trans HX.out).drewN _
        have hvu : Spares nowhere v u := by rw [← hu]; exact HX.out.drewN _
        rw [hu]
        have HXU := Lib.hid hxu
        have HVU := Lib.hid hvu
        have hku := hvu.heap HKB.out (fun h => h)
        have hL : (loadVar 36 ⟨w.heap.size, 0, none⟩).run Try.prog u.drew = .ok (.agg (bytesV K)) u.drew := run_loadVar_mid u.drew w.heap.size 0 36 (Lib.byteCells K) _ (fun j v hj => by
          show u.cell? _ = _
          rw [Lib.cell_of_heap hku, Nat.zero_add]; simpa [bytesV] using hj) Try.underlying36 rfl (by rw [byteCells_len, hK]; kernel_rfl)
        have D9 : ∀ W, Spares nowhere u W → W.cell? ⟨bk, b, none⟩ = some (.slice (some ⟨g, off, none⟩) row.length s) ∧ W.frozen? ⟨bk, b, none⟩ = false ∧ HasRoom W g (off + s * 4) := fun W hW => by
          have hr := (HD.out.rows.spares (HXU.out.trans hW) (fun _ _ _ h => h))
          have h := hr.cell b (by omega)
          rw [HROW'.out, HCS.out] at h
          refine ⟨by rw [h.1]; simp [Row.ad, HRA.out], h.2, ?_⟩
          have := ((hr.row b (by omega)).room g off HRA.out).2
          rwa [HCS.out] at this
        have hne : g ≠ bk := HD.out.rows.off b hbn g off HRA.out
        have HNE := Lib.hid hne
        have CT : Hid (∀ W, Spares nowhere u W → Calls Try.prog 34 #[.agg (bytesV K)] W fun e w' => e = .returned (.int .u16 (tagF K : Nat)) ∧ Hid (Spares nowhere u w') ∧ w'.cell? ⟨bk, b, none⟩ = some (.slice (some ⟨g, off, none⟩) row.length s) ∧
            (∀ o, (w'.alloc o).cell? ⟨bk, b, none⟩ = some (.slice (some ⟨g, off, none⟩) row.length s)) ∧
            (∀ o o' vs, ((w'.alloc o).setCells g o' vs).cell? ⟨bk, b, none⟩ = some (.slice (some ⟨g, off, none⟩) row.length s) ∧ ((w'.alloc o).setCells g o' vs).frozen? ⟨bk, b, none⟩ = false) ∧ Hid (HasRoom w' g (off + s * 4))) := Lib.hid (fun W hW => (tag_any K W hK).mono (by
          rintro e w' ⟨rfl, hs⟩
          have hw := hW.trans hs
          obtain ⟨d1, d2, d3⟩ := D9 w' hw
          refine ⟨rfl, hw, d1, fun o => (D9 _ (hw.alloc o)).1, fun o o' vs => ?_, d3⟩
          obtain ⟨d4, d5, _⟩ := D9 _ (hw.alloc o)
          exact ⟨(World.cell?_setCells_out g vs o' _ _ (fun e => absurd e.symm HNE.out)).trans d4, (World.frozen?_setCells g vs o' _ _).trans d5⟩))
        have d1 := (D9 u (Spares.refl _ _)).1
        have hdr : Spares nowhere u u.drew := (Spares.refl _ _).drew
        obtain ⟨i0, hi, hz0, hz1, hz2⟩ := info_parts entInfo
        have hlt : row.length < s := by omega
        have HFIN : Hid (∀ wn o, Spares nowhere u wn → Ending.returned (.int .i64 0) = .returned (.int .i64 (insE s row sc tn : Nat)) ∧ Spares F w (((wn.alloc o).setCells g (off + row.length * 4) (entCells ⟨tagF K, a, sc, tn⟩)).setCell ⟨bk, b, none⟩ (.slice (some ⟨g, off, none⟩) (row.length + 1) s)) ∧
            ∃ R, IsDir F p bk n s R (insF s E b ⟨tagF K, a, sc, tn⟩) (((wn.alloc o).setCells g (off + row.length * 4) (entCells ⟨tagF K, a, sc, tn⟩)).setCell ⟨bk, b, none⟩ (.slice (some ⟨g, off, none⟩) (row.length + 1) s))) := Lib.hid (fun wn o hs => by
          have h0 := (HXU.out.trans hs).alloc o
          have hd := HD.out.spares h0 (fun _ _ _ h => h)
          have hxo : Ent.ok ⟨tagF K, a, sc, tn⟩ := ⟨by have := tagF_lt K; simp only; omega, ha, hsc, htn⟩
          have hfin := add_dir hd hbn (row := row) (fun hE => HROW'.out) HRA.out hlt hxo
          have he : insE s row sc tn = 0 := by unfold insE; rw [if_neg (by omega), if_neg h3]
          have e2 : insF s E b ⟨tagF K, a, sc, tn⟩ = E.set b (row ++ [⟨tagF K, a, sc, tn⟩]) := by unfold insF addF; rw [HROW.out]; simp only [he]; rfl
          have hg := ((HD.out.rows.row b (by omega)).room g off HRA.out).1
          refine ⟨by rw [he]; rfl, ?_, R, by rw [e2]; exact hfin⟩
          have h1 : Spares F w (wn.alloc o) := h0.mono (fun _ h => h.elim)
          exact (h1.trans' (spares_cells (entCells ⟨tagF K, a, sc, tn⟩) (off + row.length * 4) (Spares.refl (fun k => k = g) _)) (fun k hk => .inl (hk ▸ hg))).setCell (p := ⟨bk, b, none⟩) (.inl HD.out.rows.inF) _)
        clear hku hxu hvu cb fb c0 hr D9 hne
        refine wp_region_any (by kernel_rfl) ?_
        try (change wpAny _ _ _ _ _ _ _ (World.drew _))
        refine wpAny_take (i := 0) (v := ?_) rfl (by kernel_rfl) (by kernel_rfl) (by kernel_rfl) (fun _ _ _ h => h) (Or.inl ⟨by rfl, ?_⟩) ?_
        rotate_left
        · intro w9
          go_simp
          try with_reducible rfl
        refine wpAny_take (i := 1) (v := ?_) rfl (by kernel_rfl) (by kernel_rfl) (by kernel_rfl) (fun _ _ _ h => h) (Or.inl ⟨by rfl, ?_⟩) ?_
        rotate_left
        · intro w9
          go_simp
          try with_reducible rfl
        refine wpAny_take (i := 2) (v := ?_) rfl (by kernel_rfl) (by kernel_rfl) (by kernel_rfl) (fun _ _ _ h => h) (Or.inl ⟨by rfl, ?_⟩) ?_
        rotate_left
        · intro w9
          go_simp
          try with_reducible rfl
        refine wpAny_take (i := 6) (v := ?_) rfl (by kernel_rfl) (by kernel_rfl) (by kernel_rfl) (fun _ _ _ h => h) (Or.inl ⟨by rfl, ?_⟩) ?_
        rotate_left
        · intro w9
          go_simp
          try with_reducible rfl
        refine wpAny_take (i := 7) (v := ?_) rfl (by kernel_rfl) (by kernel_rfl) (by kernel_rfl) (fun _ _ _ h => h) (Or.inl ⟨by rfl, ?_⟩) ?_
        rotate_left
        · intro w9
          go_simp
          try with_reducible rfl
        refine wpAny_take (i := 8) (v := ?_) rfl (by kernel_rfl) (by kernel_rfl) (by kernel_rfl) (fun _ _ _ h => h) (Or.inl ⟨by rfl, ?_⟩) ?_
        rotate_left
        · intro w9
          go_simp
          try with_reducible rfl
        simp only [List.getElem_toArray, List.getElem_cons_succ, List.getElem_cons_zero, Act.put, List.setIfInBounds_toArray, List.set_cons_succ, List.set_cons_zero]
        refine wpAny_ready (rs := [3, 4]) (by kernel_rfl) (by simp) ?_
        refine AllReady.cons rfl (fun K9 hK9 => ?_) ?_
        · go_simp
          refine hK9 _ _ ?_
          clear hK9 K9
          refine wpAny_ready (rs := [4]) (by kernel_rfl) (by simp) ?_
          refine AllReady.cons rfl (fun K9 hK9 => ?_) ?_
          · refine step_loadrow rfl 36 (.tmp 6) rfl w.heap.size 0 rfl (bytesV K) hL ?_
            go_simp
            refine hK9 _ _ ?_
            clear hK9 K9
            refine wpAny_ready (rs := [5]) (by kernel_rfl) (by simp) ?_
            refine AllReady.cons rfl (fun K9 hK9 => ?_) ?_
            · go_simp
              go_at_call 34
              with_reducible refine Calls.mono (CT.out _ (by assumption)) ?_
              rintro e wn ⟨rfl, hsn, z0, z1, z2, z3⟩
              try go_simp
              refine hK9 _ _ ?_
              clear hK9 K9
              refine wpAny_ready (rs := [9]) (by kernel_rfl) (by simp) ?_
              refine AllReady.cons rfl (fun K9 hK9 => ?_) ?_
              · go_simp
                refine hK9 _ _ ?_
                clear hK9 K9
                refine wpAny_ready (rs := [10]) (by kernel_rfl) (by simp) ?_
                refine AllReady.cons rfl (fun K9 hK9 => ?_) ?_
                · go_simp
                  refine hK9 _ _ ?_
                  clear hK9 K9
                  refine wpAny_ready (rs := [11]) (by kernel_rfl) (by simp) ?_
                  refine AllReady.cons rfl (fun K9 hK9 => ?_) ?_
                  · refine step_append_room rfl (.tmp 38) (.tmp 45) 38 rfl 41 i0 4 Try.underlying38 hi hz1 g off row.length s (by simp [Act.eval]) ⟨wn.heap.size, 0, none⟩ 1 1 (entCells ⟨tagF K, a, sc, tn⟩) (by simp [Act.eval]) rfl (ent_new wn ⟨tagF K, a, sc, tn⟩) (by intro u hu; rw [← rowCells_single] at hu; exact rowCells_one _ u hu) (by omega) (fun j hj => (z3.out.alloc _).cell _ (by have : (entCells ⟨tagF K, a, sc, tn⟩).length = 4 := rfl; omega)) ?_
                    try go_simp
                    refine hK9 _ _ ?_
                    clear hK9 K9
                    refine wpAny_ready (rs := [12]) (by kernel_rfl) (by simp) ?_
                    refine AllReady.cons rfl (fun K9 hK9 => ?_) ?_
                    · go_simp
                      refine hK9 _ _ ?_
                      clear hK9 K9
                      refine wpAny_ready (rs := [13]) (by kernel_rfl) (by simp) ?_
                      refine AllReady.cons rfl (fun K9 hK9 => ?_) ?_
                      · go_simp
                        refine hK9 _ _ ?_
                        clear hK9 K9
                        refine wpAny_done (by kernel_rfl) ?_ _
                        go_wp2
                        go_ret
                        exact HFIN.out wn _ hsn.out
                      exact AllReady.nil
                    exact AllReady.nil
                  exact AllReady.nil
                exact AllReady.nil
              exact AllReady.nil
            exact AllReady.nil
          exact AllReady.nil
        refine AllReady.cons rfl (fun K9 hK9 => ?_) ?_
        · refine step_loadrow rfl 36 (.tmp 6) rfl w.heap.size 0 rfl (bytesV K) hL ?_
          go_simp
          refine hK9 _ _ ?_
          clear hK9 K9
          refine wpAny_ready (rs := [3, 5]) (by kernel_rfl) (by simp) ?_
          refine AllReady.cons rfl (fun K9 hK9 => ?_) ?_
          · go_simp
            refine hK9 _ _ ?_
            clear hK9 K9
            refine wpAny_ready (rs := [5]) (by kernel_rfl) (by simp) ?_
            refine AllReady.cons rfl (fun K9 hK9 => ?_) ?_
            · go_simp
              go_at_call 34
              with_reducible refine Calls.mono (CT.out _ (by assumption)) ?_
              rintro e wn ⟨rfl, hsn, z0, z1, z2, z3⟩
              try go_simp
              refine hK9 _ _ ?_
              clear hK9 K9
              refine wpAny_ready (rs := [9]) (by kernel_rfl) (by simp) ?_
              refine AllReady.cons rfl (fun K9 hK9 => ?_) ?_
              · go_simp
                refine hK9 _ _ ?_
                clear hK9 K9
                refine wpAny_ready (rs := [10]) (by kernel_rfl) (by simp) ?_
                refine AllReady.cons rfl (fun K9 hK9 => ?_) ?_
                · go_simp
                  refine hK9 _ _ ?_
                  clear hK9 K9
                  refine wpAny_ready (rs := [11]) (by kernel_rfl) (by simp) ?_
                  refine AllReady.cons rfl (fun K9 hK9 => ?_) ?_
                  · refine step_append_room rfl (.tmp 38) (.tmp 45) 38 rfl 41 i0 4 Try.underlying38 hi hz1 g off row.length s (by simp [Act.eval]) ⟨wn.heap.size, 0, none⟩ 1 1 (entCells ⟨tagF K, a, sc, tn⟩) (by simp [Act.eval]) rfl (ent_new wn ⟨tagF K, a, sc, tn⟩) (by intro u hu; rw [← rowCells_single] at hu; exact rowCells_one _ u hu) (by omega) (fun j hj => (z3.out.alloc _).cell _ (by have : (entCells ⟨tagF K, a, sc, tn⟩).length = 4 := rfl; omega)) ?_
                    try go_simp
                    refine hK9 _ _ ?_
                    clear hK9 K9
                    refine wpAny_ready (rs := [12]) (by kernel_rfl) (by simp) ?_
                    refine AllReady.cons rfl (fun K9 hK9 => ?_) ?_
                    · go_simp
                      refine hK9 _ _ ?_
                      clear hK9 K9
                      refine wpAny_ready (rs := [13]) (by kernel_rfl) (by simp) ?_
                      refine AllReady.cons rfl (fun K9 hK9 => ?_) ?_
                      · go_simp
                        refine hK9 _ _ ?_
                        clear hK9 K9
                        refine wpAny_done (by kernel_rfl) ?_ _
                        go_wp2
                        go_ret
                        exact HFIN.out wn _ hsn.out
                      exact AllReady.nil
                    exact AllReady.nil
                  exact AllReady.nil
                exact AllReady.nil
              exact AllReady.nil
            exact AllReady.nil
          refine AllReady.cons rfl (fun K9 hK9 => ?_) ?_
          · go_simp
            go_at_call 34
            with_reducible refine Calls.mono (CT.out _ (by assumption)) ?_
            rintro e wn ⟨rfl, hsn, z0, z1, z2, z3⟩
            try go_simp
            refine hK9 _ _ ?_
            clear hK9 K9
            refine wpAny_ready (rs := [3, 9]) (by kernel_rfl) (by simp) ?_
            refine AllReady.cons rfl (fun K9 hK9 => ?_) ?_
            · go_simp
              refine hK9 _ _ ?_
              clear hK9 K9
              refine wpAny_ready (rs := [9]) (by kernel_rfl) (by simp) ?_
              refine AllReady.cons rfl (fun K9 hK9 => ?_) ?_
              · go_simp
                refine hK9 _ _ ?_
                clear hK9 K9
                refine wpAny_ready (rs := [10]) (by kernel_rfl) (by simp) ?_
                refine AllReady.cons rfl (fun K9 hK9 => ?_) ?_
                · go_simp
                  refine hK9 _ _ ?_
                  clear hK9 K9
                  refine wpAny_ready (rs := [11]) (by kernel_rfl) (by simp) ?_
                  refine AllReady.cons rfl (fun K9 hK9 => ?_) ?_
                  · refine step_append_room rfl (.tmp 38) (.tmp 45) 38 rfl 41 i0 4 Try.underlying38 hi hz1 g off row.length s (by simp [Act.eval]) ⟨wn.heap.size, 0, none⟩ 1 1 (entCells ⟨tagF K, a, sc, tn⟩) (by simp [Act.eval]) rfl (ent_new wn ⟨tagF K, a, sc, tn⟩) (by intro u hu; rw [← rowCells_single] at hu; exact rowCells_one _ u hu) (by omega) (fun j hj => (z3.out.alloc _).cell _ (by have : (entCells ⟨tagF K, a, sc, tn⟩).length = 4 := rfl; omega)) ?_
                    try go_simp
                    refine hK9 _ _ ?_
                    clear hK9 K9
                    refine wpAny_ready (rs := [12]) (by kernel_rfl) (by simp) ?_
                    refine AllReady.cons rfl (fun K9 hK9 => ?_) ?_
                    · go_simp
                      refine hK9 _ _ ?_
                      clear hK9 K9
                      refine wpAny_ready (rs := [13]) (by kernel_rfl) (by simp) ?_
                      refine AllReady.cons rfl (fun K9 hK9 => ?_) ?_
                      · go_simp
                        refine hK9 _ _ ?_
                        clear hK9 K9
                        refine wpAny_done (by kernel_rfl) ?_ _
                        go_wp2
                        go_ret
                        exact HFIN.out wn _ hsn.out
                      exact AllReady.nil
                    exact AllReady.nil
                  exact AllReady.nil
                exact AllReady.nil
              exact AllReady.nil
            refine AllReady.cons rfl (fun K9 hK9 => ?_) ?_
            · go_simp
              refine hK9 _ _ ?_
              clear hK9 K9
              refine wpAny_ready (rs := [3, 10]) (by kernel_rfl) (by simp) ?_
              refine AllReady.cons rfl (fun K9 hK9 => ?_) ?_
              · go_simp
                refine hK9 _ _ ?_
                clear hK9 K9
                refine wpAny_ready (rs := [10]) (by kernel_rfl) (by simp) ?_
                refine AllReady.cons rfl (fun K9 hK9 => ?_) ?_
                · go_simp
                  refine hK9 _ _ ?_
                  clear hK9 K9
                  refine wpAny_ready (rs := [11]) (by kernel_rfl) (by simp) ?_
                  refine AllReady.cons rfl (fun K9 hK9 => ?_) ?_
                  · refine step_append_room rfl (.tmp 38) (.tmp 45) 38 rfl 41 i0 4 Try.underlying38 hi hz1 g off row.length s (by simp [Act.eval]) ⟨wn.heap.size, 0, none⟩ 1 1 (entCells ⟨tagF K, a, sc, tn⟩) (by simp [Act.eval]) rfl (ent_new wn ⟨tagF K, a, sc, tn⟩) (by intro u hu; rw [← rowCells_single] at hu; exact rowCells_one _ u hu) (by omega) (fun j hj => (z3.out.alloc _).cell _ (by have : (entCells ⟨tagF K, a, sc, tn⟩).length = 4 := rfl; omega)) ?_
                    try go_simp
                    refine hK9 _ _ ?_
                    clear hK9 K9
                    refine wpAny_ready (rs := [12]) (by kernel_rfl) (by simp) ?_
                    refine AllReady.cons rfl (fun K9 hK9 => ?_) ?_
                    · go_simp
                      refine hK9 _ _ ?_
                      clear hK9 K9
                      refine wpAny_ready (rs := [13]) (by kernel_rfl) (by simp) ?_
                      refine AllReady.cons rfl (fun K9 hK9 => ?_) ?_
                      · go_simp
                        refine hK9 _ _ ?_
                        clear hK9 K9
                        refine wpAny_done (by kernel_rfl) ?_ _
                        go_wp2
                        go_ret
                        exact HFIN.out wn _ hsn.out
                      exact AllReady.nil
                    exact AllReady.nil
                  exact AllReady.nil
                exact AllReady.nil
              refine AllReady.cons rfl (fun K9 hK9 => ?_) ?_
              · go_simp
                refine hK9 _ _ ?_
                clear hK9 K9
                refine wpAny_ready (rs := [3]) (by kernel_rfl) (by simp) ?_
                refine AllReady.cons rfl (fun K9 hK9 => ?_) ?_
                · go_simp
                  refine hK9 _ _ ?_
                  clear hK9 K9
                  refine wpAny_ready (rs := [11]) (by kernel_rfl) (by simp) ?_
                  refine AllReady.cons rfl (fun K9 hK9 => ?_) ?_
                  · refine step_append_room rfl (.tmp 38) (.tmp 45) 38 rfl 41 i0 4 Try.underlying38 hi hz1 g off row.length s (by simp [Act.eval]) ⟨wn.heap.size, 0, none⟩ 1 1 (entCells ⟨tagF K, a, sc, tn⟩) (by simp [Act.eval]) rfl (ent_new wn ⟨tagF K, a, sc, tn⟩) (by intro u hu; rw [← rowCells_single] at hu; exact rowCells_one _ u hu) (by omega) (fun j hj => (z3.out.alloc _).cell _ (by have : (entCells ⟨tagF K, a, sc, tn⟩).length = 4 := rfl; omega)) ?_
                    try go_simp
                    refine hK9 _ _ ?_
                    clear hK9 K9
                    refine wpAny_ready (rs := [12]) (by kernel_rfl) (by simp) ?_
                    refine AllReady.cons rfl (fun K9 hK9 => ?_) ?_
                    · go_simp
                      refine hK9 _ _ ?_
                      clear hK9 K9
                      refine wpAny_ready (rs := [13]) (by kernel_rfl) (by simp) ?_
                      refine AllReady.cons rfl (fun K9 hK9 => ?_) ?_
                      · go_simp
                        refine hK9 _ _ ?_
                        clear hK9 K9
                        refine wpAny_done (by kernel_rfl) ?_ _
                        go_wp2
                        go_ret
                        exact HFIN.out wn _ hsn.out
                      exact AllReady.nil
                    exact AllReady.nil
                  exact AllReady.nil
                exact AllReady.nil
              exact AllReady.nil
            exact AllReady.nil
          exact AllReady.nil
        exact AllReady.nil
end Go.Proofs.Ytihbjkdgfflnfaa
namespace Go.Proofs.Ytihbjkdgfflnfaa
open Go.RowKit

theorem IsDir.lens {F : Nat → Prop} {p bk n s : Nat} {R : Nat → Row} {E : List (List Ent)} {w : World} (h : IsDir F p bk n s R E w) : ∀ r ∈ E, r.length ≤ s := by
  intro r hr
  obtain ⟨i, hi, rfl⟩ := List.mem_iff_getElem.1 hr
  have := (h.rows.row i hi).le
  rwa [(h.cap i (by rw [← h.rows.len]; exact hi)).1] at this
theorem lenF_mono (E : List (List Ent)) (i : Nat) : lenF (E.take i) ≤ lenF E := by
  have e : lenF E = lenF (E.take i) + lenF (E.drop i) := by
    unfold lenF
    rw [← List.sum_append, ← List.map_append, List.take_append_drop]
  omega
set_option maxRecDepth 100000 in
theorem len_any (F : Nat → Prop) (p bk n s : Nat) (R : Nat → Row) (E : List (List Ent)) (w : World) (h : IsDir F p bk n s R E w) :
    Calls Try.prog 28 #[.pointer (some ⟨p, 0, none⟩)] w fun e w' => e = .returned (.int .i64 (lenF E : Nat)) ∧ w' = w := by
  have hEn := h.rows.len
  have hmax : lenF E ≤ 65536 := Nat.le_trans (lenF_le E s h.lens) (by rw [hEn]; exact Nat.le_trans (Nat.mul_le_mul h.n1 h.s1) (by omega))
  have c1 : w.cell? ⟨p, 1, none⟩ = some (.slice (some ⟨bk, 0, none⟩) n n) := by rw [Lib.cell_of_heap h.hd]; rfl
  have HC : Hid (∀ i (hi : i < E.length), w.cell? ⟨bk, i, none⟩ = some (.slice (R i).ad E[i].length (R i).cap)) := Lib.hid (fun i hi => (h.rows.cell i hi).1)
  have hn1 := h.n1
  clear h
  go_enter Try.func28, Try.ntmps28
  go_wp2
  go_loopw [3, 11] (fun a i wr => ∃ k : Nat, k ≤ n ∧ i = .int .i64 k ∧ a = .int .i64 (lenF (E.take k) : Nat) ∧ wr = w) (fun _ i _ => n - (intOf i).toNat)
  case atStart => exact ⟨0, by omega, rfl, rfl, rfl⟩
  case round =>
    obtain ⟨k, hk, rfl, rfl, rfl⟩ := hrel
    by_cases hlt : k < n
    · have c2 := HC.out k (by omega)
      have hs := lenF_take (E := E) (i := k) (by omega)
      have hm := lenF_mono E (k + 1)
      obtain ⟨L, hL⟩ : ∃ L, E[k].length = L := ⟨_, rfl⟩
      obtain ⟨T, hT⟩ : ∃ T, lenF (E.take k) = T := ⟨_, rfl⟩
      rw [hL] at c2 hs
      rw [hT] at hs ⊢
      have hw : IntKind.i64.wrap ((T : Int) + (L : Int)) = (T : Int) + (L : Int) := by rw [IntKind.wrap_i64]; omega
      have HL := Lib.hid hL
      have HT := Lib.hid hT
      have HSS := Lib.hid hs
      clear hL hT hs
      go_wp2
      go_roundw
      case rel => exact ⟨k + 1, by omega, by go_num, by rw [HSS.out]; simp, trivial⟩
      case measure => simp [intOf]; omega
    · obtain rfl : k = n := by omega
      rw [List.take_of_length_le (by omega)]
      go_wp2
      go_ret
      exact ⟨rfl, rfl⟩
end Go.Proofs.Ytihbjkdgfflnfaa
namespace Go.Proofs.Ytihbjkdgfflnfaa
open Go.RowKit

set_option maxRecDepth 100000 in
set_option maxHeartbeats 4000000 in
theorem gone_any (e : Ent) (f t turn bf bt bn : Nat) (w : World) (he : e.ok) (hf : f < 4294967296) (cf : w.cell? ⟨bf, 0, none⟩ = some (.int .u32 f)) (ct : w.cell? ⟨bt, 0, none⟩ = some (.int .u32 t)) (cn : w.cell? ⟨bn, 0, none⟩ = some (.int .u64 turn)) :
    Calls Try.prog 38 #[entV e, .pointer (some ⟨bf, 0, none⟩), .pointer (some ⟨bt, 0, none⟩), .pointer (some ⟨bn, 0, none⟩)] w fun e' w' => e' = .returned (.bool (goneF f t turn e)) ∧ Spares nowhere w w' := by
  obtain ⟨t0, a0, s0, n0⟩ := e
  obtain ⟨h1, h2, h3, h4⟩ := he
  simp only at h1 h2 h3 h4
  have u1 : IntKind.u64.wrap (a0 : Int) = (a0 : Int) := by rw [IntKind.wrap_u64]; omega
  have u2 : IntKind.u64.wrap (s0 : Int) = (s0 : Int) := by rw [IntKind.wrap_u64]; omega
  have u3 : IntKind.u64.wrap ((a0 : Int) + (s0 : Int)) = (a0 : Int) + (s0 : Int) := by rw [IntKind.wrap_u64]; omega
  have u4 : IntKind.u64.wrap (f : Int) = (f : Int) := by rw [IntKind.wrap_u64]; omega
  have old : ∀ (b : Nat) (u : Value), w.cell? ⟨b, 0, none⟩ = some u → ∀ o, (w.alloc o).cell? ⟨b, 0, none⟩ = some u := fun b u hc o => (World.cell?_of_block (a := ⟨b, 0, none⟩) (Below.heap_alloc w o b (cellB_lt hc))).trans hc
  replace cf := old bf _ cf
  replace ct := old bt _ ct
  replace cn := old bn _ cn
  clear old
  obtain ⟨r, hr⟩ : ∃ r, goneF f t turn ⟨t0, a0, s0, n0⟩ = r := ⟨_, rfl⟩
  rw [hr]
  have HR := Lib.hid hr
  clear hr
  unfold entV
  dsimp only
  by_cases g1 : f < t
  · have i1 : (f : Int) < (t : Int) := by omega
    by_cases g2 : a0 < t
    · have i2 : (a0 : Int) < (t : Int) := by omega
      by_cases g3 : f < a0 + s0
      · have i3 : (f : Int) < (a0 : Int) + (s0 : Int) := by omega
        by_cases g4 : n0 < turn
        · have i4 : (n0 : Int) < (turn : Int) := by omega
          obtain rfl : r = true := by rw [← HR.out]; simp [goneF, g1, g2, g3, g4]
          go_enter Try.func38, Try.ntmps38
          go_wp2
          go_ret
          exact ⟨rfl, (Spares.refl _ w).alloc _⟩
        · have i4 : ¬ (n0 : Int) < (turn : Int) := by omega
          obtain rfl : r = false := by rw [← HR.out]; simp [goneF]; omega
          go_enter Try.func38, Try.ntmps38
          go_wp2
          go_ret
          exact ⟨rfl, (Spares.refl _ w).alloc _⟩
      · have i3 : ¬ (f : Int) < (a0 : Int) + (s0 : Int) := by omega
        obtain rfl : r = false := by rw [← HR.out]; simp [goneF]; omega
        go_enter Try.func38, Try.ntmps38
        go_wp2
        go_ret
        exact ⟨rfl, (Spares.refl _ w).alloc _⟩
    · have i2 : ¬ (a0 : Int) < (t : Int) := by omega
      obtain rfl : r = false := by rw [← HR.out]; simp [goneF]; omega
      go_enter Try.func38, Try.ntmps38
      go_wp2
      go_ret
      exact ⟨rfl, (Spares.refl _ w).alloc _⟩
  · have i1 : ¬ (f : Int) < (t : Int) := by omega
    obtain rfl : r = false := by rw [← HR.out]; simp [goneF]; omega
    go_enter Try.func38, Try.ntmps38
    go_wp2
    go_ret
    exact ⟨rfl, (Spares.refl _ w).alloc _⟩
end Go.Proofs.Ytihbjkdgfflnfaa
namespace Go.Proofs.Ytihbjkdgfflnfaa
open Go.RowKit

def IdxPost (p : Ent → Bool) (l : List Ent) (w : World) (e : Ending) (w' : World) : Prop :=
  Spares nowhere w w' ∧ ((∃ k, ∃ h : k < l.length, e = .returned (.int .i64 k) ∧ p l[k] = true ∧ ∀ j (hj : j < k), p (l[j]'(by omega)) = false) ∨ (e = .returned (.int .i64 (-1)) ∧ ∀ j (hj : j < l.length), p l[j] = false))
def goneV (bf bt bn : Nat) : Value := .func (.func 38) #[] #[.pointer (some ⟨bf, 0, none⟩), .pointer (some ⟨bt, 0, none⟩), .pointer (some ⟨bn, 0, none⟩)]
set_option maxRecDepth 100000 in
set_option maxHeartbeats 4000000 in
theorem index_any (f t turn bf bt bn g off c : Nat) (l : List Ent) (w : World) (hl : l.length ≤ 1000000) (hok : ∀ e ∈ l, e.ok) (hf : f < 4294967296) (cf : w.cell? ⟨bf, 0, none⟩ = some (.int .u32 f)) (ct : w.cell? ⟨bt, 0, none⟩ = some (.int .u32 t)) (cn : w.cell? ⟨bn, 0, none⟩ = some (.int .u64 turn))
    (hc : ∀ k (h : k < l.length) j, j < 4 → w.cell? ⟨g, off + k * 4 + j, none⟩ = (entCells l[k])[j]?) :
    Calls Try.prog 49 #[.slice (some ⟨g, off, none⟩) l.length c, goneV bf bt bn] w (IdxPost (goneF f t turn) l w) := by
  have HCC : Hid (∀ W, Spares nowhere w W → ∀ k (h : k < l.length), Calls Try.prog 38 #[entV l[k], .pointer (some ⟨bf, 0, none⟩), .pointer (some ⟨bt, 0, none⟩), .pointer (some ⟨bn, 0, none⟩)] W fun e' w' => e' = .returned (.bool (goneF f t turn l[k])) ∧ Spares nowhere W w') := Lib.hid (fun W hW k h =>
    gone_any l[k] f t turn bf bt bn W (hok _ (List.getElem_mem h)) hf ((hW.cell (p := ⟨bf, 0, none⟩) (cellB_lt cf) (fun h => h)).trans cf) ((hW.cell (p := ⟨bt, 0, none⟩) (cellB_lt ct) (fun h => h)).trans ct) ((hW.cell (p := ⟨bn, 0, none⟩) (cellB_lt cn) (fun h => h)).trans cn))
  have HC : Hid (∀ W, Spares nowhere w W → ∀ k (h : k < l.length) j, j < 4 → W.cell? ⟨g, off + k * 4 + j, none⟩ = (entCells l[k])[j]?) := Lib.hid (fun W hW k h j hj => by
    have h1 := hc k h j hj
    have h2 : g < w.heap.size := by
      have h3 := hc k h 0 (by omega)
      exact cellB_lt (v := .int .u16 l[k].tag) h3
    exact (hW.cell (p := ⟨g, off + k * 4 + j, none⟩) h2 (fun h => h)).trans h1)
  obtain ⟨L, hL⟩ : ∃ L, l.length = L := ⟨_, rfl⟩
  rw [hL] at hl ⊢
  have HL := Lib.hid hL
  clear hok cf ct cn hc hL
  unfold goneV
  go_enter Try.func49, Try.ntmps49
  go_wp2
  go_loopw [8] (fun i wr => ∃ k : Nat, k ≤ L ∧ i = .int .i64 k ∧ Hid (∀ j (hj : j < l.length), j < k → goneF f t turn l[j] = false) ∧ Hid (Spares nowhere w wr)) (fun i _ => L - (intOf i).toNat)
  case atStart => exact ⟨0, by omega, rfl, Lib.hid (fun j _ h => absurd h (Nat.not_lt_zero _)), Lib.hid (Spares.refl _ _)⟩
  case round =>
    obtain ⟨k, hk, rfl, HJ, HW⟩ := hrel
    by_cases hlt : k < L
    · have hkl : k < l.length := by rw [HL.out]; exact hlt
      have CC := HCC.out _ HW.out k hkl
      have cE := HC.out _ HW.out k hkl
      obtain ⟨t0, ht0⟩ : ∃ t0, l[k].tag = t0 := ⟨_, rfl⟩
      obtain ⟨t1, ht1⟩ : ∃ t1, l[k].at_ = t1 := ⟨_, rfl⟩
      obtain ⟨t2, ht2⟩ : ∃ t2, l[k].sec = t2 := ⟨_, rfl⟩
      obtain ⟨t3, ht3⟩ : ∃ t3, l[k].turn = t3 := ⟨_, rfl⟩
      have e0 : wr.cell? ⟨g, off + k * 4, none⟩ = some (.int .u16 t0) := by rw [← ht0]; exact cE 0 (by omega)
      have e1 : wr.cell? ⟨g, off + k * 4 + 1, none⟩ = some (.int .u32 t1) := by rw [← ht1]; exact cE 1 (by omega)
      have e2 : wr.cell? ⟨g, off + k * 4 + 2, none⟩ = some (.int .u16 t2) := by rw [← ht2]; exact cE 2 (by omega)
      have e3 : wr.cell? ⟨g, off + k * 4 + 3, none⟩ = some (.int .u64 t3) := by rw [← ht3]; exact cE 3 (by omega)
      unfold entV at CC
      rw [ht0, ht1, ht2, ht3] at CC
      obtain ⟨r, hr⟩ : ∃ r, goneF f t turn l[k] = r := ⟨_, rfl⟩
      rw [hr] at CC
      have HCK := Lib.hid CC
      have HR := Lib.hid hr
      clear CC cE ht0 ht1 ht2 ht3 hr
      go_wp2_with fail
      refine HCK.out.mono ?_
      rintro e w2 ⟨rfl, hs2⟩
      have HS2 := Lib.hid hs2
      clear hs2 e0 e1 e2 e3
      cases r with
      | true =>
        go_wp2
        go_ret
        exact ⟨HW.out.trans HS2.out, .inl ⟨k, hkl, rfl, HR.out, fun j hj => HJ.out j (by omega) hj⟩⟩
      | false =>
        go_wp2
        go_roundw
        case rel =>
          refine ⟨k + 1, by omega, by go_num, Lib.hid (fun j hj hjk => ?_), Lib.hid (HW.out.trans HS2.out)⟩
          by_cases e : j = k
          · subst e; exact HR.out
          · exact HJ.out j hj (by omega)
        case measure => simp [intOf]; omega
    · obtain rfl : k = L := by omega
      go_wp2
      go_ret
      exact ⟨HW.out, .inr ⟨rfl, fun j hj => HJ.out j hj (by rw [← HL.out]; exact hj)⟩⟩
end Go.Proofs.Ytihbjkdgfflnfaa
namespace Go.Proofs.Ytihbjkdgfflnfaa
open Go.RowKit

theorem zeroRow (n : Nat) : (Builtin.zeroCells (entV Ent.zero).cells n).toList = rowCells (List.replicate n Ent.zero) := by
  apply List.ext_getElem?
  intro j
  have hl := rowCells_len (List.replicate n Ent.zero)
  rw [List.length_replicate] at hl
  have hs : (Builtin.zeroCells (entV Ent.zero).cells n).toList.length = n * 4 := by rw [Array.length_toList, size_zeroCells]; rfl
  by_cases hj : j < n * 4
  · have h2 := rowCells_at (List.replicate n Ent.zero) (j / 4) (by rw [List.length_replicate]; omega) (j % 4) (Nat.mod_lt _ (by omega))
    rw [show j / 4 * 4 + j % 4 = j by omega, List.getElem_replicate] at h2
    rw [h2]
    have h3 := Nat.mod_lt j (show 0 < 4 by omega)
    have hg : (Builtin.zeroCells (entV Ent.zero).cells n).toList[j]? = some ((entV Ent.zero).cells[j % 4]!) := by
      rw [List.getElem?_eq_getElem (by omega)]
      simp [Builtin.zeroCells, entV, Value.cells]
    rw [hg]
    match j % 4, h3 with
    | 0, _ => rfl
    | 1, _ => rfl
    | 2, _ => rfl
    | 3, _ => rfl
  · rw [List.getElem?_eq_none (by omega), List.getElem?_eq_none (by omega)]
theorem clear_ents (w : World) (ty : TypeId) (b o n c : Nat) (hn : 0 < n) (h : ∀ j, j < n * 4 → (w.cell? ⟨b, o + j, none⟩).isSome = true ∧ w.frozen? ⟨b, o + j, none⟩ = false) :
    (Builtin.clear_ #[38] ty #[.slice (some ⟨b, o, none⟩) n c]).run Try.prog w = .ok (.tuple #[]) (w.setCells b o (rowCells (List.replicate n Ent.zero))) := by
  have hl := rowCells_len (List.replicate n Ent.zero)
  rw [List.length_replicate] at hl
  have hst := run_storeCells_cells (P := Try.prog) b o (rowCells (List.replicate n Ent.zero)) 0 w (by intro j hj; exact (h j (by omega)).1) (by intro j hj; exact (h j (by omega)).2) (rowCells_one _)
  simp only [Nat.add_zero] at hst
  obtain ⟨i0, hi, hz0, hz1, hz2⟩ := info_parts entInfo
  have hv : ∀ w : World, (zeroValue 41).run Try.prog w = .ok (entV Ent.zero) w := fun w => by simp [zeroValue, typeInfo, hi, hz0]
  obtain ⟨m, rfl⟩ : ∃ m, n = m + 1 := ⟨n - 1, by omega⟩
  simp [Builtin.clear_, run_underlying Try.underlying38, hv, zeroRow, hst]
end Go.Proofs.Ytihbjkdgfflnfaa
namespace Go.Proofs.Ytihbjkdgfflnfaa
open Go.RowKit

set_option maxRecDepth 100000 in
set_option maxHeartbeats 4000000 in
theorem delete1_any (g off c i : Nat) (l : List Ent) (w : World) (_hc16 : c ≤ 1000) (hcap : l.length ≤ c) (hi : i < l.length) (hroom : HasRoom w g (off + c * 4)) (hc : ∀ k (h : k < l.length) j, j < 4 → w.cell? ⟨g, off + k * 4 + j, none⟩ = (entCells l[k])[j]?) :
    Calls Try.prog 37 #[.slice (some ⟨g, off, none⟩) l.length c, .int .i64 i, .int .i64 ((i : Int) + 1)] w fun e w' => e = .returned (.slice (some ⟨g, off, none⟩) (l.length - 1) c) ∧
      w' = (w.drew.setCells g (off + i * 4) (rowCells (l.drop (i + 1)))).setCells g (off + (l.length - 1) * 4) (rowCells (List.replicate 1 Ent.zero)) := by
  obtain ⟨news, hnews⟩ : ∃ news, news = rowCells (l.drop (i + 1)) := ⟨_, rfl⟩
  have hnl : news.length = (l.length - (i + 1)) * 4 := by rw [hnews, rowCells_len, List.length_drop]
  obtain ⟨A, hA, hsrc⟩ : ∃ A : Addr, (if c = i + 1 then (some ⟨g, off, none⟩ : Option Addr) else some ⟨g, off + (i + 1) * 4, none⟩) = some A ∧ Hid (∀ t u, news[t]? = some u → w.drew.cell? (A.add t) = some u) := by
    by_cases h : c = i + 1
    · refine ⟨⟨g, off, none⟩, by simp [h], fun t u hu => ?_⟩
      have h0 : news.length = 0 := by rw [hnl]; omega
      rw [List.length_eq_zero_iff.1 h0] at hu
      simp at hu
    · refine ⟨⟨g, off + (i + 1) * 4, none⟩, by simp [h], fun t u hu => ?_⟩
      have ht := (List.getElem?_eq_some_iff.1 hu).1
      rw [hnl] at ht
      have hk : i + 1 + t / 4 < l.length := by omega
      have h1 := hc (i + 1 + t / 4) hk (t % 4) (Nat.mod_lt _ (by omega))
      have h2 := rowCells_at (l.drop (i + 1)) (t / 4) (by rw [List.length_drop]; omega) (t % 4) (Nat.mod_lt _ (by omega))
      rw [show t / 4 * 4 + t % 4 = t by omega, ← hnews, List.getElem_drop] at h2
      rw [Addr.add_lit, show off + (i + 1) * 4 + t = off + (i + 1 + t / 4) * 4 + t % 4 by omega]
      exact (h1.trans h2.symm).trans hu
  have s1 : Hid (news.length = (l.length - (i + 1)) * 4) := hnl
  have s2 : Hid (∀ u ∈ news, u.oneCell' = true) := by rw [hnews]; exact rowCells_one _
  have s3 : Hid (∀ t, t < news.length → (w.drew.cell? ⟨g, off + i * 4 + t, none⟩).isSome = true ∧ w.drew.frozen? ⟨g, off + i * 4 + t, none⟩ = false) := by
    intro t ht
    rw [hnl] at ht
    exact hroom.cell (off + i * 4 + t) (by omega)
  obtain ⟨W1, hW1⟩ : ∃ W1, W1 = w.drew.setCells g (off + i * 4) news := ⟨_, rfl⟩
  have hr1 : HasRoom W1 g (off + c * 4) := by rw [hW1]; exact HasRoom.sets _ _ (hroom.spares (Spares.refl nowhere w).drew (fun h => h))
  obtain ⟨m, hm⟩ : ∃ m, l.length = m := ⟨_, rfl⟩
  rw [hm] at hcap hi s1 ⊢
  have hcl : ∀ ty, (Builtin.clear_ #[38] ty #[.slice (some ⟨g, off + (m - 1) * 4, none⟩) 1 (c - (m - 1))]).run Try.prog W1 = .ok (.tuple #[]) (W1.setCells g (off + (m - 1) * 4) (rowCells (List.replicate 1 Ent.zero))) := fun ty =>
    clear_ents W1 ty g (off + (m - 1) * 4) 1 _ (by omega) (fun j hj => hr1.cell _ (by omega))
  obtain ⟨i0, hii, hz0, hz1, hz2⟩ := info_parts entInfo
  have hW : Hid (W1 = w.drew.setCells g (off + i * 4) news) := hW1
  have HN := Lib.hid hnews
  have e1 : ((i : Int) == (i : Int) + 1) = false := by simp; omega
  have e2 : ((i : Int) + 1).toNat = i + 1 := by omega
  have e3 : i + (m - (i + 1)) = m - 1 := by omega
  have hic : i ≤ c := by omega
  have hjc : i + 1 ≤ c := by omega
  have hmc : m - 1 ≤ c := by omega
  have hm1 : ¬ c = m - 1 := by omega
  have hmm : m - 1 ≤ m := by omega
  have hdf : m - (m - 1) = 1 := by omega
  have hb1 : (0 : Int) ≤ (i : Int) + 1 := by omega
  have hb2 : (i : Int) + 1 ≤ (m : Int) := by omega
  clear hW1 hr1 hc hnews hnl hroom hm
  go_enter Try.func37, Try.ntmps37
  go_wp2_with fail
  go_region_law (refine step_append_room rfl (.tmp 22) (.tmp 25) 38 rfl 41 i0 4 Try.underlying38 hii hz1 g off i c (by simp [Act.eval, Act.put]) A (m - (i + 1)) (c - (i + 1)) news (by simp [Act.eval, Act.put]) s1.out hsrc.out s2.out (by omega) s3.out ?_; rw [← hW.out])
  clear hA
  go_wp2
  go_ret
  refine ⟨rfl, ?_⟩
  rw [hW.out, HN.out]
  rfl
end Go.Proofs.Ytihbjkdgfflnfaa
namespace Go.Proofs.Ytihbjkdgfflnfaa
open Go.RowKit

/-- Cells stored behind a row's entries leave them. -/
theorem RowAt.behind {F : Nat → Prop} {w : World} {r : Row} {l : List Ent} (h : RowAt F w r l) {b off : Nat} (hb : r.a = some (b, off)) (o : Nat) (vs : List Value) (ho : off + l.length * 4 ≤ o) : RowAt F (w.setCells b o vs) r l :=
  ⟨h.le, h.nil, fun b' off' e => ⟨(h.room b' off' e).1, (h.room b' off' e).2.sets vs o⟩, fun b' off' e k hk j hj => by
    rw [hb] at e
    injection e with e
    injection e with e1 e2
    subst e1; subst e2
    rw [World.cell?_setCells_out b vs o w ⟨b, off + k * 4 + j, none⟩ (fun _ _ => by left; simp only; omega)]
    exact h.ents b off hb k hk j hj⟩
theorem RowAt.erased {F : Nat → Prop} {w : World} {r : Row} {l : List Ent} (h : RowAt F w r l) {g off i : Nat} (hb : r.a = some (g, off)) (hi : i < l.length) :
    RowAt F ((w.drew.setCells g (off + i * 4) (rowCells (l.drop (i + 1)))).setCells g (off + (l.length - 1) * 4) (rowCells (List.replicate 1 Ent.zero))) r (l.eraseIdx i) := by
  have h0 := h.spares (Spares.refl nowhere w).drew (fun _ _ _ h => h)
  have hle := h.le
  have h1 := h0.store hb (k0 := i) (l.drop (i + 1)) (by omega) (by rw [List.length_drop]; omega)
  have e : l.eraseIdx i = l.take i ++ l.drop (i + 1) := List.eraseIdx_eq_take_drop_succ l i
  rw [e]
  refine h1.behind hb _ _ ?_
  rw [List.length_append, List.length_take, List.length_drop]
  omega
end Go.Proofs.Ytihbjkdgfflnfaa
namespace Go.Proofs.Ytihbjkdgfflnfaa
open Go.RowKit

theorem RowAt.turn {F : Nat → Prop} {w : World} {r : Row} {l : List Ent} (h : RowAt F w r l) {b off i : Nat} (hb : r.a = some (b, off)) (x : Ent) (hi : i < l.length) :
    RowAt F (w.setCells b (off + i * 4) (entCells x)) r (l.set i x) := by
  have hle := h.le
  refine ⟨by rw [List.length_set]; exact h.le, h.nil, fun b' off' e => ⟨(h.room b' off' e).1, (h.room b' off' e).2.sets _ _⟩, fun b' off' e k hk j hj => ?_⟩
  rw [hb] at e
  injection e with e
  injection e with e1 e2
  subst e1; subst e2
  rw [List.length_set] at hk
  have h4 : (entCells x).length = 4 := rfl
  by_cases e : k = i
  · subst e
    have h1 := World.cell?_setCells_in b (entCells x) (off + k * 4) w (fun j hj => ((h.room b off hb).2.cell _ (by rw [h4] at hj; omega)).1) j (by rw [h4]; exact hj)
    rw [h1, List.getElem_set_self, ← List.getElem?_eq_getElem]
  · rw [World.cell?_setCells_out b _ _ w ⟨b, off + k * 4 + j, none⟩ (fun _ _ => by rw [h4]; simp only; omega)]
    rw [h.ents b off hb k hk j hj, List.getElem_set_ne (fun h => e h.symm)]
theorem RowAt.take {F : Nat → Prop} {w : World} {r : Row} {l : List Ent} (h : RowAt F w r l) (i : Nat) : RowAt F w r (l.take i) :=
  ⟨Nat.le_trans (by rw [List.length_take]; omega) h.le, h.nil, h.room, fun b off e k hk j hj => by
    rw [List.length_take] at hk
    rw [List.getElem_take]
    exact h.ents b off e k (by omega) j hj⟩
/-- What holds when j entries are looked at and i of them are left. -/
structure DelInv (F : Nat → Prop) (g : Nat) (w : World) (r : Row) (q : Ent → Bool) (l : List Ent) (i j : Nat) (wr : World) : Prop where
  lt : i < j
  row : ∃ M : List Ent, M.length = l.length ∧ RowAt F wr r M ∧ M.take i = (l.take j).filter q ∧ M.drop j = l.drop j
  sp : Spares (fun b => b = g) w wr
  rest : ∀ F2 r2 l2, RowAt F2 w r2 l2 → r2.apart r → RowAt F2 wr r2 l2
theorem DelInv.start {F : Nat → Prop} {g : Nat} {w : World} {r : Row} {q : Ent → Bool} {l : List Ent} (h : RowAt F w r l) {k : Nat} (hk : k < l.length) (hq : q l[k] = false) (hb : ∀ j (hj : j < k), q (l[j]'(by omega)) = true) {wr : World} (hs : Spares nowhere w wr) : DelInv F g w r q l k (k + 1) wr := by
  refine ⟨by omega, ⟨l, rfl, h.spares hs (fun _ _ _ h => h), ?_, rfl⟩, hs.mono (fun _ h => h.elim), fun F2 r2 l2 h2 _ => h2.spares hs (fun _ _ _ h => h)⟩
  rw [List.take_succ_eq_append_getElem hk, List.filter_append, List.filter_eq_self.2 ?_]
  · simp [hq]
  · intro a ha
    obtain ⟨i, hi, rfl⟩ := List.mem_iff_getElem.1 ha
    rw [List.length_take] at hi
    rw [List.getElem_take]
    exact hb i (by omega)
theorem DelInv.at {F : Nat → Prop} {g : Nat} {w : World} {r : Row} {q : Ent → Bool} {l : List Ent} {i j : Nat} {wr : World} (h : DelInv F g w r q l i j wr) {off : Nat} (hra : r.a = some (g, off)) (hj : j < l.length) : ∀ m, m < 4 → wr.cell? ⟨g, off + j * 4 + m, none⟩ = (entCells l[j])[m]? := by
  obtain ⟨M, hM, hr, _, hd⟩ := h.row
  intro m hm
  rw [hr.ents g off hra j (by omega) m hm]
  have e : M[j]'(by omega) = l[j] := by
    have := congrArg (fun x => x[0]?) hd
    simp only [List.getElem?_drop, Nat.add_zero] at this
    rw [List.getElem?_eq_getElem (by omega), List.getElem?_eq_getElem hj] at this
    injection this
  rw [e]
theorem DelInv.spares {F : Nat → Prop} {g : Nat} {w : World} {r : Row} {q : Ent → Bool} {l : List Ent} {i j : Nat} {wr wn : World} (h : DelInv F g w r q l i j wr) (hs : Spares nowhere wr wn) : DelInv F g w r q l i j wn := by
  obtain ⟨M, hM, hr, hf, hd⟩ := h.row
  exact ⟨h.lt, ⟨M, hM, hr.spares hs (fun _ _ _ h => h), hf, hd⟩, h.sp.trans' hs (fun _ h => h.elim), fun F2 r2 l2 h2 ha => (h.rest F2 r2 l2 h2 ha).spares hs (fun _ _ _ h => h)⟩
theorem DelInv.skip {F : Nat → Prop} {g : Nat} {w : World} {r : Row} {q : Ent → Bool} {l : List Ent} {i j : Nat} {wr : World} (h : DelInv F g w r q l i j wr) (hj : j < l.length) (hq : q l[j] = false) : DelInv F g w r q l i (j + 1) wr := by
  obtain ⟨M, hM, hr, hf, hd⟩ := h.row
  have := h.lt
  refine ⟨by omega, ⟨M, hM, hr, ?_, ?_⟩, h.sp, h.rest⟩
  · rw [hf, List.take_succ_eq_append_getElem hj, List.filter_append]
    simp [hq]
  · have := congrArg (List.drop 1) hd
    rwa [List.drop_drop, List.drop_drop] at this
theorem DelInv.keep {F : Nat → Prop} {g : Nat} {w : World} {r : Row} {q : Ent → Bool} {l : List Ent} {i j : Nat} {wr : World} (h : DelInv F g w r q l i j wr) {off : Nat} (hra : r.a = some (g, off)) (hj : j < l.length) (hq : q l[j] = true) : DelInv F g w r q l (i + 1) (j + 1) (wr.setCells g (off + i * 4) (entCells l[j])) := by
  obtain ⟨M, hM, hr, hf, hd⟩ := h.row
  have := h.lt
  refine ⟨by omega, ⟨M.set i l[j], by rw [List.length_set]; exact hM, hr.turn hra l[j] (by omega), ?_, ?_⟩, spares_cells _ _ h.sp, fun F2 r2 l2 h2 ha => (h.rest F2 r2 l2 h2 ha).sets g _ _ fun b o e => ?_⟩
  · rw [List.take_succ_eq_append_getElem (by rw [List.length_set]; omega), List.getElem_set_self, List.take_set_of_le (Nat.le_refl _), hf, List.take_succ_eq_append_getElem hj, List.filter_append]
    simp [hq]
  · rw [List.drop_set_of_lt (by omega)]
    have := congrArg (List.drop 1) hd
    rwa [List.drop_drop, List.drop_drop] at this
  · have h1 := ha b o g off e hra
    have h2 := hr.le
    have h4 : (entCells l[j]).length = 4 := rfl
    rw [h4]
    omega
theorem DelInv.done {F : Nat → Prop} {g : Nat} {w : World} {r : Row} {q : Ent → Bool} {l : List Ent} {i : Nat} {wr : World} (h : DelInv F g w r q l i l.length wr) {off : Nat} (hra : r.a = some (g, off)) : i = (l.filter q).length ∧ RowAt F (wr.setCells g (off + i * 4) (rowCells (List.replicate (l.length - i) Ent.zero))) r (l.filter q) ∧
    Spares (fun b => b = g) w (wr.setCells g (off + i * 4) (rowCells (List.replicate (l.length - i) Ent.zero))) ∧ ∀ F2 r2 l2, RowAt F2 w r2 l2 → r2.apart r → RowAt F2 (wr.setCells g (off + i * 4) (rowCells (List.replicate (l.length - i) Ent.zero))) r2 l2 := by
  obtain ⟨M, hM, hr, hf, _⟩ := h.row
  have hlt := h.lt
  rw [List.take_length] at hf
  have hi : i = (l.filter q).length := by rw [← hf, List.length_take]; omega
  have h1 := hr.take i
  rw [hf] at h1
  refine ⟨hi, h1.behind hra _ _ (by rw [← hi]; exact Nat.le_refl _), spares_cells _ _ h.sp, fun F2 r2 l2 h2 ha => (h.rest F2 r2 l2 h2 ha).sets g _ _ fun b o e => ?_⟩
  have h3 := ha b o g off e hra
  have h2 := hr.le
  have h4 := rowCells_len (List.replicate (l.length - i) Ent.zero)
  rw [List.length_replicate] at h4
  rw [h4]
  omega
theorem DelInv.there {F : Nat → Prop} {g : Nat} {w : World} {r : Row} {q : Ent → Bool} {l : List Ent} {i j : Nat} {wr : World} (h : DelInv F g w r q l i j wr) {off : Nat} (hra : r.a = some (g, off)) : ∀ m, m < r.cap * 4 → (wr.cell? ⟨g, off + m, none⟩).isSome = true ∧ wr.frozen? ⟨g, off + m, none⟩ = false := by
  obtain ⟨M, hM, hr, _, _⟩ := h.row
  exact fun m hm => (hr.room g off hra).2.cell _ (by omega)
def DelFPost (F : Nat → Prop) (g : Nat) (r : Row) (l' : List Ent) (w : World) (e : Ending) (w' : World) : Prop :=
  e = .returned (.slice r.ad l'.length r.cap) ∧ RowAt F w' r l' ∧ Spares (fun b => b = g) w w' ∧ ∀ F2 r2 l2, RowAt F2 w r2 l2 → r2.apart r → RowAt F2 w' r2 l2
set_option maxRecDepth 100000 in
set_option maxHeartbeats 4000000 in
theorem delFunc_any (F : Nat → Prop) (f t turn bf bt bn g off : Nat) (r : Row) (l : List Ent) (w : World) (h : RowAt F w r l) (hra : r.a = some (g, off)) (hc : r.cap ≤ 1000) (hok : ∀ e ∈ l, e.ok) (hf : f < 4294967296)
    (cf : w.cell? ⟨bf, 0, none⟩ = some (.int .u32 f)) (ct : w.cell? ⟨bt, 0, none⟩ = some (.int .u32 t)) (cn : w.cell? ⟨bn, 0, none⟩ = some (.int .u64 turn)) (nf : bf ≠ g) (nt : bt ≠ g) (nn : bn ≠ g) :
    Calls Try.prog 39 #[.slice (some ⟨g, off, none⟩) l.length r.cap, goneV bf bt bn] w (DelFPost F g r (leftF f t turn l) w) := by
  have hle := h.le
  have hroom := (h.room g off hra).2
  have HQ : Hid (∀ e, goneF f t turn e = true → (!goneF f t turn e) = false) := Lib.hid (fun e h => by rw [h]; rfl)
  have HQ' : Hid (∀ e, goneF f t turn e = false → (!goneF f t turn e) = true) := Lib.hid (fun e h => by rw [h]; rfl)
  have C0 := Lib.hid (index_any f t turn bf bt bn g off r.cap l w (by omega) hok hf cf ct cn (fun k hk j hj => h.ents g off hra k hk j hj))
  have HCC : Hid (∀ W, Spares (fun b => b = g) w W → ∀ k (h : k < l.length), Calls Try.prog 38 #[entV l[k], .pointer (some ⟨bf, 0, none⟩), .pointer (some ⟨bt, 0, none⟩), .pointer (some ⟨bn, 0, none⟩)] W fun e' w' => e' = .returned (.bool (goneF f t turn l[k])) ∧ Spares nowhere W w') := Lib.hid (fun W hW k h =>
    gone_any l[k] f t turn bf bt bn W (hok _ (List.getElem_mem h)) hf ((hW.cell (p := ⟨bf, 0, none⟩) (cellB_lt cf) nf).trans cf) ((hW.cell (p := ⟨bt, 0, none⟩) (cellB_lt ct) nt).trans ct) ((hW.cell (p := ⟨bn, 0, none⟩) (cellB_lt cn) nn).trans cn))
  have HH := Lib.hid h
  have HRA := Lib.hid hra
  obtain ⟨L, hL⟩ : ∃ L, l.length = L := ⟨_, rfl⟩
  obtain ⟨c, hcc⟩ : ∃ c, r.cap = c := ⟨_, rfl⟩
  have hAd : r.ad = some ⟨g, off, none⟩ := by unfold Row.ad; rw [hra]; rfl
  unfold DelFPost
  rw [hAd]
  rw [hL, hcc] at hle C0 ⊢
  rw [hcc] at hc
  have HL := Lib.hid hL
  have HCP := Lib.hid hcc
  clear h hok cf ct cn hL hcc hra nf nt nn hroom hAd
  unfold goneV at C0 ⊢
  go_enter Try.func39, Try.ntmps39
  go_wp2_with fail
  refine C0.out.mono ?_
  rintro e w1 ⟨hs1, hcase⟩
  have HS1 := Lib.hid hs1
  clear hs1
  rcases hcase with ⟨k, hk, rfl, hgk, hbk⟩ | ⟨rfl, hall⟩
  · have i0 : ((k : Int) == -1) = false := by simp
    have HI : Hid (DelInv F g w r (fun e => !goneF f t turn e) l k (k + 1) w1) := Lib.hid (DelInv.start HH.out hk (HQ.out _ hgk) (fun j hj => HQ'.out _ (hbk j hj)) HS1.out)
    have hkL : k < L := by rw [← HL.out]; exact hk
    clear hgk hbk hk
    have w0 : IntKind.i64.wrap ((k : Int) + 1) = (k : Int) + 1 := by rw [IntKind.wrap_i64]; omega
    go_wp2
    go_loopw [5, 6] (fun i j wr => ∃ a b : Nat, a < b ∧ b ≤ L ∧ i = .int .i64 a ∧ j = .int .i64 b ∧ Hid (DelInv F g w r (fun e => !goneF f t turn e) l a b wr)) (fun _ j _ => L - (intOf j).toNat)
    case atStart => exact ⟨k, k + 1, by omega, by omega, rfl, by simp, HI⟩
    case round =>
      obtain ⟨a, b, hab, hbL, rfl, rfl, HI⟩ := hrel
      by_cases hlt : b < L
      · have hbl : b < l.length := by rw [HL.out]; exact hlt
        have CC := fun W (hW : Spares nowhere wr W) => HCC.out W (HI.out.sp.trans' hW (fun _ h => h.elim)) b hbl
        have cE := HI.out.at HRA.out hbl
        have HK := Lib.hid (fun W (hW : Spares nowhere wr W) => (HI.out.spares hW).keep HRA.out hbl)
        have HSK := Lib.hid (fun W (hW : Spares nowhere wr W) => (HI.out.spares hW).skip hbl)
        have HTH := Lib.hid (fun W (hW : Spares nowhere wr W) => (HI.out.spares hW).there HRA.out)
        obtain ⟨x, hx⟩ : ∃ x, l[b] = x := ⟨_, rfl⟩
        obtain ⟨r9, hr9⟩ : ∃ r9, goneF f t turn x = r9 := ⟨_, rfl⟩
        rw [hx] at CC cE HK HSK
        rw [hr9] at CC
        obtain ⟨v, hv⟩ : ∃ v, wr.alloc (.cells #[.int .u16 x.tag, .int .u32 x.at_, .int .u16 x.sec, .int .u64 x.turn] 41) = v := ⟨_, rfl⟩
        have hsv : Spares nowhere wr v := by rw [← hv]; exact (Spares.refl _ wr).alloc _
        have hcv : ∀ W, Spares nowhere v W → ∀ m, m < 4 → W.cell? ⟨wr.heap.size, 0 + m, none⟩ = (entCells x)[m]? := fun W hW m hm => by
          have h0 := heap_alloc_new wr (.cells #[.int .u16 x.tag, .int .u32 x.at_, .int .u16 x.sec, .int .u64 x.turn] 41)
          rw [hv] at h0
          rw [Lib.cell_of_heap (hW.heap h0 (fun h => h)), Nat.zero_add]
          simp [entCells]
        have HCV := Lib.hid hcv
        have CV := Lib.hid (CC v hsv)
        have HSV := Lib.hid hsv
        have HV := Lib.hid hv
        have HX := Lib.hid hx
        have HR9 := Lib.hid hr9
        obtain ⟨t0, ht0⟩ : ∃ t0, x.tag = t0 := ⟨_, rfl⟩
        obtain ⟨t1, ht1⟩ : ∃ t1, x.at_ = t1 := ⟨_, rfl⟩
        obtain ⟨t2, ht2⟩ : ∃ t2, x.sec = t2 := ⟨_, rfl⟩
        obtain ⟨t3, ht3⟩ : ∃ t3, x.turn = t3 := ⟨_, rfl⟩
        have HEC : Hid (entCells x = [.int .u16 t0, .int .u32 t1, .int .u16 t2, .int .u64 t3]) := Lib.hid (by unfold entCells; rw [ht0, ht1, ht2, ht3])
        have e0 : wr.cell? ⟨g, off + b * 4, none⟩ = some (.int .u16 t0) := by rw [← ht0]; exact cE 0 (by omega)
        have e1 : wr.cell? ⟨g, off + b * 4 + 1, none⟩ = some (.int .u32 t1) := by rw [← ht1]; exact cE 1 (by omega)
        have e2 : wr.cell? ⟨g, off + b * 4 + 2, none⟩ = some (.int .u16 t2) := by rw [← ht2]; exact cE 2 (by omega)
        have e3 : wr.cell? ⟨g, off + b * 4 + 3, none⟩ = some (.int .u64 t3) := by rw [← ht3]; exact cE 3 (by omega)
        unfold entV at CV
        rw [ht0, ht1, ht2, ht3] at CV HV
        have w1' : IntKind.i64.wrap ((b : Int) + 1) = (b : Int) + 1 := by rw [IntKind.wrap_i64]; omega
        have w2' : IntKind.i64.wrap ((a : Int) + 1) = (a : Int) + 1 := by rw [IntKind.wrap_i64]; omega
        clear CC cE hv hsv hcv hx hr9 ht0 ht1 ht2 ht3
        go_wp2_with fail
        rw [HV.out]
        refine CV.out.mono ?_
        rintro e w2 ⟨rfl, hs2⟩
        have HS2 := Lib.hid (HSV.out.trans hs2)
        have HCW := Lib.hid (HCV.out w2 hs2)
        clear hs2 e0 e1 e2 e3 CV
        cases r9 with
        | true =>
          go_wp2
          go_roundw
          case rel => exact ⟨a, b + 1, by omega, by omega, rfl, rfl, Lib.hid (HSK.out w2 HS2.out (HQ.out _ HR9.out))⟩
          case measure => simp [intOf]; omega
        | false =>
          have hT1 := HTH.out w2 HS2.out
          rw [HCP.out] at hT1
          have HTR : Hid (w2.there g (off + a * 4) 4) := Lib.hid (fun j hj => by
            have := hT1 (a * 4 + j) (by omega)
            rwa [show off + (a * 4 + j) = off + a * 4 + j by omega] at this)
          have hcw := HCW.out
          rw [HEC.out] at hcw
          have d0 : w2.cell? ⟨wr.heap.size, 0, none⟩ = some (.int .u16 t0) := hcw 0 (by omega)
          have d1 : w2.cell? ⟨wr.heap.size, 1, none⟩ = some (.int .u32 t1) := hcw 1 (by omega)
          have d2 : w2.cell? ⟨wr.heap.size, 2, none⟩ = some (.int .u16 t2) := hcw 2 (by omega)
          have d3 : w2.cell? ⟨wr.heap.size, 3, none⟩ = some (.int .u64 t3) := hcw 3 (by omega)
          have HIF : Hid ((Try.prog.info? 41).map (·.size) = some 4) := Lib.hid (by kernel_rfl)
          have haL : a < L := by omega
          have HON : Hid ((#[.int .u16 t0, .int .u32 t1, .int .u16 t2, .int .u64 t3] : Array Value).all (·.oneCell') = true) := Lib.hid (all_oneCell_toArray (cs := [.int .u16 t0, .int .u32 t1, .int .u16 t2, .int .u64 t3]) (by rw [← HEC.out, ← rowCells_single]; exact rowCells_one _))
          clear hT1 hcw
          go_wp2_with ((with_reducible show wpList _ _ _ (⟨none, .store 41 _ _, _, _, _, _⟩ :: _) _ _); refine wpList_store_mid rfl 41 (.tmp 33) (.tmp 32) rfl g (off + a * 4) #[.int .u16 t0, .int .u32 t1, .int .u16 t2, .int .u64 t3] rfl rfl HTR.out HIF.out HON.out ?_)
          go_roundw
          case rel =>
            have hfin := HK.out w2 HS2.out (HQ'.out _ HR9.out)
            rw [HEC.out] at hfin
            exact ⟨a + 1, b + 1, by omega, by omega, rfl, rfl, Lib.hid hfin⟩
          case measure => simp [intOf]; omega
      · obtain rfl : b = L := by omega
        have HT := Lib.hid (HI.out.there HRA.out)
        have HI' := HI
        rw [← HL.out] at HI'
        have HD := Lib.hid (HI'.out.done HRA.out)
        have hcl : ∀ ty, (Builtin.clear_ #[38] ty #[.slice (some ⟨g, off + a * 4, none⟩) (b - a) (c - a)]).run Try.prog wr = .ok (.tuple #[]) (wr.setCells g (off + a * 4) (rowCells (List.replicate (b - a) Ent.zero))) := fun ty =>
          clear_ents wr ty g (off + a * 4) (b - a) _ (by omega) (fun j hj => by
            have := HT.out (a * 4 + j) (by rw [HCP.out]; omega)
            rwa [show off + (a * 4 + j) = off + a * 4 + j by omega] at this)
        have hac : ¬ c = a := by omega
        clear HI' HI
        go_wp2
        go_ret
        obtain ⟨h1, h2, h3, h4⟩ := HD.out
        rw [HL.out] at h2 h3 h4
        unfold leftF
        rw [← h1]
        exact ⟨rfl, h2, h3, h4⟩
  · have i0 : ((-1 : Int) == -1) = true := rfl
    go_wp2
    go_ret
    have hq : leftF f t turn l = l := by
      unfold leftF
      refine List.filter_eq_self.2 fun a ha => ?_
      obtain ⟨i, hi, rfl⟩ := List.mem_iff_getElem.1 ha
      exact HQ'.out _ (hall i hi)
    rw [hq, HL.out]
    exact ⟨rfl, HH.out.spares HS1.out (fun _ _ _ h => h), HS1.out.mono (fun _ h => h.elim), fun F2 r2 l2 h2 _ => h2.spares HS1.out (fun _ _ _ h => h)⟩
end Go.Proofs.Ytihbjkdgfflnfaa
namespace Go.Proofs.Ytihbjkdgfflnfaa
open Go.RowKit

def sweepF (f t turn : Nat) (E : List (List Ent)) : List (List Ent) := E.map (leftF f t turn)
def sweepK (f t turn : Nat) (E : List (List Ent)) (k : Nat) : List (List Ent) := (E.take k).map (leftF f t turn) ++ E.drop k
theorem sweepK_zero (f t turn : Nat) (E : List (List Ent)) : sweepK f t turn E 0 = E := by simp [sweepK]
theorem sweepK_all (f t turn : Nat) (E : List (List Ent)) : sweepK f t turn E E.length = sweepF f t turn E := by simp [sweepK, sweepF]
theorem sweepK_len (f t turn : Nat) (E : List (List Ent)) (k : Nat) : (sweepK f t turn E k).length = E.length := by simp [sweepK]; omega
theorem sweepK_at (f t turn : Nat) (E : List (List Ent)) (k : Nat) (h : k < E.length) : (sweepK f t turn E k)[k]? = some E[k] := by
  unfold sweepK
  rw [List.getElem?_append_right (by simp; omega), List.getElem?_drop]
  simp [Nat.min_eq_left (Nat.le_of_lt h), h]
theorem sweepK_next (f t turn : Nat) (E : List (List Ent)) (k : Nat) (h : k < E.length) : (sweepK f t turn E k).set k (leftF f t turn E[k]) = sweepK f t turn E (k + 1) := by
  unfold sweepK
  have hl : ((E.take k).map (leftF f t turn)).length = k := by simp; omega
  rw [List.set_append_right _ _ (by omega), hl, Nat.sub_self, List.drop_eq_getElem_cons h, List.set_cons_zero, List.take_succ_eq_append_getElem h, List.map_append, List.append_assoc]
  rfl
theorem leftF_len (f t turn : Nat) (l : List Ent) : (leftF f t turn l).length ≤ l.length := List.length_filter_le _ _
theorem leftF_ok {f t turn : Nat} {l : List Ent} (h : ∀ e ∈ l, e.ok) : ∀ e ∈ leftF f t turn l, e.ok := fun e he => h e (List.mem_filter.1 he).1
/-- How many a sweep takes. -/
def goneN (f t turn : Nat) (E : List (List Ent)) : Nat := (E.map fun r => r.length - (leftF f t turn r).length).sum
theorem goneN_take {f t turn : Nat} {E : List (List Ent)} {i : Nat} (h : i < E.length) : goneN f t turn (E.take (i + 1)) = goneN f t turn (E.take i) + (E[i].length - (leftF f t turn E[i]).length) := by
  unfold goneN; rw [List.take_succ_eq_append_getElem h, List.map_append, List.sum_append]; simp only [List.map_cons, List.map_nil, List.sum_cons, List.sum_nil, Nat.add_zero]
theorem goneN_le (f t turn : Nat) (E : List (List Ent)) : goneN f t turn E ≤ lenF E := by
  unfold goneN lenF
  induction E with
  | nil => simp
  | cons x E ih => simp only [List.map_cons, List.sum_cons]; omega
/-- A bucket's row turned in its own room. -/
theorem turn_dir {F : Nat → Prop} {p bk n s : Nat} {R : Nat → Row} {E : List (List Ent)} {w w1 : World} (h : IsDir F p bk n s R E w) {b : Nat} (hb : b < n) {g off : Nat} (hR : (R b).a = some (g, off)) {l' : List Ent} (hr : RowAt F w1 (R b) l') (hsp : Spares (fun k => k = g) w w1)
    (hrest : ∀ F2 r2 l2, RowAt F2 w r2 l2 → r2.apart (R b) → RowAt F2 w1 r2 l2) (hok : ∀ e ∈ l', e.ok) :
    IsDir F p bk n s R (E.set b l') (w1.setCell ⟨bk, b, none⟩ (.slice (some ⟨g, off, none⟩) l'.length s)) := by
  have hE : b < E.length := by rw [h.rows.len]; exact hb
  have hcap := (h.cap b hb).1
  have hgbk := h.rows.off b hb g off hR
  have hgp := h.offp b hb g off hR
  have hp := h.rows.put (w1 := w1) (F' := F) hb (fun _ h => h) (hsp.block bk h.rows.lt (fun e => hgbk e.symm))
    (fun j hj hne => hrest _ _ _ (h.rows.row j hj) (h.rows.apart j b (by rw [← h.rows.len]; exact hj) hb hne)) (R b) l' hr (fun j hj hne => h.rows.apart b j hb hj (fun e => hne e.symm)) (fun b' o' e => h.rows.off b hb b' o' e) hok
  have e1 : (fun j => if j = b then R b else R j) = R := by
    funext j
    by_cases e : j = b
    · rw [if_pos e, e]
    · rw [if_neg e]
  have e2 : (R b).ad = some ⟨g, off, none⟩ := by unfold Row.ad; rw [hR]; rfl
  rw [e1, e2, hcap] at hp
  refine ⟨?_, hp, h.inF, h.ne, h.offp, h.n0, h.n1, h.s0, h.s1, h.cap⟩
  rw [Below.heap_setCell _ _ _ _ (fun e => h.ne e), hsp.block p (Array.getElem?_eq_some_iff.1 h.hd).1 (fun e => hgp e.symm)]
  exact h.hd
def PurgePost (F : Nat → Prop) (p bk n s : Nat) (R : Nat → Row) (E : List (List Ent)) (f t turn : Nat) (w : World) (e : Ending) (w' : World) : Prop :=
  e = .returned (.int .i64 (goneN f t turn E : Nat)) ∧ Spares F w w' ∧ IsDir F p bk n s R (sweepF f t turn E) w'
/-- What holds when k rows are swept. -/
structure SwInv (F : Nat → Prop) (p bk n s : Nat) (R : Nat → Row) (E : List (List Ent)) (f t turn : Nat) (w : World) (k : Nat) (wr : World) : Prop where
  dir : IsDir F p bk n s R (sweepK f t turn E k) wr
  sp : Spares F w wr
  bf : wr.cell? ⟨w.heap.size, 0, none⟩ = some (.int .u32 f)
  bt : wr.cell? ⟨w.heap.size + 1, 0, none⟩ = some (.int .u32 t)
  bn : wr.cell? ⟨w.heap.size + 1 + 1, 0, none⟩ = some (.int .u64 turn)
theorem SwInv.spares {F : Nat → Prop} {p bk n s : Nat} {R : Nat → Row} {E : List (List Ent)} {f t turn : Nat} {w : World} {k : Nat} {wr W : World} (h : SwInv F p bk n s R E f t turn w k wr) (hs : Spares nowhere wr W) : SwInv F p bk n s R E f t turn w k W :=
  ⟨h.dir.spares hs (fun _ _ _ h => h), h.sp.trans' hs (fun _ h => h.elim), (hs.cell (p := ⟨_, 0, none⟩) (cellB_lt h.bf) (fun h => h)).trans h.bf, (hs.cell (p := ⟨_, 0, none⟩) (cellB_lt h.bt) (fun h => h)).trans h.bt, (hs.cell (p := ⟨_, 0, none⟩) (cellB_lt h.bn) (fun h => h)).trans h.bn⟩
theorem SwInv.next {F : Nat → Prop} {p bk n s : Nat} {R : Nat → Row} {E : List (List Ent)} {f t turn : Nat} {w : World} {k : Nat} {wr w1 : World} (h : SwInv F p bk n s R E f t turn w k wr) (hF : ∀ b, F b → b < w.heap.size) (hk : k < n) (hE : E.length = n) {g off : Nat} (hR : (R k).a = some (g, off)) (hE' : k < E.length)
    {e : Ending} (hp : DelFPost F g (R k) (leftF f t turn E[k]) wr e w1) : e = .returned (.slice (some ⟨g, off, none⟩) (leftF f t turn E[k]).length s) ∧ w1.cell? ⟨p, 1, none⟩ = some (.slice (some ⟨bk, 0, none⟩) n n) ∧ w1.cell? ⟨bk, k, none⟩ = wr.cell? ⟨bk, k, none⟩ ∧ w1.frozen? ⟨bk, k, none⟩ = false ∧
      SwInv F p bk n s R E f t turn w (k + 1) (w1.setCell ⟨bk, k, none⟩ (.slice (some ⟨g, off, none⟩) (leftF f t turn E[k]).length s)) := by
  obtain ⟨rfl, hr, hsp, hrest⟩ := hp
  have hat := sweepK_at f t turn E k hE'
  have hKl := sweepK_len f t turn E k
  have hrow : (sweepK f t turn E k)[k]'(by omega) = E[k] := by
    rw [List.getElem?_eq_getElem (by omega)] at hat
    injection hat
  have hok : ∀ e ∈ E[k], e.ok := h.dir.rows.ok _ (by rw [← hrow]; exact List.getElem_mem _)
  have hgF : F g := ((h.dir.rows.row k (by omega)).room g off hR).1
  have hgl := hF g hgF
  have hgbk := h.dir.rows.off k hk g off hR
  have hgp := h.dir.offp k hk g off hR
  have hbl := hF bk h.dir.rows.inF
  have hd := turn_dir h.dir hk hR hr hsp hrest (leftF_ok hok)
  rw [sweepK_next f t turn E k hE'] at hd
  have e2 : (R k).ad = some ⟨g, off, none⟩ := by unfold Row.ad; rw [hR]; rfl
  have hc : w1.cell? ⟨bk, k, none⟩ = wr.cell? ⟨bk, k, none⟩ := hsp.cell (p := ⟨bk, k, none⟩) h.dir.rows.lt (fun e => hgbk e.symm)
  have hh := hsp.block bk h.dir.rows.lt (fun e => hgbk e.symm)
  have hz := (h.dir.rows.cell k (by omega))
  have hpc : wr.cell? ⟨p, 1, none⟩ = some (.slice (some ⟨bk, 0, none⟩) n n) := by rw [Lib.cell_of_heap h.dir.hd]; rfl
  obtain ⟨cur, hg, _, _⟩ := h.dir.rows.blk
  have keep : ∀ b u, w.heap.size ≤ b → wr.cell? ⟨b, 0, none⟩ = some u → (w1.setCell ⟨bk, k, none⟩ (.slice (some ⟨g, off, none⟩) (leftF f t turn E[k]).length s)).cell? ⟨b, 0, none⟩ = some u := fun b u hb hu => by
    rw [World.cell?_of_block (a := ⟨b, 0, none⟩) (Below.heap_setCell w1 _ _ b (by simp only; omega)), hsp.cell (p := ⟨b, 0, none⟩) (cellB_lt hu) (by simp only; omega)]
    exact hu
  refine ⟨by rw [e2, (h.dir.cap k hk).1], (hsp.cell (p := ⟨p, 1, none⟩) (cellB_lt hpc) (fun e => hgp e.symm)).trans hpc, hc, Lib.frozen_of_heap (hh.trans hg) k, hd, ?_, keep _ _ (Nat.le_refl _) h.bf, keep _ _ (by omega) h.bt, keep _ _ (by omega) h.bn⟩
  exact (h.sp.trans' hsp (fun b e => .inl (by rw [e]; exact hgF))).setCell (p := ⟨bk, k, none⟩) (.inl h.dir.rows.inF) _
set_option maxRecDepth 100000 in
set_option maxHeartbeats 4000000 in
theorem purge_any (F : Nat → Prop) (p bk n s : Nat) (R : Nat → Row) (E : List (List Ent)) (f t turn : Nat) (w : World) (h : IsDir F p bk n s R E w) (hF : ∀ b, F b → b < w.heap.size) (hf : f < 4294967296) :
    Calls Try.prog 20 #[.pointer (some ⟨p, 0, none⟩), .int .u32 f, .int .u32 t, .int .u64 turn] w (PurgePost F p bk n s R E f t turn w) := by
  have hEn := h.rows.len
  have hn1 := h.n1
  have hmax : lenF E ≤ 65536 := Nat.le_trans (lenF_le E s h.lens) (by rw [hEn]; exact Nat.le_trans (Nat.mul_le_mul h.n1 h.s1) (by omega))
  obtain ⟨v, hv⟩ : ∃ v, ((w.alloc (.cells #[.int .u32 f] 31)).alloc (.cells #[.int .u32 t] 31)).alloc (.cells #[.int .u64 turn] 32) = v := ⟨_, rfl⟩
  have hs : Spares nowhere w v := by rw [← hv]; exact (((Spares.refl _ w).alloc _).alloc _).alloc _
  have cp : v.cell? ⟨p, 1, none⟩ = some (.slice (some ⟨bk, 0, none⟩) n n) := by rw [Lib.cell_of_heap (h.spares hs (fun _ _ _ h => h)).hd]; rfl
  have hI : SwInv F p bk n s R E f t turn w 0 v := by
    refine ⟨by rw [sweepK_zero]; exact h.spares hs (fun _ _ _ h => h), hs.mono (fun _ h => h.elim), ?_, ?_, ?_⟩
    · rw [← hv, World.cell?_of_block (Below.heap_alloc _ _ _ (by simp; omega)), World.cell?_of_block (Below.heap_alloc _ _ _ (by simp)), Lib.cell_of_heap (heap_alloc_new w _)]; rfl
    · have h2 := heap_alloc_new (w.alloc (.cells #[.int .u32 f] 31)) (.cells #[.int .u32 t] 31)
      rw [show (w.alloc (.cells #[.int .u32 f] 31)).heap.size = w.heap.size + 1 by simp] at h2
      rw [← hv, World.cell?_of_block (Below.heap_alloc _ _ _ (by simp)), Lib.cell_of_heap h2]; rfl
    · have h3 := heap_alloc_new ((w.alloc (.cells #[.int .u32 f] 31)).alloc (.cells #[.int .u32 t] 31)) (.cells #[.int .u64 turn] 32)
      rw [show ((w.alloc (.cells #[.int .u32 f] 31)).alloc (.cells #[.int .u32 t] 31)).heap.size = w.heap.size + 1 + 1 by simp] at h3
      rw [← hv, Lib.cell_of_heap h3]; rfl
  have HV := Lib.hid hv
  have HI0 := Lib.hid hI
  have HF := Lib.hid hF
  have HSH : Hid (∀ i, i < n → (R i).cap = s ∧ ∃ x, (R i).a = some x) := Lib.hid h.cap
  have hs16 := h.s1
  clear hv hI hF hs h
  go_enter Try.func20, Try.ntmps20
  go_upto_region 3 with (fail)
  rw [HV.out]
  go_wp2
  go_loopw [9, 19] (fun m i wr => ∃ k : Nat, k ≤ n ∧ i = .int .i64 k ∧ m = .int .i64 (goneN f t turn (E.take k) : Nat) ∧ Hid (SwInv F p bk n s R E f t turn w k wr)) (fun _ i _ => n - (intOf i).toNat)
  case atStart => exact ⟨0, by omega, rfl, rfl, HI0⟩
  case round =>
    obtain ⟨k, hk, rfl, rfl, HI⟩ := hrel
    by_cases hlt : k < n
    · have hkE : k < E.length := by omega
      obtain ⟨hcp, ⟨g, off⟩, hRa⟩ := HSH.out k hlt
      have hgF : F g := ((HI.out.dir.rows.row k (by rw [sweepK_len]; exact hkE)).room g off hRa).1
      have hgl := HF.out g hgF
      have hrow : (sweepK f t turn E k)[k]'(by rw [sweepK_len]; exact hkE) = E[k] := by
        have hat := sweepK_at f t turn E k hkE
        rw [List.getElem?_eq_getElem (by rw [sweepK_len]; exact hkE)] at hat
        injection hat
      have hok : ∀ e ∈ E[k], e.ok := HI.out.dir.rows.ok _ (by rw [← hrow]; exact List.getElem_mem _)
      have c1 : wr.cell? ⟨p, 1, none⟩ = some (.slice (some ⟨bk, 0, none⟩) n n) := by rw [Lib.cell_of_heap HI.out.dir.hd]; rfl
      have c2 : wr.cell? ⟨bk, k, none⟩ = some (.slice (some ⟨g, off, none⟩) E[k].length s) := by
        have := (HI.out.dir.rows.cell k (by rw [sweepK_len]; exact hkE)).1
        rw [this, hrow, hcp]
        simp [Row.ad, hRa]
      have hra : RowAt F wr (R k) E[k] := by rw [← hrow]; exact HI.out.dir.rows.row k _
      have C : Hid (∀ W, Spares nowhere wr W → Calls Try.prog 39 #[.slice (some ⟨g, off, none⟩) E[k].length s, goneV w.heap.size (w.heap.size + 1) (w.heap.size + 1 + 1)] W fun e w1 =>
          e = .returned (.slice (some ⟨g, off, none⟩) (leftF f t turn E[k]).length s) ∧ w1.cell? ⟨p, 1, none⟩ = some (.slice (some ⟨bk, 0, none⟩) n n) ∧ w1.cell? ⟨bk, k, none⟩ = some (.slice (some ⟨g, off, none⟩) E[k].length s) ∧ w1.frozen? ⟨bk, k, none⟩ = false ∧
          Hid (SwInv F p bk n s R E f t turn w (k + 1) (w1.setCell ⟨bk, k, none⟩ (.slice (some ⟨g, off, none⟩) (leftF f t turn E[k]).length s)))) := Lib.hid (fun W hW => by
        have hI := HI.out.spares hW
        have := delFunc_any F f t turn w.heap.size (w.heap.size + 1) (w.heap.size + 1 + 1) g off (R k) E[k] W (hra.spares hW (fun _ _ _ h => h)) hRa (by rw [hcp]; omega) hok hf hI.bf hI.bt hI.bn (by omega) (by omega) (by omega)
        rw [hcp] at this
        exact this.mono fun e w1 h1 => by
          obtain ⟨h2, h3, h4, h5, h6⟩ := hI.next HF.out hlt hEn hRa hkE h1
          exact ⟨h2, h3, h4.trans ((hW.cell (p := ⟨bk, k, none⟩) (cellB_lt c2) (fun h => h)).trans c2), h5, Lib.hid h6⟩)
      obtain ⟨l0, hl0⟩ : ∃ l0, E[k].length = l0 := ⟨_, rfl⟩
      obtain ⟨l1, hl1⟩ : ∃ l1, (leftF f t turn E[k]).length = l1 := ⟨_, rfl⟩
      rw [hl0] at c2
      rw [hl0, hl1] at C
      unfold goneV at C
      have hra' := hra
      clear hra hok hrow
      have hsum := goneN_take (f := f) (t := t) (turn := turn) (E := E) hkE
      have hle9 : goneN f t turn (E.take k) ≤ 65536 := Nat.le_trans (goneN_le _ _ _ _) (Nat.le_trans (lenF_mono E k) hmax)
      have hll := leftF_len f t turn E[k]
      rw [hl0, hl1] at hsum hll
      have hl16 : l0 ≤ 65536 := by rw [← hl0]; exact Nat.le_trans (hra'.le) (by rw [hcp]; omega)
      obtain ⟨m, hm⟩ : ∃ m, goneN f t turn (E.take k) = m := ⟨_, rfl⟩
      rw [hm] at hsum hle9 ⊢
      have w9 : IntKind.i64.wrap ((l0 : Int) - (l1 : Int)) = (l0 : Int) - (l1 : Int) := by rw [IntKind.wrap_i64]; omega
      have w8 : IntKind.i64.wrap ((m : Int) + ((l0 : Int) - (l1 : Int))) = (m : Int) + ((l0 : Int) - (l1 : Int)) := by rw [IntKind.wrap_i64]; omega
      have HSUM := Lib.hid hsum
      clear hsum hm hl0 hl1 hgF hRa hcp
      go_upto_region 6 with (fail)
      go_region_law (first | (go_simp; go_at_call 39; refine (C.out _ (by first | exact (Spares.refl _ _).drew | exact Spares.refl _ _)).mono ?_; rintro e w1 ⟨rfl, d1, d2, d3, HN⟩))
      all_goals
        obtain ⟨w2, hw2⟩ : ∃ w2, w1.setCell ⟨bk, k, none⟩ (.slice (some ⟨g, off, none⟩) l1 s) = w2 := ⟨_, rfl⟩
        have z1 : w2.cell? ⟨p, 1, none⟩ = some (.slice (some ⟨bk, 0, none⟩) n n) := by
          rw [← hw2, World.cell?_of_block (a := ⟨p, 1, none⟩) (Below.heap_setCell w1 _ _ p (fun e => HI.out.dir.ne e))]
          exact d1
        have z2 : w2.cell? ⟨bk, k, none⟩ = some (.slice (some ⟨g, off, none⟩) l1 s) := by
          rw [← hw2]; exact World.cell?_setCell_same _ _ _ d2
        rw [hw2] at HN ⊢
        clear hw2 d1 d2 d3
        go_wp2
        go_roundw
        case rel => exact ⟨k + 1, by omega, rfl, by rw [HSUM.out]; congr 1; omega, HN⟩
        case measure => simp [intOf]; omega
    · obtain rfl : k = n := by omega
      rw [List.take_of_length_le (by omega)]
      have hfin := HI.out.dir
      have hsp := HI.out.sp
      rw [← hEn, sweepK_all] at hfin
      go_wp2
      go_ret
      rw [hEn] at hfin
      exact ⟨rfl, hsp, hfin⟩
end Go.Proofs.Ytihbjkdgfflnfaa
namespace Go.Proofs.Ytihbjkdgfflnfaa
open Go.RowKit

structure IsRef (F : Nat → Prop) (p bk n s : Nat) (R : Nat → Row) (E : List (List Ent)) (w : World) : Prop where
  hd : w.heap[p]? = some (.cells #[.slice (some ⟨bk, 0, none⟩) n n, .int .i64 s] 69 (0, 0))
  rows : IsRows F bk n R E w
  inF : F p
  ne : p ≠ bk
  offp : ∀ i, i < n → ∀ b o, (R i).a = some (b, o) → b ≠ p
  n0 : 0 < n
  n1 : n ≤ 4096
  s0 : 0 < s
  s1 : s ≤ 16
  lens : ∀ r ∈ E, r.length ≤ s
def RefNewPost (n s : Nat) (w : World) (e : Ending) (w' : World) : Prop :=
  ∃ F p bk R, e = .returned (.pointer (some ⟨p, 0, none⟩)) ∧ IsRef F p bk n s R (List.replicate n []) w' ∧ Spares nowhere w w' ∧ (∀ b, F b → w.heap.size ≤ b) ∧ ∀ b, F b → b < w'.heap.size
theorem made_ref {w : World} {p bk n s : Nat} (hp : w.heap[p]? = some (.cells #[.slice (some ⟨bk, 0, none⟩) n n, .int .i64 s] 69 (0, 0)))
    (hb : w.heap[bk]? = some (.cells (Array.replicate n (.slice none 0 0)) 38 (0, 0))) (h1 : p ≠ bk)
    (n0 : 0 < n) (n1 : n ≤ 4096) (s0 : 0 < s) (s1 : s ≤ 16) : IsRef (fun b => b = p ∨ b = bk) p bk n s (fun _ => ⟨none, 0⟩) (List.replicate n []) w := by
  refine ⟨hp, ⟨by simp, ⟨_, hb, by simp, fun i hi => ?_⟩, .inr rfl, fun i hi => ?_, fun i hi b o e => by simp at e, fun i j hi hj hne b o b' o' e => by simp at e, fun r hr e he => ?_⟩, .inl rfl, h1, fun i hi b o e => by simp at e, n0, n1, s0, s1, fun r hr => ?_⟩
  · rw [List.length_replicate] at hi
    simp [hi, Row.ad]
  · refine ⟨by simp, fun _ => rfl, fun b o e => by simp at e, fun b o e => by simp at e⟩
  · obtain rfl := (List.mem_replicate.1 hr).2
    simp at he
  · obtain rfl := (List.mem_replicate.1 hr).2
    simp
set_option maxRecDepth 100000 in
set_option maxHeartbeats 4000000 in
theorem refNew_any (nb ns : Int) (n s : Nat) (w : World) (hn : min (max nb 1) 4096 = (n : Int)) (hs : min (max ns 1) 16 = (s : Int)) : Calls Try.prog 13 #[.int .i64 nb, .int .i64 ns] w (RefNewPost n s w) := by
  have n0 : 0 < n := by omega
  have n1 : n ≤ 4096 := by omega
  have s0 : 0 < s := by omega
  have s1 : s ≤ 16 := by omega
  have hmk := make_rows n (by omega)
  unfold RefNewPost
  go_enter Try.func13, Try.ntmps13
  go_wp2_with (first | rw [hn] | rw [hs])
  go_ret
  refine ⟨_, _, _, _, rfl, made_ref (bk := w.heap.size) ?_ ?_ (by omega) n0 n1 s0 s1, ((Spares.refl _ w).alloc _).alloc _, fun b hb => by omega, fun b hb => by simp; omega⟩
  · have h := heap_alloc_new (w.alloc (.cells (Array.replicate n (.slice none 0 0)) 38)) (.cells #[.slice (some ⟨w.heap.size, 0, none⟩) n n, .int .i64 s] 69)
    rwa [show (w.alloc (.cells (Array.replicate n (.slice none 0 0)) 38)).heap.size = w.heap.size + 1 by simp] at h
  · rw [Below.heap_alloc _ _ _ (by simp)]; exact heap_alloc_new w _
end Go.Proofs.Ytihbjkdgfflnfaa
namespace Go.Proofs.Ytihbjkdgfflnfaa
open Go.RowKit

/-- F, and the new block if there is one. -/
def NewF (F : Nat → Prop) (w w' : World) : Nat → Prop := fun b => F b ∨ (b = w.heap.size ∧ b < w'.heap.size)
theorem new_row {F : Nat → Prop} {w : World} (l : List Ent) (gc : Nat) (hg : l.length ≤ gc) (z : Array Value) (hz : z.size = 4) (t : TypeId) (cs : Array Value) (hcs : cs = (rowCells l).toArray ++ Builtin.zeroCells z (gc - l.length)) :
    RowAt (NewF F w (w.drew.alloc (.cells cs t))) (w.drew.alloc (.cells cs t)) ⟨some (w.heap.size, 0), gc⟩ l := by
  have hh : (w.drew.alloc (.cells cs t)).heap[w.heap.size]? = some (.cells cs t (0, 0)) := heap_alloc_new w.drew _
  have hs : cs.size = gc * 4 := by
    rw [hcs, Array.size_append, List.size_toArray, rowCells_len, size_zeroCells, hz, ← Nat.add_mul]
    congr 1; omega
  refine ⟨hg, fun e => by simp at e, fun b off e => ?_, fun b off e k hk j hj => ?_⟩
  · simp only [Option.some.injEq, Prod.mk.injEq] at e
    obtain ⟨rfl, rfl⟩ := e
    exact ⟨.inr ⟨rfl, by simp⟩, cs, t, hh, by simp only; omega⟩
  · simp only [Option.some.injEq, Prod.mk.injEq] at e
    obtain ⟨rfl, rfl⟩ := e
    have hl := rowCells_len l
    rw [Lib.cell_of_heap hh, hcs, ← rowCells_at l k hk j hj, Nat.zero_add]
    rw [Array.getElem?_append_left (by rw [List.size_toArray, hl]; omega), List.getElem?_toArray]
theorem append_ent {F : Nat → Prop} {w : World} {r : Row} {l : List Ent} (h : RowAt F w r l) (x : Ent) (A : Addr) (ty : TypeId) (hA : ∀ j u, (entCells x)[j]? = some u → w.cell? (A.add j) = some u) (hl : l.length + 1 ≤ 1000) :
    ∃ r' w', (Builtin.append_ #[38, 38] ty #[.slice r.ad l.length r.cap, .slice (some A) 1 1]).run Try.prog w = .ok (.slice r'.ad (l.length + 1) r'.cap) w' ∧ RowAt (NewF F w w') w' r' (l ++ [x]) ∧
      Spares (fun k => ∃ o, r.a = some (k, o)) w w' ∧ (∀ F2 r2 l2, RowAt F2 w r2 l2 → r2.apart r → RowAt F2 w' r2 l2) ∧ (r' = r ∨ ∃ c, r' = ⟨some (w.heap.size, 0), c⟩) := by
  obtain ⟨i0, hi, hz0, hz1, hz2⟩ := info_parts entInfo
  have ones : ∀ u ∈ entCells x, u.oneCell' = true := fun u hu => by rw [← rowCells_single] at hu; exact rowCells_one _ u hu
  have h4 : (entCells x).length = 4 := rfl
  have hzs : (entV Ent.zero).cells.size = 4 := rfl
  by_cases hroom : l.length + 1 ≤ r.cap
  · cases ha : r.a with
    | none => have := h.nil ha; omega
    | some q =>
      obtain ⟨b, off⟩ := q
      have had : r.ad = some ⟨b, off, none⟩ := by unfold Row.ad; rw [ha]; rfl
      have hrm := (h.room b off ha).2
      have hrun := run_append_room_cells (P := Try.prog) w 38 ty 41 i0 Try.underlying38 hi b off l.length r.cap A 1 1 (entCells x) (by rw [hz1]; rfl) hA ones hroom
        (fun j hj => (hrm.cell _ (by rw [hz1]; omega)).1) (fun j hj => (hrm.cell _ (by rw [hz1]; omega)).2)
      rw [hz1] at hrun
      refine ⟨r, _, by rw [had]; exact hrun, ?_, ?_, fun F2 r2 l2 h2 hap => ?_, .inl rfl⟩
      · have := h.store ha (k0 := l.length) [x] (Nat.le_refl _) (by rw [List.length_singleton]; omega)
        rw [List.take_length, rowCells_single] at this
        exact this.mono fun _ h => .inl h
      · exact (spares_cells (g := b) _ _ (Spares.refl _ _)).mono fun k hk => .inl ⟨off, by rw [hk]⟩
      · refine h2.sets _ _ _ fun b' o' e => ?_
        have := hap b' o' b off e ha
        rw [h4]
        omega
  · have grown : ∀ gc, l.length + 1 ≤ gc → ∀ cs, cs = (rowCells (l ++ [x])).toArray ++ Builtin.zeroCells (entV Ent.zero).cells (gc - (l.length + 1)) →
        RowAt (NewF F w (w.drew.alloc (.cells cs 41))) (w.drew.alloc (.cells cs 41)) ⟨some (w.heap.size, 0), gc⟩ (l ++ [x]) ∧ Spares (fun k => ∃ o, r.a = some (k, o)) w (w.drew.alloc (.cells cs 41)) ∧
          (∀ F2 r2 l2, RowAt F2 w r2 l2 → r2.apart r → RowAt F2 (w.drew.alloc (.cells cs 41)) r2 l2) := fun gc hgc cs hcs => by
      have hsp : Spares nowhere w (w.drew.alloc (.cells cs 41)) := ((Spares.refl _ w).drew).alloc _
      exact ⟨new_row (l ++ [x]) gc (by simpa using hgc) _ hzs _ cs (by rw [hcs]; simp), hsp.mono (fun _ h => h.elim), fun F2 r2 l2 h2 _ => h2.spares hsp (fun _ _ _ h => h)⟩
    cases ha : r.a with
    | none =>
      have hc0 := h.nil ha
      have hl0 : l.length = 0 := by have := h.le; omega
      obtain rfl : l = [] := List.eq_nil_of_length_eq_zero hl0
      have had : r.ad = none := by unfold Row.ad; rw [ha]; rfl
      have hrun := run_append_nil (P := Try.prog) (w := w) 38 ty 41 i0 (entV Ent.zero) Try.underlying38 hi hz0 A 1 1 (entCells x) (by rw [hz1]; rfl) hA (by omega) (by omega) (by rw [hz2]; omega)
      obtain ⟨g1, g2, g3⟩ := grown (grownCap w 1 0 41) (grownCap_ge w 1 0 _) _ (by rw [List.nil_append, rowCells_single])
      rw [ha] at g2
      exact ⟨_, _, by rw [had, hc0]; exact hrun, g1, g2, g3, .inr ⟨_, rfl⟩⟩
    | some q =>
      obtain ⟨b, off⟩ := q
      have had : r.ad = some ⟨b, off, none⟩ := by unfold Row.ad; rw [ha]; rfl
      have holds : ∀ j v, (rowCells l)[j]? = some v → w.cell? ((⟨b, off, none⟩ : Addr).add j) = some v := fun j v hj => by
        have hlen := rowCells_len l
        have hj' := (List.getElem?_eq_some_iff.1 hj).1
        have hk : j / 4 < l.length := by omega
        have he := h.ents b off ha (j / 4) hk (j % 4) (Nat.mod_lt _ (by omega))
        have hr := rowCells_at l (j / 4) hk (j % 4) (Nat.mod_lt _ (by omega))
        have e4 : j / 4 * 4 + j % 4 = j := by omega
        rw [e4] at hr
        rw [Addr.add_lit, show off + j = off + j / 4 * 4 + j % 4 by omega, he, ← hr]
        exact hj
      have hle := h.le
      have hrun := run_append_grow (P := Try.prog) (w := w) 38 ty 41 i0 (entV Ent.zero) Try.underlying38 hi hz0 ⟨b, off, none⟩ l.length r.cap (rowCells l) (by rw [rowCells_len, hz1]) holds A 1 1 (entCells x) (by rw [hz1]; rfl) hA (by omega) (by omega) (by rw [hz2]; exact growslice_fits (by omega) (by omega))
      obtain ⟨g1, g2, g3⟩ := grown (grownCap w (l.length + 1) r.cap 41) (grownCap_ge w (l.length + 1) r.cap _) ((rowCells l).toArray ++ (entCells x).toArray ++ Builtin.zeroCells (entV Ent.zero).cells (grownCap w (l.length + 1) r.cap 41 - (l.length + 1))) (by rw [rowCells_app, rowCells_single]; simp)
      rw [ha] at g2
      exact ⟨_, _, by rw [had]; exact hrun, g1, g2, g3, .inr ⟨_, rfl⟩⟩
end Go.Proofs.Ytihbjkdgfflnfaa
namespace Go.Proofs.Ytihbjkdgfflnfaa
open Go.RowKit

theorem IsRef.spares {F G : Nat → Prop} {p bk n s : Nat} {R : Nat → Row} {E : List (List Ent)} {w w' : World} (h : IsRef F p bk n s R E w) (hs : Spares G w w') (hn : ∀ b, F b → b < w.heap.size → ¬ G b) : IsRef F p bk n s R E w' :=
  ⟨hs.heap h.hd (hn p h.inF (Array.getElem?_eq_some_iff.1 h.hd).1), h.rows.spares hs hn, h.inF, h.ne, h.offp, h.n0, h.n1, h.s0, h.s1, h.lens⟩
theorem IsRef.mono {F F' : Nat → Prop} {p bk n s : Nat} {R : Nat → Row} {E : List (List Ent)} {w : World} (h : IsRef F p bk n s R E w) (hF : ∀ b, F b → F' b) : IsRef F' p bk n s R E w :=
  ⟨h.hd, ⟨h.rows.len, h.rows.blk, hF _ h.rows.inF, fun i hi => (h.rows.row i hi).mono hF, h.rows.off, h.rows.apart, h.rows.ok⟩, hF _ h.inF, h.ne, h.offp, h.n0, h.n1, h.s0, h.s1, h.lens⟩
/-- append by a fact of its run, as one step of a region that draws. -/
theorem step_append_fact {P : Program} {ops : Array Oper} {o : Oper} {a : Act} {w : World} {K : Act → World → Prop} {Q : Exit → Act → World → Prop} {E : Prop} (hgd : o.guard = none) (s x : Operand) (t : TypeId)
    (ho : o.op = .call { callee := .builtin .append, args := #[s, x], argTypes := #[t, t] }) (v u : Value) (hs : a.eval s = v) (hx : a.eval x = u) {v' : Value} {w' : World}
    (hr : (Builtin.append_ #[t, t] o.type #[v, u]).run P w = .ok v' w') (h : K (a.put o.dst v') w') : if Region.wanted o (yielded ops a.tmps) = true then Oper.wp P o a w K Q else E := by
  have hw : Region.wanted o (yielded ops a.tmps) = true := by simp [Region.wanted, hgd]
  rw [if_pos hw]
  unfold Oper.wp
  simp [execOp, ho, resolve, invoke, builtin, hs, hx, hr, Result.andThen]
  exact h
theorem put_ref {F : Nat → Prop} {p bk n s : Nat} {R : Nat → Row} {E : List (List Ent)} {w w1 : World} (h : IsRef F p bk n s R E w) {b : Nat} (hb : b < n) {row l' : List Ent} (_hrow : ∀ hE : b < E.length, E[b] = row) {r' : Row}
    (hr : RowAt (NewF F w w1) w1 r' l') (hsp : Spares (fun k => ∃ o, (R b).a = some (k, o)) w w1) (hrest : ∀ F2 r2 l2, RowAt F2 w r2 l2 → r2.apart (R b) → RowAt F2 w1 r2 l2) (hcase : r' = R b ∨ ∃ c, r' = ⟨some (w.heap.size, 0), c⟩)
    (hok : ∀ e ∈ l', e.ok) (hlen : l'.length ≤ s) : ∃ R', IsRef (NewF F w w1) p bk n s R' (E.set b l') (w1.setCell ⟨bk, b, none⟩ (.slice r'.ad l'.length r'.cap)) := by
  have hEn := h.rows.len
  have hbl := h.rows.lt
  have hpl : p < w.heap.size := (Array.getElem?_eq_some_iff.1 h.hd).1
  have hlt : ∀ j, j < n → ∀ b' o', (R j).a = some (b', o') → b' < w.heap.size := fun j hj b' o' e => ((h.rows.row j (by omega)).room b' o' e).2.lt
  have hput := h.rows.put (w1 := w1) (F' := NewF F w w1) hb (fun _ h => .inl h) (hsp.block bk hbl (fun ⟨o, e⟩ => h.rows.off b hb bk o e rfl))
    (fun j hj hne => (hrest _ _ _ (h.rows.row j hj) (h.rows.apart j b (by omega) hb hne)).mono fun _ h => .inl h) r' l' hr
    (fun j hj hne => by
      rcases hcase with rfl | ⟨c, rfl⟩
      · exact h.rows.apart b j hb hj (fun e => hne e.symm)
      · intro b1 o1 b2 o2 e1 e2
        simp only [Option.some.injEq, Prod.mk.injEq] at e1
        have := hlt j hj b2 o2 e2
        left; omega)
    (fun b' o' e => by
      rcases hcase with rfl | ⟨c, rfl⟩
      · exact h.rows.off b hb b' o' e
      · simp only [Option.some.injEq, Prod.mk.injEq] at e; omega) hok
  refine ⟨_, ?_, hput, .inl h.inF, h.ne, fun i hi b' o' e => ?_, h.n0, h.n1, h.s0, h.s1, fun r hr => ?_⟩
  · rw [Below.heap_setCell _ _ _ _ (fun e => h.ne e), hsp.block p hpl (fun ⟨o, e⟩ => h.offp b hb p o e rfl)]
    exact h.hd
  · by_cases ei : i = b
    · simp only [if_pos ei] at e
      rcases hcase with rfl | ⟨c, rfl⟩
      · exact h.offp b hb b' o' e
      · simp only [Option.some.injEq, Prod.mk.injEq] at e; omega
    · simp only [if_neg ei] at e
      exact h.offp i hi b' o' e
  · rcases List.mem_or_eq_of_mem_set hr with hr | rfl
    · exact h.lens r hr
    · exact hlen
def RefInsPost (F : Nat → Prop) (p bk n s : Nat) (E : List (List Ent)) (b : Nat) (x : Ent) (w : World) (e : Ending) (w' : World) : Prop :=
  e = .returned (.int .i64 (insE s (atRow E b) x.sec x.turn : Nat)) ∧ Spares F w w' ∧ ∃ F' R, IsRef F' p bk n s R (insF s E b x) w' ∧ ∀ k, F' k → F k ∨ (w.heap.size ≤ k ∧ k < w'.heap.size)
set_option maxRecDepth 100000 in
set_option maxHeartbeats 4000000 in
theorem refInsert_any (F : Nat → Prop) (p bk n s : Nat) (R : Nat → Row) (E : List (List Ent)) (K : List UInt8) (a sc tn : Nat) (w : World) (h : IsRef F p bk n s R E w) (hK : K.length = 32) (ha : a < 4294967296) (hsc : sc < 65536) (htn : tn < 18446744073709551616) :
    Calls Try.prog 17 #[.pointer (some ⟨p, 0, none⟩), .agg (bytesV K), .int .u32 a, .int .u16 sc, .int .u64 tn] w (RefInsPost F p bk n s E (bktF K n) ⟨tagF K, a, sc, tn⟩ w) := by
  have hEn := h.rows.len
  have hn0 := h.n0
  have hn1 := h.n1
  have hs1 := h.s1
  obtain ⟨b, hb⟩ : ∃ b, bktF K n = b := ⟨_, rfl⟩
  have hbn : b < n := by rw [← hb]; exact bktF_lt K n h.n0
  obtain ⟨row, hrow⟩ : ∃ row, atRow E b = row := ⟨_, rfl⟩
  have hrow' : E[b]'(by omega) = row := by rw [← hrow]; unfold atRow; rw [List.getD_eq_getElem?_getD, List.getElem?_eq_getElem (by omega)]; rfl
  have hle : row.length ≤ s := by rw [← hrow']; exact h.lens _ (List.getElem_mem _)
  have hcell : ∀ W, Spares nowhere w W → W.cell? ⟨p, 0, none⟩ = some (.slice (some ⟨bk, 0, none⟩) n n) ∧ W.cell? ⟨p, 1, none⟩ = some (.int .i64 s) ∧ W.cell? ⟨bk, b, none⟩ = some (.slice (R b).ad row.length (R b).cap) := fun W hW => by
    have h' := h.spares hW (fun _ _ _ h => h)
    have hc := (h'.rows.cell b (by omega)).1
    rw [hrow'] at hc
    exact ⟨by rw [Lib.cell_of_heap h'.hd]; rfl, by rw [Lib.cell_of_heap h'.hd]; rfl, hc⟩
  rw [hb]
  obtain ⟨v, hv⟩ : ∃ v, w.alloc (.cells (bytesV K) 36) = v := ⟨_, rfl⟩
  have hs : Spares nowhere w v := by rw [← hv]; exact (Spares.refl _ w).alloc _
  have hkb : v.heap[w.heap.size]? = some (.cells (bytesV K) 36 (0, 0)) := by rw [← hv]; exact heap_alloc_new w _
  have HV := Lib.hid hv
  have HS := Lib.hid hs
  have HD := Lib.hid h
  have HKB := Lib.hid hkb
  have HROW := Lib.hid hrow
  have HROW' := Lib.hid hrow'
  have HB := Lib.hid hb
  have HC := Lib.hid hcell
  have hself : ∀ W (c : Nat), Spares nowhere w W → insE s row sc tn = c → c ≠ 0 → RefInsPost F p bk n s E b ⟨tagF K, a, sc, tn⟩ w (.returned (.int .i64 c)) W := fun W c hW hc hne => by
    have e1 : insE s (atRow E b) sc tn = c := by rw [hrow]; exact hc
    have e2 : insF s E b ⟨tagF K, a, sc, tn⟩ = E := by unfold insF; simp only [e1]; rw [if_neg hne]
    refine ⟨by simp only [e1], hW.mono (fun _ h => h.elim), F, R, ?_, fun _ h => .inl h⟩
    rw [e2]
    exact h.spares hW (fun _ _ _ h => h)
  have HSELF := Lib.hid hself
  have HHK := Lib.hid hK
  clear hv hs h hkb hrow hrow' hb hcell hself
  go_enter Try.func17, Try.ntmps17
  by_cases h1 : sc = 0
  · have i1 : ((sc : Int) == 0) = true := by simp [h1]
    have H1 := Lib.hid h1
    clear h1
    go_wp2
    go_ret
    rw [HV.out]
    exact HSELF.out v 40 HS.out (by unfold insE; rw [if_pos (.inl H1.out)]) (by omega)
  · have i1 : ((sc : Int) == 0) = false := by simp [h1]
    by_cases h2 : 9223372036854775807 < tn
    · have i2 : (9223372036854775807 : Int) < (tn : Int) := by omega
      go_wp2
      go_ret
      rw [HV.out]
      exact HSELF.out v 40 HS.out (by unfold insE; rw [if_pos (.inr h2)]) (by omega)
    · have i2 : ¬ (9223372036854775807 : Int) < (tn : Int) := by omega
      have hat : v.rangeAt w.heap.size 0 (Lib.byteCells K) := fun j u hj => by
        rw [Lib.cell_of_heap HKB.out, Nat.zero_add]; simpa [bytesV] using hj
      have infoC : (Try.prog.info? 36).map (·.size) = some (Lib.byteCells K).length := by rw [byteCells_len, HHK.out]; kernel_rfl
      have HAT := Lib.hid hat
      have HI := Lib.hid infoC
      clear hat infoC
      go_upto_region 3 with (fail)
      rw [HV.out]
      go_wp2_with ((with_reducible show wpList _ _ _ (⟨some 19, .load 36 _, _, _, _, _⟩ :: _) _ _); refine wpList_load_mid rfl 36 (.tmp 6) rfl w.heap.size 0 rfl (Lib.byteCells K) _ HAT.out Try.underlying36 rfl HI.out ?_)
      change Calls _ _ #[.pointer (some ⟨p, 0, none⟩), .agg (bytesV K)] _ _
      refine (refBucket_any K p n n _ v HHK.out hn0 hn1 (HC.out v HS.out).1).mono ?_
      rintro e v2 ⟨rfl, hs2⟩
      rw [HB.out]
      have hw2 := HS.out.trans hs2
      obtain ⟨c0, c1, c2⟩ := HC.out v2 hw2
      by_cases h3 : row.length = s
      · have i3 : (s : Int) ≤ (row.length : Int) := by omega
        have HH := Lib.hid h3
        clear h3
        have HW2 := Lib.hid hw2
        clear hw2 hs2
        go_wp2
        go_quiet (fail)
        go_wp2
        go_ret
        exact HSELF.out (v2.drewN nq) 50 (HW2.out.drewN _) (by unfold insE; rw [if_neg (by omega), if_pos HH.out]) (by omega)
      · have i3 : ¬ (s : Int) ≤ (row.length : Int) := by omega
        have HW2 := Lib.hid hw2
        have HS2 := Lib.hid hs2
        clear hw2 hs2
        go_wp2
        go_quiet (fail)
        clear c0 c1 c2
        go_wp2
        obtain ⟨u, hu⟩ : ∃ u, v2.drewN nq = u := ⟨_, rfl⟩
        have hwu : Spares nowhere w u := by rw [← hu]; exact HW2.out.drewN _
        have hvu : Spares nowhere v u := by rw [← hu]; exact HS2.out.drewN _
        rw [hu]
        obtain ⟨G, hG⟩ : ∃ G : Nat → Prop, (fun k => k = bk ∨ ∃ o, (R b).a = some (k, o)) = G := ⟨_, rfl⟩
        have hGb : ∀ k, k = bk → G k := fun k e => by rw [← hG]; exact .inl e
        have hGr : ∀ k, (∃ o, (R b).a = some (k, o)) → G k := fun k e => by rw [← hG]; exact .inr e
        have hGw : ∀ k, G k → k < w.heap.size ∧ k ≠ p := fun k e => by
          rw [← hG] at e
          rcases e with rfl | ⟨o, e⟩
          · exact ⟨HD.out.rows.lt, fun e => HD.out.ne e.symm⟩
          · exact ⟨((HD.out.rows.row b (by omega)).room k o e).2.lt, HD.out.offp b hbn k o e⟩
        have HKEEP : Hid (∀ W, Spares G u W → W.cell? ⟨p, 0, none⟩ = some (.slice (some ⟨bk, 0, none⟩) n n) ∧ W.rangeAt w.heap.size 0 (Lib.byteCells K)) := Lib.hid (fun W hW => by
          have hpu := hwu.heap HD.out.hd (fun h => h)
          have hp := hW.heap hpu (fun e => (hGw p e).2 rfl)
          have hku := hvu.heap HKB.out (fun h => h)
          have hk := hW.heap hku (fun e => by have := (hGw _ e).1; omega)
          refine ⟨by rw [Lib.cell_of_heap hp]; rfl, fun j u hj => ?_⟩
          rw [Lib.cell_of_heap hk, Nat.zero_add]; simpa [bytesV] using hj)
        have CT : Hid (∀ W, Spares nowhere u W → Calls Try.prog 35 #[.agg (bytesV K)] W fun e w' => e = .returned (.int .u16 (tagF K : Nat)) ∧ Hid (Spares nowhere u w') ∧ Hid (Spares G u w') ∧ w'.cell? ⟨bk, b, none⟩ = some (.slice (R b).ad row.length (R b).cap) ∧
            (∀ o, (w'.alloc o).cell? ⟨bk, b, none⟩ = some (.slice (R b).ad row.length (R b).cap))) := Lib.hid (fun W hW => (refTag_any K W HHK.out).mono (by
          rintro e w' ⟨rfl, hs⟩
          have hw := hW.trans hs
          exact ⟨rfl, hw, hw.mono (fun _ h => h.elim), (HC.out w' (hwu.trans hw)).2.2, fun o => (HC.out _ ((hwu.trans hw).alloc o)).2.2⟩))
        have HAPP : Hid (∀ wn ty, Spares nowhere u wn → ∃ (r' : Row) (w4 : World), (Builtin.append_ #[38, 38] ty #[.slice (R b).ad row.length (R b).cap, .slice (some ⟨wn.heap.size, 0, none⟩) 1 1]).run Try.prog (wn.alloc (.cells #[.int .u16 (tagF K : Nat), .int .u32 a, .int .u16 sc, .int .u64 tn] 41)) = .ok (.slice r'.ad (row.length + 1) r'.cap) w4 ∧
            Hid (Spares G u w4) ∧ (w4.cell? ⟨bk, b, none⟩ = some (.slice (R b).ad row.length (R b).cap) ∧ w4.frozen? ⟨bk, b, none⟩ = false) ∧ Hid (RefInsPost F p bk n s E b ⟨tagF K, a, sc, tn⟩ w (.returned (.int .i64 0)) (w4.setCell ⟨bk, b, none⟩ (.slice r'.ad (row.length + 1) r'.cap)))) := Lib.hid (fun wn ty hs => by
          have h0 := (hwu.trans hs).alloc (.cells #[.int .u16 (tagF K : Nat), .int .u32 a, .int .u16 sc, .int .u64 tn] 41)
          have hd := HD.out.spares h0 (fun _ _ _ h => h)
          have hrw := hd.rows.row b (by omega)
          rw [HROW'.out] at hrw
          obtain ⟨r', w4, hrun, hr', hsp, hrest, hcase⟩ := append_ent hrw ⟨tagF K, a, sc, tn⟩ ⟨wn.heap.size, 0, none⟩ ty (ent_new wn ⟨tagF K, a, sc, tn⟩) (by omega)
          have hxo : Ent.ok ⟨tagF K, a, sc, tn⟩ := ⟨by have := tagF_lt K; simp only; omega, ha, hsc, htn⟩
          obtain ⟨R', hR'⟩ := put_ref hd hbn (row := row) (fun hE => HROW'.out) hr' hsp hrest hcase (fun e he => by
            rcases List.mem_append.1 he with he | he
            · exact hd.rows.ok row (by rw [← HROW'.out]; exact List.getElem_mem _) e he
            · rw [List.mem_singleton.1 he]; exact hxo) (by rw [List.length_append, List.length_singleton]; omega)
          have hlen : (row ++ [(⟨tagF K, a, sc, tn⟩ : Ent)]).length = row.length + 1 := by simp
          rw [hlen] at hR'
          have hnb : ¬ ∃ o, (R b).a = some (bk, o) := fun ⟨o, e⟩ => hd.rows.off b hbn bk o e rfl
          have hcw := hd.rows.cell b (by omega)
          rw [HROW'.out] at hcw
          have hlt4 : bk < (wn.alloc (.cells #[.int .u16 (tagF K : Nat), .int .u32 a, .int .u16 sc, .int .u64 tn] 41)).heap.size := hd.rows.lt
          obtain ⟨cur, hcur, _⟩ := hd.rows.blk
          refine ⟨r', w4, hrun, (((hs.alloc _).mono (fun _ h => h.elim) : Spares G u _).trans' hsp (fun k hk => .inl (hGr k hk))), ⟨(hsp.cell (p := ⟨bk, b, none⟩) hlt4 hnb).trans hcw.1, Lib.frozen_of_heap (hsp.heap hcur hnb) b⟩, ?_⟩
          have e1 : insE s (atRow E b) sc tn = 0 := by rw [HROW.out]; unfold insE; rw [if_neg (by omega), if_neg h3]
          have e2 : insF s E b ⟨tagF K, a, sc, tn⟩ = E.set b (row ++ [⟨tagF K, a, sc, tn⟩]) := by unfold insF addF; simp only [e1]; rw [HROW.out]; rfl
          have hF : ∀ k, (∃ o, (R b).a = some (k, o)) → F k := fun k ⟨o, e⟩ => ((HD.out.rows.row b (by omega)).room k o e).1
          refine ⟨by simp only [e1]; rfl, ?_, _, R', by rw [e2]; exact hR', fun k hk => ?_⟩
          · exact (((h0.mono (fun _ h => h.elim) : Spares F w _).trans' hsp (fun k hk => .inl (hF k hk)))).setCell (p := ⟨bk, b, none⟩) (.inl HD.out.rows.inF) _
          · rcases hk with hk | ⟨rfl, hk⟩
            · exact .inl hk
            · exact .inr ⟨h0.size, by simpa using hk⟩)
        have d1 := (HC.out u hwu).2.2
        have hdr : Spares nowhere u u.drew := (Spares.refl _ _).drew
        have hdG : Spares G u u.drew := (Spares.refl _ _).drew
        have hu36 := Try.underlying36
        have hi36 : (Try.prog.info? 36).map (·.size) = some (Lib.byteCells K).length := HI.out
        have HGB := Lib.hid hGb
        clear hu hwu hvu hG hGr hGw hGb
        refine wp_region_held_drew (S := fun w' => w'.cell? ⟨p, 0, none⟩ = some (.slice (some ⟨bk, 0, none⟩) n n) ∧ w'.rangeAt w.heap.size 0 (Lib.byteCells K)) (by kernel_rfl) (HKEEP.out _ hdG) (fun hS0 => ?_)
        refine wpAnyH_take (i := 0) (v := ?_) rfl (by kernel_rfl) (by kernel_rfl) (by kernel_rfl) (fun _ _ _ h => h) (Or.inl ⟨by rfl, ?_⟩) (by assumption) ?_
        rotate_left
        · intro w9 hS9
          obtain ⟨hS8, _⟩ := hS9
          go_simp
          try with_reducible rfl
        simp only [List.getElem_toArray, List.getElem_cons_zero, Act.put, List.setIfInBounds_toArray, List.set_cons_succ, List.set_cons_zero]
        refine wpAnyH_take (i := 1) (v := ?_) rfl (by kernel_rfl) (by kernel_rfl) (by kernel_rfl) (fun _ _ _ h => h) (Or.inl ⟨by rfl, ?_⟩) (by assumption) ?_
        rotate_left
        · intro w9 hS9
          obtain ⟨hS8, _⟩ := hS9
          go_simp
          try with_reducible rfl
        simp only [List.getElem_toArray, List.getElem_cons_succ, List.getElem_cons_zero, Act.put, List.setIfInBounds_toArray, List.set_cons_succ, List.set_cons_zero]
        refine wpAnyH_take (i := 2) (v := ?_) rfl (by kernel_rfl) (by kernel_rfl) (by kernel_rfl) (fun _ _ _ h => h) (Or.inl ⟨by rfl, ?_⟩) (by assumption) ?_
        rotate_left
        · intro w9 hS9
          obtain ⟨hS8, _⟩ := hS9
          go_simp
          try with_reducible rfl
        simp only [List.getElem_toArray, List.getElem_cons_succ, List.getElem_cons_zero, Act.put, List.setIfInBounds_toArray, List.set_cons_succ, List.set_cons_zero]
        refine wpAnyH_take (i := 3) (v := ?_) rfl (by kernel_rfl) (by kernel_rfl) (by kernel_rfl) (fun _ _ _ h => h) (Or.inl ⟨by rfl, ?_⟩) (by assumption) ?_
        rotate_left
        · intro w9 hS9
          obtain ⟨hS8, _⟩ := hS9
          go_simp
          try with_reducible rfl
        simp only [List.getElem_toArray, List.getElem_cons_succ, List.getElem_cons_zero, Act.put, List.setIfInBounds_toArray, List.set_cons_succ, List.set_cons_zero]
        refine wpAnyH_take (i := 4) (v := ?_) rfl (by kernel_rfl) (by kernel_rfl) (by kernel_rfl) (fun _ _ _ h => h) (Or.inl ⟨by rfl, ?_⟩) (by assumption) ?_
        rotate_left
        · intro w9 hS9
          obtain ⟨hS8, _⟩ := hS9
          go_simp
          try with_reducible rfl
        simp only [List.getElem_toArray, List.getElem_cons_succ, List.getElem_cons_zero, Act.put, List.setIfInBounds_toArray, List.set_cons_succ, List.set_cons_zero]
        refine wpAnyH_take (i := 5) (v := ?_) rfl (by kernel_rfl) (by kernel_rfl) (by kernel_rfl) (fun _ _ _ h => h) (Or.inl ⟨by rfl, ?_⟩) (by assumption) ?_
        rotate_left
        · intro w9 hS9
          obtain ⟨hS8, _⟩ := hS9
          go_simp
          try with_reducible rfl
        simp only [List.getElem_toArray, List.getElem_cons_succ, List.getElem_cons_zero, Act.put, List.setIfInBounds_toArray, List.set_cons_succ, List.set_cons_zero]
        refine wpAnyH_take (i := 6) (v := ?_) rfl (by kernel_rfl) (by kernel_rfl) (by kernel_rfl) (fun _ _ _ h => h) (Or.inl ⟨by rfl, ?_⟩) (by assumption) ?_
        rotate_left
        · intro w9 hS9
          obtain ⟨hS8, _⟩ := hS9
          go_simp
          try with_reducible rfl
        simp only [List.getElem_toArray, List.getElem_cons_succ, List.getElem_cons_zero, Act.put, List.setIfInBounds_toArray, List.set_cons_succ, List.set_cons_zero]
        refine wpAnyH_take (i := 7) (v := ?_) rfl (by kernel_rfl) (by kernel_rfl) (by kernel_rfl) (fun _ _ _ h => h) (Or.inl ⟨by rfl, ?_⟩) (by assumption) ?_
        rotate_left
        · intro w9 hS9
          obtain ⟨hS8, _⟩ := hS9
          go_simp
          try with_reducible rfl
        simp only [List.getElem_toArray, List.getElem_cons_succ, List.getElem_cons_zero, Act.put, List.setIfInBounds_toArray, List.set_cons_succ, List.set_cons_zero]
        refine wpAnyH_take (i := 8) (v := ?_) rfl (by kernel_rfl) (by kernel_rfl) (by kernel_rfl) (fun _ _ _ h => h) (Or.inl ⟨by rfl, ?_⟩) (by assumption) ?_
        rotate_left
        · intro w9 hS9
          obtain ⟨hS8, _⟩ := hS9
          go_simp
          try with_reducible rfl
        simp only [List.getElem_toArray, List.getElem_cons_succ, List.getElem_cons_zero, Act.put, List.setIfInBounds_toArray, List.set_cons_succ, List.set_cons_zero]
        refine wpAnyH_take (i := 9) (v := ?_) rfl (by kernel_rfl) (by kernel_rfl) (by kernel_rfl) (fun _ _ _ h => h) (Or.inl ⟨by rfl, ?_⟩) (by assumption) ?_
        rotate_left
        · intro w9 hS9
          obtain ⟨hS8, _⟩ := hS9
          go_simp
          try with_reducible rfl
        simp only [List.getElem_toArray, List.getElem_cons_succ, List.getElem_cons_zero, Act.put, List.setIfInBounds_toArray, List.set_cons_succ, List.set_cons_zero]
        refine wpAnyH_take (i := 10) (v := ?_) rfl (by kernel_rfl) (by kernel_rfl) (by kernel_rfl) (fun _ _ _ h => h) (Or.inl ⟨by rfl, ?_⟩) (by assumption) ?_
        rotate_left
        · intro w9 hS9
          obtain ⟨hS8, _⟩ := hS9
          go_simp
          try with_reducible rfl
        simp only [List.getElem_toArray, List.getElem_cons_succ, List.getElem_cons_zero, Act.put, List.setIfInBounds_toArray, List.set_cons_succ, List.set_cons_zero]
        refine wpAnyH_take (i := 12) (v := .agg (bytesV K)) rfl (by kernel_rfl) (by kernel_rfl) (by kernel_rfl) (fun _ _ _ h => h) (yieldsIf_load_mid (by rfl) 36 (.tmp 6) rfl w.heap.size 0 rfl (Lib.byteCells K) _ (fun w9 hS9 => hS9.2) hu36 rfl hi36) (by assumption) ?_
        simp only [List.getElem_toArray, List.getElem_cons_succ, List.getElem_cons_zero, Act.put, List.setIfInBounds_toArray, List.set_cons_succ, List.set_cons_zero]
        refine wpAnyH_take (i := 14) (v := ?_) rfl (by kernel_rfl) (by kernel_rfl) (by kernel_rfl) (fun _ _ _ h => h) (Or.inl ⟨by rfl, ?_⟩) (by assumption) ?_
        rotate_left
        · intro w9 hS9
          obtain ⟨hS8, _⟩ := hS9
          go_simp
          try with_reducible rfl
        simp only [List.getElem_toArray, List.getElem_cons_succ, List.getElem_cons_zero, Act.put, List.setIfInBounds_toArray, List.set_cons_succ, List.set_cons_zero]
        refine wpAnyH_take (i := 15) (v := ?_) rfl (by kernel_rfl) (by kernel_rfl) (by kernel_rfl) (fun _ _ _ h => h) (Or.inl ⟨by rfl, ?_⟩) (by assumption) ?_
        rotate_left
        · intro w9 hS9
          obtain ⟨hS8, _⟩ := hS9
          go_simp
          try with_reducible rfl
        simp only [List.getElem_toArray, List.getElem_cons_succ, List.getElem_cons_zero, Act.put, List.setIfInBounds_toArray, List.set_cons_succ, List.set_cons_zero]
        refine wpAnyH_take (i := 16) (v := ?_) rfl (by kernel_rfl) (by kernel_rfl) (by kernel_rfl) (fun _ _ _ h => h) (Or.inl ⟨by rfl, ?_⟩) (by assumption) ?_
        rotate_left
        · intro w9 hS9
          obtain ⟨hS8, _⟩ := hS9
          go_simp
          try with_reducible rfl
        simp only [List.getElem_toArray, List.getElem_cons_succ, List.getElem_cons_zero, Act.put, List.setIfInBounds_toArray, List.set_cons_succ, List.set_cons_zero]
        refine wpAnyH_ready (rs := [11, 13]) (by kernel_rfl) (by simp) ?_
        refine AllReadyH.cons rfl (fun K9 hK9 => ?_) ?_
        · go_simp
          refine hK9.out _ _ ?_ (fun hS9 => ?_)
          · first
              | exact HKEEP.out _ hdG
              | exact HKEEP.out _ hsg.out
              | exact HKEEP.out _ (hsg.out.alloc _)
              | exact HKEEP.out _ hs4.out
              | exact HKEEP.out _ (hs4.out.setCell (p := ⟨bk, b, none⟩) (.inl (HGB.out _ rfl)) _)
          clear hK9 K9
          refine wpAnyH_ready (rs := [13]) (by kernel_rfl) (by simp) ?_
          refine AllReadyH.cons rfl (fun K9 hK9 => ?_) ?_
          · go_simp
            go_at_call 35
            with_reducible refine Calls.mono (CT.out _ (by assumption)) ?_
            rintro e wn ⟨rfl, hsn, hsg, z0, z1⟩
            try go_simp
            refine hK9.out _ _ ?_ (fun hS9 => ?_)
            · first
                | exact HKEEP.out _ hdG
                | exact HKEEP.out _ hsg.out
                | exact HKEEP.out _ (hsg.out.alloc _)
                | exact HKEEP.out _ hs4.out
                | exact HKEEP.out _ (hs4.out.setCell (p := ⟨bk, b, none⟩) (.inl (HGB.out _ rfl)) _)
            clear hK9 K9
            refine wpAnyH_ready (rs := [17]) (by kernel_rfl) (by simp) ?_
            refine AllReadyH.cons rfl (fun K9 hK9 => ?_) ?_
            · go_simp
              refine hK9.out _ _ ?_ (fun hS9 => ?_)
              · first
                  | exact HKEEP.out _ hdG
                  | exact HKEEP.out _ hsg.out
                  | exact HKEEP.out _ (hsg.out.alloc _)
                  | exact HKEEP.out _ hs4.out
                  | exact HKEEP.out _ (hs4.out.setCell (p := ⟨bk, b, none⟩) (.inl (HGB.out _ rfl)) _)
              clear hK9 K9
              refine wpAnyH_ready (rs := [18]) (by kernel_rfl) (by simp) ?_
              refine AllReadyH.cons rfl (fun K9 hK9 => ?_) ?_
              · go_simp
                refine hK9.out _ _ ?_ (fun hS9 => ?_)
                · first
                    | exact HKEEP.out _ hdG
                    | exact HKEEP.out _ hsg.out
                    | exact HKEEP.out _ (hsg.out.alloc _)
                    | exact HKEEP.out _ hs4.out
                    | exact HKEEP.out _ (hs4.out.setCell (p := ⟨bk, b, none⟩) (.inl (HGB.out _ rfl)) _)
                clear hK9 K9
                refine wpAnyH_ready (rs := [19]) (by kernel_rfl) (by simp) ?_
                refine AllReadyH.cons rfl (fun K9 hK9 => ?_) ?_
                · obtain ⟨r4, w4, hr4, hs4, ⟨c4, f4⟩, hp4⟩ := HAPP.out wn _ hsn.out
                  refine step_append_fact (by rfl) (.tmp 45) (.tmp 52) 38 (by rfl) (.slice (R b).ad row.length (R b).cap) (.slice (some ⟨wn.heap.size, 0, none⟩) 1 1) (by rfl) (by rfl) hr4 ?_
                  try go_simp
                  refine hK9.out _ _ ?_ (fun hS9 => ?_)
                  · first
                      | exact HKEEP.out _ hdG
                      | exact HKEEP.out _ hsg.out
                      | exact HKEEP.out _ (hsg.out.alloc _)
                      | exact HKEEP.out _ hs4.out
                      | exact HKEEP.out _ (hs4.out.setCell (p := ⟨bk, b, none⟩) (.inl (HGB.out _ rfl)) _)
                  clear hK9 K9
                  refine wpAnyH_ready (rs := [20]) (by kernel_rfl) (by simp) ?_
                  refine AllReadyH.cons rfl (fun K9 hK9 => ?_) ?_
                  · go_simp
                    refine hK9.out _ _ ?_ (fun hS9 => ?_)
                    · first
                        | exact HKEEP.out _ hdG
                        | exact HKEEP.out _ hsg.out
                        | exact HKEEP.out _ (hsg.out.alloc _)
                        | exact HKEEP.out _ hs4.out
                        | exact HKEEP.out _ (hs4.out.setCell (p := ⟨bk, b, none⟩) (.inl (HGB.out _ rfl)) _)
                    clear hK9 K9
                    refine wpAnyH_ready (rs := [21]) (by kernel_rfl) (by simp) ?_
                    refine AllReadyH.cons rfl (fun K9 hK9 => ?_) ?_
                    · go_simp
                      refine hK9.out _ _ ?_ (fun hS9 => ?_)
                      · first
                          | exact HKEEP.out _ hdG
                          | exact HKEEP.out _ hsg.out
                          | exact HKEEP.out _ (hsg.out.alloc _)
                          | exact HKEEP.out _ hs4.out
                          | exact HKEEP.out _ (hs4.out.setCell (p := ⟨bk, b, none⟩) (.inl (HGB.out _ rfl)) _)
                      clear hK9 K9
                      refine wpAnyH_done (by kernel_rfl) ?_ _
                      go_wp2
                      go_ret
                      exact hp4.out
                    exact AllReadyH.nil
                  exact AllReadyH.nil
                exact AllReadyH.nil
              exact AllReadyH.nil
            exact AllReadyH.nil
          exact AllReadyH.nil
        refine AllReadyH.cons rfl (fun K9 hK9 => ?_) ?_
        · go_simp
          go_at_call 35
          with_reducible refine Calls.mono (CT.out _ (by assumption)) ?_
          rintro e wn ⟨rfl, hsn, hsg, z0, z1⟩
          try go_simp
          refine hK9.out _ _ ?_ (fun hS9 => ?_)
          · first
              | exact HKEEP.out _ hdG
              | exact HKEEP.out _ hsg.out
              | exact HKEEP.out _ (hsg.out.alloc _)
              | exact HKEEP.out _ hs4.out
              | exact HKEEP.out _ (hs4.out.setCell (p := ⟨bk, b, none⟩) (.inl (HGB.out _ rfl)) _)
          clear hK9 K9
          refine wpAnyH_ready (rs := [11, 17]) (by kernel_rfl) (by simp) ?_
          refine AllReadyH.cons rfl (fun K9 hK9 => ?_) ?_
          · go_simp
            refine hK9.out _ _ ?_ (fun hS9 => ?_)
            · first
                | exact HKEEP.out _ hdG
                | exact HKEEP.out _ hsg.out
                | exact HKEEP.out _ (hsg.out.alloc _)
                | exact HKEEP.out _ hs4.out
                | exact HKEEP.out _ (hs4.out.setCell (p := ⟨bk, b, none⟩) (.inl (HGB.out _ rfl)) _)
            clear hK9 K9
            refine wpAnyH_ready (rs := [17]) (by kernel_rfl) (by simp) ?_
            refine AllReadyH.cons rfl (fun K9 hK9 => ?_) ?_
            · go_simp
              refine hK9.out _ _ ?_ (fun hS9 => ?_)
              · first
                  | exact HKEEP.out _ hdG
                  | exact HKEEP.out _ hsg.out
                  | exact HKEEP.out _ (hsg.out.alloc _)
                  | exact HKEEP.out _ hs4.out
                  | exact HKEEP.out _ (hs4.out.setCell (p := ⟨bk, b, none⟩) (.inl (HGB.out _ rfl)) _)
              clear hK9 K9
              refine wpAnyH_ready (rs := [18]) (by kernel_rfl) (by simp) ?_
              refine AllReadyH.cons rfl (fun K9 hK9 => ?_) ?_
              · go_simp
                refine hK9.out _ _ ?_ (fun hS9 => ?_)
                · first
                    | exact HKEEP.out _ hdG
                    | exact HKEEP.out _ hsg.out
                    | exact HKEEP.out _ (hsg.out.alloc _)
                    | exact HKEEP.out _ hs4.out
                    | exact HKEEP.out _ (hs4.out.setCell (p := ⟨bk, b, none⟩) (.inl (HGB.out _ rfl)) _)
                clear hK9 K9
                refine wpAnyH_ready (rs := [19]) (by kernel_rfl) (by simp) ?_
                refine AllReadyH.cons rfl (fun K9 hK9 => ?_) ?_
                · obtain ⟨r4, w4, hr4, hs4, ⟨c4, f4⟩, hp4⟩ := HAPP.out wn _ hsn.out
                  refine step_append_fact (by rfl) (.tmp 45) (.tmp 52) 38 (by rfl) (.slice (R b).ad row.length (R b).cap) (.slice (some ⟨wn.heap.size, 0, none⟩) 1 1) (by rfl) (by rfl) hr4 ?_
                  try go_simp
                  refine hK9.out _ _ ?_ (fun hS9 => ?_)
                  · first
                      | exact HKEEP.out _ hdG
                      | exact HKEEP.out _ hsg.out
                      | exact HKEEP.out _ (hsg.out.alloc _)
                      | exact HKEEP.out _ hs4.out
                      | exact HKEEP.out _ (hs4.out.setCell (p := ⟨bk, b, none⟩) (.inl (HGB.out _ rfl)) _)
                  clear hK9 K9
                  refine wpAnyH_ready (rs := [20]) (by kernel_rfl) (by simp) ?_
                  refine AllReadyH.cons rfl (fun K9 hK9 => ?_) ?_
                  · go_simp
                    refine hK9.out _ _ ?_ (fun hS9 => ?_)
                    · first
                        | exact HKEEP.out _ hdG
                        | exact HKEEP.out _ hsg.out
                        | exact HKEEP.out _ (hsg.out.alloc _)
                        | exact HKEEP.out _ hs4.out
                        | exact HKEEP.out _ (hs4.out.setCell (p := ⟨bk, b, none⟩) (.inl (HGB.out _ rfl)) _)
                    clear hK9 K9
                    refine wpAnyH_ready (rs := [21]) (by kernel_rfl) (by simp) ?_
                    refine AllReadyH.cons rfl (fun K9 hK9 => ?_) ?_
                    · go_simp
                      refine hK9.out _ _ ?_ (fun hS9 => ?_)
                      · first
                          | exact HKEEP.out _ hdG
                          | exact HKEEP.out _ hsg.out
                          | exact HKEEP.out _ (hsg.out.alloc _)
                          | exact HKEEP.out _ hs4.out
                          | exact HKEEP.out _ (hs4.out.setCell (p := ⟨bk, b, none⟩) (.inl (HGB.out _ rfl)) _)
                      clear hK9 K9
                      refine wpAnyH_done (by kernel_rfl) ?_ _
                      go_wp2
                      go_ret
                      exact hp4.out
                    exact AllReadyH.nil
                  exact AllReadyH.nil
                exact AllReadyH.nil
              exact AllReadyH.nil
            exact AllReadyH.nil
          refine AllReadyH.cons rfl (fun K9 hK9 => ?_) ?_
          · go_simp
            refine hK9.out _ _ ?_ (fun hS9 => ?_)
            · first
                | exact HKEEP.out _ hdG
                | exact HKEEP.out _ hsg.out
                | exact HKEEP.out _ (hsg.out.alloc _)
                | exact HKEEP.out _ hs4.out
                | exact HKEEP.out _ (hs4.out.setCell (p := ⟨bk, b, none⟩) (.inl (HGB.out _ rfl)) _)
            clear hK9 K9
            refine wpAnyH_ready (rs := [11, 18]) (by kernel_rfl) (by simp) ?_
            refine AllReadyH.cons rfl (fun K9 hK9 => ?_) ?_
            · go_simp
              refine hK9.out _ _ ?_ (fun hS9 => ?_)
              · first
                  | exact HKEEP.out _ hdG
                  | exact HKEEP.out _ hsg.out
                  | exact HKEEP.out _ (hsg.out.alloc _)
                  | exact HKEEP.out _ hs4.out
                  | exact HKEEP.out _ (hs4.out.setCell (p := ⟨bk, b, none⟩) (.inl (HGB.out _ rfl)) _)
              clear hK9 K9
              refine wpAnyH_ready (rs := [18]) (by kernel_rfl) (by simp) ?_
              refine AllReadyH.cons rfl (fun K9 hK9 => ?_) ?_
              · go_simp
                refine hK9.out _ _ ?_ (fun hS9 => ?_)
                · first
                    | exact HKEEP.out _ hdG
                    | exact HKEEP.out _ hsg.out
                    | exact HKEEP.out _ (hsg.out.alloc _)
                    | exact HKEEP.out _ hs4.out
                    | exact HKEEP.out _ (hs4.out.setCell (p := ⟨bk, b, none⟩) (.inl (HGB.out _ rfl)) _)
                clear hK9 K9
                refine wpAnyH_ready (rs := [19]) (by kernel_rfl) (by simp) ?_
                refine AllReadyH.cons rfl (fun K9 hK9 => ?_) ?_
                · obtain ⟨r4, w4, hr4, hs4, ⟨c4, f4⟩, hp4⟩ := HAPP.out wn _ hsn.out
                  refine step_append_fact (by rfl) (.tmp 45) (.tmp 52) 38 (by rfl) (.slice (R b).ad row.length (R b).cap) (.slice (some ⟨wn.heap.size, 0, none⟩) 1 1) (by rfl) (by rfl) hr4 ?_
                  try go_simp
                  refine hK9.out _ _ ?_ (fun hS9 => ?_)
                  · first
                      | exact HKEEP.out _ hdG
                      | exact HKEEP.out _ hsg.out
                      | exact HKEEP.out _ (hsg.out.alloc _)
                      | exact HKEEP.out _ hs4.out
                      | exact HKEEP.out _ (hs4.out.setCell (p := ⟨bk, b, none⟩) (.inl (HGB.out _ rfl)) _)
                  clear hK9 K9
                  refine wpAnyH_ready (rs := [20]) (by kernel_rfl) (by simp) ?_
                  refine AllReadyH.cons rfl (fun K9 hK9 => ?_) ?_
                  · go_simp
                    refine hK9.out _ _ ?_ (fun hS9 => ?_)
                    · first
                        | exact HKEEP.out _ hdG
                        | exact HKEEP.out _ hsg.out
                        | exact HKEEP.out _ (hsg.out.alloc _)
                        | exact HKEEP.out _ hs4.out
                        | exact HKEEP.out _ (hs4.out.setCell (p := ⟨bk, b, none⟩) (.inl (HGB.out _ rfl)) _)
                    clear hK9 K9
                    refine wpAnyH_ready (rs := [21]) (by kernel_rfl) (by simp) ?_
                    refine AllReadyH.cons rfl (fun K9 hK9 => ?_) ?_
                    · go_simp
                      refine hK9.out _ _ ?_ (fun hS9 => ?_)
                      · first
                          | exact HKEEP.out _ hdG
                          | exact HKEEP.out _ hsg.out
                          | exact HKEEP.out _ (hsg.out.alloc _)
                          | exact HKEEP.out _ hs4.out
                          | exact HKEEP.out _ (hs4.out.setCell (p := ⟨bk, b, none⟩) (.inl (HGB.out _ rfl)) _)
                      clear hK9 K9
                      refine wpAnyH_done (by kernel_rfl) ?_ _
                      go_wp2
                      go_ret
                      exact hp4.out
                    exact AllReadyH.nil
                  exact AllReadyH.nil
                exact AllReadyH.nil
              exact AllReadyH.nil
            refine AllReadyH.cons rfl (fun K9 hK9 => ?_) ?_
            · go_simp
              refine hK9.out _ _ ?_ (fun hS9 => ?_)
              · first
                  | exact HKEEP.out _ hdG
                  | exact HKEEP.out _ hsg.out
                  | exact HKEEP.out _ (hsg.out.alloc _)
                  | exact HKEEP.out _ hs4.out
                  | exact HKEEP.out _ (hs4.out.setCell (p := ⟨bk, b, none⟩) (.inl (HGB.out _ rfl)) _)
              clear hK9 K9
              refine wpAnyH_ready (rs := [11]) (by kernel_rfl) (by simp) ?_
              refine AllReadyH.cons rfl (fun K9 hK9 => ?_) ?_
              · go_simp
                refine hK9.out _ _ ?_ (fun hS9 => ?_)
                · first
                    | exact HKEEP.out _ hdG
                    | exact HKEEP.out _ hsg.out
                    | exact HKEEP.out _ (hsg.out.alloc _)
                    | exact HKEEP.out _ hs4.out
                    | exact HKEEP.out _ (hs4.out.setCell (p := ⟨bk, b, none⟩) (.inl (HGB.out _ rfl)) _)
                clear hK9 K9
                refine wpAnyH_ready (rs := [19]) (by kernel_rfl) (by simp) ?_
                refine AllReadyH.cons rfl (fun K9 hK9 => ?_) ?_
                · obtain ⟨r4, w4, hr4, hs4, ⟨c4, f4⟩, hp4⟩ := HAPP.out wn _ hsn.out
                  refine step_append_fact (by rfl) (.tmp 45) (.tmp 52) 38 (by rfl) (.slice (R b).ad row.length (R b).cap) (.slice (some ⟨wn.heap.size, 0, none⟩) 1 1) (by rfl) (by rfl) hr4 ?_
                  try go_simp
                  refine hK9.out _ _ ?_ (fun hS9 => ?_)
                  · first
                      | exact HKEEP.out _ hdG
                      | exact HKEEP.out _ hsg.out
                      | exact HKEEP.out _ (hsg.out.alloc _)
                      | exact HKEEP.out _ hs4.out
                      | exact HKEEP.out _ (hs4.out.setCell (p := ⟨bk, b, none⟩) (.inl (HGB.out _ rfl)) _)
                  clear hK9 K9
                  refine wpAnyH_ready (rs := [20]) (by kernel_rfl) (by simp) ?_
                  refine AllReadyH.cons rfl (fun K9 hK9 => ?_) ?_
                  · go_simp
                    refine hK9.out _ _ ?_ (fun hS9 => ?_)
                    · first
                        | exact HKEEP.out _ hdG
                        | exact HKEEP.out _ hsg.out
                        | exact HKEEP.out _ (hsg.out.alloc _)
                        | exact HKEEP.out _ hs4.out
                        | exact HKEEP.out _ (hs4.out.setCell (p := ⟨bk, b, none⟩) (.inl (HGB.out _ rfl)) _)
                    clear hK9 K9
                    refine wpAnyH_ready (rs := [21]) (by kernel_rfl) (by simp) ?_
                    refine AllReadyH.cons rfl (fun K9 hK9 => ?_) ?_
                    · go_simp
                      refine hK9.out _ _ ?_ (fun hS9 => ?_)
                      · first
                          | exact HKEEP.out _ hdG
                          | exact HKEEP.out _ hsg.out
                          | exact HKEEP.out _ (hsg.out.alloc _)
                          | exact HKEEP.out _ hs4.out
                          | exact HKEEP.out _ (hs4.out.setCell (p := ⟨bk, b, none⟩) (.inl (HGB.out _ rfl)) _)
                      clear hK9 K9
                      refine wpAnyH_done (by kernel_rfl) ?_ _
                      go_wp2
                      go_ret
                      exact hp4.out
                    exact AllReadyH.nil
                  exact AllReadyH.nil
                exact AllReadyH.nil
              exact AllReadyH.nil
            exact AllReadyH.nil
          exact AllReadyH.nil
        exact AllReadyH.nil
end Go.Proofs.Ytihbjkdgfflnfaa
namespace Go.Proofs.Ytihbjkdgfflnfaa
open Go.RowKit

def ProbePost (row : List Ent) (t : Nat) (w : World) (e : Ending) (w' : World) : Prop :=
  ∃ r, e = .returned (.slice (Row.ad r) (probeF t row).length r.cap) ∧ RowAt (fun b => w.heap.size ≤ b) w' r (probeF t row) ∧ Spares nowhere w w'
theorem wpList_append_fact {P : Program} {w : World} {ops : Array Oper} {rest : List Oper} {o : Oper} {a : Act} {Q : Exit → Act → World → Prop} (hgd : o.guard = none) (s x : Operand) (t : TypeId)
    (ho : o.op = .call { callee := .builtin .append, args := #[s, x], argTypes := #[t, t] }) (v u : Value) (hs : a.eval s = v) (hx : a.eval x = u) {v' : Value} {w' : World}
    (hr : (Builtin.append_ #[t, t] o.type #[v, u]).run P w = .ok v' w') (h : wpList P ops Q rest (a.put o.dst v') w') : wpList P ops Q (o :: rest) a w := by
  refine wpList_plain hgd fun K hK => ?_
  unfold Oper.wp
  simp [execOp, ho, resolve, invoke, builtin, hs, hx, hr, Result.andThen]
  exact hK _ _ h
set_option maxRecDepth 100000 in
set_option maxHeartbeats 4000000 in
theorem refProbe_any (F : Nat → Prop) (p bk n s : Nat) (R : Nat → Row) (E : List (List Ent)) (K : List UInt8) (w : World) (h : IsRef F p bk n s R E w) (hK : K.length = 32) :
    Calls Try.prog 15 #[.pointer (some ⟨p, 0, none⟩), .agg (bytesV K)] w (ProbePost (atRow E (bktF K n)) (tagF K) w) := by
  have hEn := h.rows.len
  have hn0 := h.n0
  have hn1 := h.n1
  obtain ⟨b, hb⟩ : ∃ b, bktF K n = b := ⟨_, rfl⟩
  have hbn : b < n := by rw [← hb]; exact bktF_lt K n h.n0
  obtain ⟨row, hrow⟩ : ∃ row, atRow E b = row := ⟨_, rfl⟩
  have hrow' : E[b]'(by omega) = row := by rw [← hrow]; unfold atRow; rw [List.getD_eq_getElem?_getD, List.getElem?_eq_getElem (by omega)]; rfl
  have hle : row.length ≤ 16 := by rw [← hrow']; exact Nat.le_trans (h.lens _ (List.getElem_mem _)) h.s1
  obtain ⟨ad, had⟩ : ∃ ad, (R b).ad = ad := ⟨_, rfl⟩
  obtain ⟨cp, hcp⟩ : ∃ cp, (R b).cap = cp := ⟨_, rfl⟩
  have hcell : ∀ W, Spares nowhere w W → W.cell? ⟨p, 0, none⟩ = some (.slice (some ⟨bk, 0, none⟩) n n) ∧ W.cell? ⟨bk, b, none⟩ = some (.slice ad row.length cp) ∧ EntsV W ad row := fun W hW => by
    have h' := h.spares hW (fun _ _ _ h => h)
    have hc := (h'.rows.cell b (by omega)).1
    have hr := (h'.rows.row b (by omega)).ents_v
    rw [hrow', had, hcp] at hc
    rw [hrow', had] at hr
    exact ⟨by rw [Lib.cell_of_heap h'.hd]; rfl, hc, hr⟩
  rw [hb, hrow]
  obtain ⟨T, hT⟩ : ∃ T, tagF K = T := ⟨_, rfl⟩
  rw [hT]
  obtain ⟨v, hv⟩ : ∃ v, w.alloc (.cells (bytesV K) 36) = v := ⟨_, rfl⟩
  have hs : Spares nowhere w v := by rw [← hv]; exact (Spares.refl _ w).alloc _
  have hvs : v.heap.size = w.heap.size + 1 := by rw [← hv]; simp
  have hkb : v.heap[w.heap.size]? = some (.cells (bytesV K) 36 (0, 0)) := by rw [← hv]; exact heap_alloc_new w _
  have infoC : (Try.prog.info? 36).map (·.size) = some (Lib.byteCells K).length := by rw [byteCells_len, hK]; kernel_rfl
  have hkr : ∀ W, Spares nowhere v W → W.rangeAt w.heap.size 0 (Lib.byteCells K) := fun W hW j u hj => by
    rw [Lib.cell_of_heap (hW.heap hkb (fun h => h)), Nat.zero_add]; simpa [bytesV] using hj
  have hct : ∀ W, Spares nowhere v W → Hid (∀ x : Kin W, Calls Try.prog 35 #[.agg (bytesV K)] x.wd fun e w'' => e = .returned (.int .u16 (T : Nat)) ∧ ∃ y : Kin W, w'' = y.wd) := fun W hW => Lib.hid (fun x => Kin.calls ((refTag_any K x.wd hK).mono (by rintro e w' ⟨rfl, hs⟩; exact ⟨by rw [hT], hs.below0⟩)))
  have C1 : Hid (∀ x : Kin v, Calls Try.prog 31 #[.pointer (some ⟨p, 0, none⟩), .agg (bytesV K)] x.wd fun e w'' => e = .returned (.int .i64 b) ∧ ∃ y : Kin v, w'' = y.wd) := Lib.hid (fun x => Kin.calls ((refBucket_any K p n n _ x.wd hK hn0 hn1 (hcell _ (hs.trans (Below.spares x.below (fun k hk => .inr hk)))).1).mono (by rintro e w' ⟨rfl, hs⟩; exact ⟨by rw [hb], hs.below0⟩)))
  have k0 : ∀ x : Kin v, x.wd.cell? ⟨p, 0, none⟩ = some (.slice (some ⟨bk, 0, none⟩) n n) := fun x => (hcell _ (hs.trans (Below.spares x.below (fun k hk => .inr hk)))).1
  have k1 : ∀ x : Kin v, x.wd.cell? ⟨bk, b, none⟩ = some (.slice ad row.length cp) := fun x => (hcell _ (hs.trans (Below.spares x.below (fun k hk => .inr hk)))).2.1
  have KK : Hid (∀ W, (∃ x : Kin v, W = x.wd) → W.rangeAt w.heap.size 0 (Lib.byteCells K)) := Lib.hid (by rintro W ⟨x, rfl⟩; exact hkr _ (Below.spares x.below (fun k hk => .inr hk)))
  have HV := Lib.hid hv
  have HVS := Lib.hid hvs
  have HS := Lib.hid hs
  have HC := Lib.hid hcell
  have HI := Lib.hid infoC
  have HKR := Lib.hid hkr
  have HCT := Lib.hid hct
  clear hv hvs hs hkb h hrow hrow' hb hcell infoC hkr hct had hcp hT
  go_enter Try.func15, Try.ntmps15
  go_upto_region 1 with (fail)
  rw [HV.out]
  refine wp_region_kin (by kernel_rfl) (by kernel_rfl) ?_
  repeat (first
    | (refine wpQuiet_step (fun K9 hK9 => ?_); refine quiet_if (.agg (bytesV K)) (by rfl) (fun W hW => quiet_load 36 (.tmp 3) rfl w.heap.size 0 rfl (Lib.byteCells K) _ W (KK.out W hW) Try.underlying36 rfl HI.out) ?_; go_simp; refine hK9 _ ?_; clear hK9 K9)
    | go_big_quiet_step ((go_at_call 31; with_reducible exact C1.out _)))
  refine wpQuiet_nil ?_
  intro _ hx
  obtain ⟨x, rfl⟩ := hx
  have HX : Hid (Spares nowhere v x.wd) := Lib.hid (Below.spares x.below (fun k hk => .inr hk))
  obtain ⟨L, hL⟩ : ∃ L, row.length = L := ⟨_, rfl⟩
  rw [hL] at hle ⊢
  have w0 : IntKind.i64.wrap ((L : Int) - 1) = (L : Int) - 1 := by rw [IntKind.wrap_i64]; omega
  have HL := Lib.hid hL
  clear k0 k1 C1 KK hL
  go_wp2
  go_loopw [6, 7] (fun o i wr => ∃ (m : Nat) (r : Row) (acc : List Ent), m ≤ L ∧ i = .int .i64 ((m : Int) - 1) ∧ o = .slice r.ad acc.length r.cap ∧ Hid (RowAt (fun b => v.heap.size ≤ b) wr r acc) ∧ Hid (acc ++ probeK T row m = probeF T row) ∧ Hid (Spares nowhere v wr)) (fun _ i _ => (intOf i + 1).toNat)
  case atStart =>
    refine ⟨L, ⟨none, 0⟩, [], by omega, rfl, rfl, Lib.hid ⟨by simp, fun _ => rfl, fun b o e => by simp at e, fun b o e => by simp at e⟩, Lib.hid (by unfold probeF; rw [HL.out]; rfl), HX⟩
  case round =>
    obtain ⟨m, r, acc, hm, rfl, rfl, HR, HA, HW⟩ := hrel
    cases m with
    | zero =>
      have i0 : ¬ (0 : Int) ≤ (((0 : Nat) : Int) - 1) := by omega
      go_wp2
      go_ret
      have ha : acc = probeF T row := by rw [← HA.out]; simp [probeK]
      subst ha
      exact ⟨r, rfl, HR.out.mono (fun b hb => by have := HVS.out; omega), HS.out.trans HW.out⟩
    | succ i =>
      rw [show ((i + 1 : Nat) : Int) - 1 = (i : Int) by omega]
      have hil : i < L := by omega
      have hir : i < row.length := by rw [HL.out]; exact hil
      obtain ⟨g, off, rfl, hce⟩ := (HC.out _ (HS.out.trans HW.out)).2.2 i hir
      obtain ⟨t0, ht0⟩ : ∃ t0, row[i].tag = t0 := ⟨_, rfl⟩
      obtain ⟨t1, ht1⟩ : ∃ t1, row[i].at_ = t1 := ⟨_, rfl⟩
      obtain ⟨t2, ht2⟩ : ∃ t2, row[i].sec = t2 := ⟨_, rfl⟩
      obtain ⟨t3, ht3⟩ : ∃ t3, row[i].turn = t3 := ⟨_, rfl⟩
      have e0 : wr.cell? ⟨g, off + i * 4, none⟩ = some (.int .u16 t0) := by rw [← ht0]; exact hce 0 (by omega)
      have e1 : wr.cell? ⟨g, off + i * 4 + 1, none⟩ = some (.int .u32 t1) := by rw [← ht1]; exact hce 1 (by omega)
      have e2 : wr.cell? ⟨g, off + i * 4 + 2, none⟩ = some (.int .u16 t2) := by rw [← ht2]; exact hce 2 (by omega)
      have e3 : wr.cell? ⟨g, off + i * 4 + 3, none⟩ = some (.int .u64 t3) := by rw [← ht3]; exact hce 3 (by omega)
      have hx4 : row[i] = ⟨t0, t1, t2, t3⟩ := Ent.four ht0 ht1 ht2 ht3
      have f0 : ∀ y : Kin wr, y.wd.cell? ⟨g, off + i * 4, none⟩ = some (.int .u16 t0) := fun y => y.cell e0
      have CT := HCT.out wr HW.out
      have KK : Hid (∀ W, (∃ x : Kin wr, W = x.wd) → W.rangeAt w.heap.size 0 (Lib.byteCells K)) := Lib.hid (by rintro W ⟨y, rfl⟩; exact HKR.out _ (HW.out.trans (Below.spares y.below (fun k hk => .inr hk))))
      have w1 : IntKind.i64.wrap ((i : Int) - 1) = (i : Int) - 1 := by rw [IntKind.wrap_i64]; omega
      have HX4 := Lib.hid hx4
      have HE : Hid (∀ y : Kin wr, y.wd.cell? ⟨g, off + i * 4, none⟩ = some (.int .u16 t0) ∧ y.wd.cell? ⟨g, off + i * 4 + 1, none⟩ = some (.int .u32 t1) ∧ y.wd.cell? ⟨g, off + i * 4 + 2, none⟩ = some (.int .u16 t2) ∧ y.wd.cell? ⟨g, off + i * 4 + 3, none⟩ = some (.int .u64 t3)) := Lib.hid (fun y => ⟨y.cell e0, y.cell e1, y.cell e2, y.cell e3⟩)
      clear hce ht0 ht1 ht2 ht3 hx4 e0 e1 e2 e3
      by_cases ht : t0 = T
      · have j0 : ((t0 : Int) == (T : Int)) = true := by simp [ht]
        have HT := Lib.hid ht
        clear ht
        go_upto_region 6 with (fail)
        refine wp_region_kin (by kernel_rfl) (by kernel_rfl) ?_
        repeat (first
          | (refine wpQuiet_step (fun K9 hK9 => ?_); refine quiet_if (.agg (bytesV K)) (by rfl) (fun W hW => quiet_load 36 (.tmp 3) rfl w.heap.size 0 rfl (Lib.byteCells K) _ W (KK.out W hW) Try.underlying36 rfl HI.out) ?_; go_simp; refine hK9 _ ?_; clear hK9 K9)
          | go_big_quiet_step ((go_at_call 35; with_reducible exact CT.out _)))
        refine wpQuiet_nil ?_
        intro _ hy
        obtain ⟨y, rfl⟩ := hy
        obtain ⟨e0, e1, e2, e3⟩ := HE.out y
        have hwy : Spares nowhere wr y.wd := Below.spares y.below (fun k hk => .inr hk)
        have hacc : acc.length ≤ 16 := by
          have h1 := congrArg List.length HA.out
          rw [List.length_append] at h1
          have h2 := probeF_len T row
          rw [HL.out] at h2; omega
        obtain ⟨r', w4, hrun, hr', hsp, _, _⟩ := append_ent (w := y.wd.alloc (.cells #[.int .u16 t0, .int .u32 t1, .int .u16 t2, .int .u64 t3] 41)) ((HR.out.spares hwy (fun _ _ _ h => h)).spares ((Spares.refl nowhere y.wd).alloc _) (fun _ _ _ h => h)) ⟨t0, t1, t2, t3⟩ ⟨y.wd.heap.size, 0, none⟩ 38 (ent_new y.wd ⟨t0, t1, t2, t3⟩) (by omega)
        have HR4 := Lib.hid hr'
        have HSP : Hid (Spares nowhere v w4) := Lib.hid (((HW.out.trans hwy).alloc _).trans' hsp (fun k ⟨o, e⟩ => .inr (HR.out.room k o e).1))
        have hge : v.heap.size ≤ y.wd.heap.size := (HW.out.trans hwy).size
        clear hr' hsp f0 hwy
        go_wp2_with ((with_reducible show wpList _ _ _ (⟨some 38, _, _, _, _, _⟩ :: _) _ _); refine wpList_append_fact rfl (.tmp 32) (.tmp 37) 38 rfl (.slice r.ad acc.length r.cap) (.slice (some ⟨y.wd.heap.size, 0, none⟩) 1 1) rfl rfl hrun ?_)
        go_roundw
        case rel =>
          refine ⟨i, r', acc ++ [⟨t0, t1, t2, t3⟩], by omega, rfl, by simp, Lib.hid (HR4.out.mono (fun k hk => ?_)), Lib.hid ?_, HSP⟩
          · rcases hk with hk | ⟨rfl, _⟩
            · exact hk
            · simp; omega
          · rw [← HA.out, probeK_hit (k := i) hir (by rw [HX4.out]; exact HT.out), HX4.out, List.append_assoc]; rfl
        case measure => simp [intOf]
      · have j0 : ((t0 : Int) == (T : Int)) = false := by simp; omega
        have HT := Lib.hid ht
        clear ht
        go_upto_region 6 with (fail)
        refine wp_region_kin (by kernel_rfl) (by kernel_rfl) ?_
        repeat (first
          | (refine wpQuiet_step (fun K9 hK9 => ?_); refine quiet_if (.agg (bytesV K)) (by rfl) (fun W hW => quiet_load 36 (.tmp 3) rfl w.heap.size 0 rfl (Lib.byteCells K) _ W (KK.out W hW) Try.underlying36 rfl HI.out) ?_; go_simp; refine hK9 _ ?_; clear hK9 K9)
          | go_big_quiet_step ((go_at_call 35; with_reducible exact CT.out _)))
        refine wpQuiet_nil ?_
        intro _ hy
        obtain ⟨y, rfl⟩ := hy
        have hwy : Spares nowhere wr y.wd := Below.spares y.below (fun k hk => .inr hk)
        have HWY := Lib.hid hwy
        clear f0 hwy
        go_wp2
        go_roundw
        case rel =>
          exact ⟨i, r, acc, by omega, rfl, rfl, Lib.hid (HR.out.spares HWY.out (fun _ _ _ h => h)), Lib.hid (by rw [← HA.out, probeK_miss (k := i) hir (by rw [HX4.out]; exact HT.out)]), Lib.hid (HW.out.trans HWY.out)⟩
        case measure => simp [intOf]
end Go.Proofs.Ytihbjkdgfflnfaa
namespace Go.Proofs.Ytihbjkdgfflnfaa
open Go.RowKit

def keyF (k : Nat) : List UInt8 := [0, 0, 0, UInt8.ofNat (k % 7), 0, UInt8.ofNat (k / 16 % 4), 0, 0, 0, UInt8.ofNat (k % 256), 0, 0, 0, 0, 0, 0, 0, 0, 0, 0, 0, 0, 0, 0, 0, 0, 0, 0, 0, 0, 0, 0]
theorem keyF_len (k : Nat) : (keyF k).length = 32 := rfl
theorem and3 (k : Nat) (hk : k < 65536) : Go.bits .and .u16 ((k : Int) / 16) 3 = ((k / 16 % 4 : Nat) : Int) := by
  rw [show ((k : Int) / 16) = ((k / 16 : Nat) : Int) by omega, show (3 : Int) = ((3 : Nat) : Int) from rfl, u16_and_nat _ _ (by omega) (by omega)]
  congr 1
  exact Nat.and_two_pow_sub_one_eq_mod (k / 16) 2
theorem keyRow (k : Nat) (hk : k < 65536) : (#[.int .u8 0, .int .u8 0, .int .u8 0, .int .u8 ((k : Int) % 7), .int .u8 0, .int .u8 (Go.bits .and .u16 ((k : Int) / 16) 3 % 256), .int .u8 0, .int .u8 0, .int .u8 0, .int .u8 ((k : Int) % 256), .int .u8 0, .int .u8 0, .int .u8 0, .int .u8 0, .int .u8 0, .int .u8 0, .int .u8 0, .int .u8 0, .int .u8 0, .int .u8 0, .int .u8 0, .int .u8 0, .int .u8 0, .int .u8 0, .int .u8 0, .int .u8 0, .int .u8 0, .int .u8 0, .int .u8 0, .int .u8 0, .int .u8 0, .int .u8 0] : Array Value) = bytesV (keyF k) := by
  have h0 : ((k : Int) % 7) = (((UInt8.ofNat (k % 7)).toNat : Nat) : Int) := by rw [UInt8.toNat_ofNat']; omega
  have h1 : Go.bits .and .u16 ((k : Int) / 16) 3 % 256 = (((UInt8.ofNat (k / 16 % 4)).toNat : Nat) : Int) := by rw [and3 k hk, UInt8.toNat_ofNat']; omega
  have h2 : ((k : Int) % 256) = (((UInt8.ofNat (k % 256)).toNat : Nat) : Int) := by rw [UInt8.toNat_ofNat']; omega
  rw [h0, h1, h2]
  rfl
theorem infoKey : (Try.prog.info? 36).map (·.size) = some 32 := by kernel_rfl
set_option maxRecDepth 100000 in
set_option maxHeartbeats 4000000 in
theorem key_any (k : Nat) (w : World) (hk : k < 65536) : Calls Try.prog 14 #[.int .u16 k] w fun e w' => e = .returned (.agg (bytesV (keyF k))) ∧ Spares nowhere w w' := by
  have HK := Lib.hid (keyRow k hk)
  obtain ⟨D, hD⟩ : ∃ D, keyF k = D := ⟨_, rfl⟩
  have hDl : D.length = 32 := by rw [← hD]; exact keyF_len k
  rw [hD] at HK ⊢
  clear hD
  go_enter Try.func14, Try.ntmps14
  go_upto_region 3 with (fail)
  rw [HK.out]
  obtain ⟨v, hv⟩ : ∃ v, (w.alloc (.cells (bytesV (List.replicate 32 0)) 36)).alloc (.cells (bytesV D) 36) = v := ⟨_, rfl⟩
  have hz : v.heap[w.heap.size]? = some (.cells (bytesV (List.replicate 32 0)) 36 (0, 0)) := by
    rw [← hv]; exact (Below.heap_alloc _ _ _ (by simp)).trans (heap_alloc_new w _)
  have hd : v.heap[w.heap.size + 1]? = some (.cells (bytesV D) 36 (0, 0)) := by
    rw [← hv]
    have := heap_alloc_new (w.alloc (.cells (bytesV (List.replicate 32 0)) 36)) (.cells (bytesV D) 36)
    simpa using this
  have hs : Spares nowhere w v := by rw [← hv]; exact ((Spares.refl _ w).alloc _).alloc _
  have hat : v.rangeAt (w.heap.size + 1) 0 (Lib.byteCells D) := fun j u hj => by
    rw [Lib.cell_of_heap hd, Nat.zero_add]; simpa [bytesV] using hj
  have infoC : (Try.prog.info? 36).map (·.size) = some (Lib.byteCells D).length := by rw [byteCells_len, hDl]; exact infoKey
  have infoV : (Try.prog.info? 36).map (·.size) = some (bytesV D).size := by rw [bytesV_size, hDl]; exact infoKey
  have htq : v.there w.heap.size 0 (bytesV D).size := there_of hz 0 _ (by rw [bytesV_size, bytesV_size, hDl]; simp)
  have hgq : (v.setCells w.heap.size 0 (Lib.byteCells D)).heap[w.heap.size]? = some (.cells (bytesV D) 36 (0, 0)) := by
    have := heap_setCells (g := w.heap.size) (t := 36) (Lib.byteCells D) [] (Lib.byteCells (List.replicate 32 0)) [] v (by rw [List.append_nil]; exact hz) (by rw [byteCells_len, byteCells_len, hDl]; simp)
    rw [List.append_nil] at this
    exact this
  change Code.wp _ _ _ _ ((w.alloc (.cells (bytesV (List.replicate 32 0)) 36)).alloc (.cells (bytesV D) 36))
  rw [hv]
  have HS := Lib.hid hs
  have HAT := Lib.hid hat
  have HT := Lib.hid htq
  have HGQ := Lib.hid hgq
  have HI := Lib.hid infoC
  have HI2 := Lib.hid infoV
  clear hs hat htq hgq infoC infoV hz hd hv HK
  go_wp2_with (first
    | ((with_reducible show wpList _ _ _ (⟨some 16, .load 36 _, _, _, _, _⟩ :: _) _ _); refine wpList_load_mid rfl 36 (.tmp 3) rfl (w.heap.size + 1) 0 rfl (Lib.byteCells D) _ HAT.out Try.underlying36 rfl HI.out ?_)
    | ((with_reducible show wpList _ _ _ (⟨none, .store 36 _ _, _, _, _, _⟩ :: _) _ _); refine wpList_store_mid rfl 36 (.tmp 2) (.tmp 16) rfl w.heap.size 0 (bytesV D) rfl rfl HT.out HI2.out (bytesV_one _) ?_))
  exact bodyPost_ret (v := .agg (bytesV D)) (results_cell_row rfl _ _ w.heap.size 36 (bytesV D) (0, 0) _ rfl HGQ.out Try.underlying36 (by rfl) HI2.out) rfl ⟨rfl, HS.out.trans' (F' := fun b => b = w.heap.size) (spares_cells _ _ (Spares.refl _ _)) (fun b hb => .inr (by omega))⟩
end Go.Proofs.Ytihbjkdgfflnfaa
