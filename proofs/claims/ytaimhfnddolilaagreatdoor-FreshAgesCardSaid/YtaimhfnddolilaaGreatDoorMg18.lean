/-
  ctrl.Parse.
  The reference's value: a part's name, its value, whether there is an equals sign.
  The reference's value, walked.
  The reference's least and Control.
-/
import Derived.Deep.MidRow
import Derived.Test.YtaimhfnddolilaaGreatDoorMg2
import Derived.Test.YtaimhfnddolilaaGreatDoorMg7
import Derived.Test.YtaimhfnddolilaaGreatDoorMg13
import Derived.Test.YtaimhfnddolilaaGreatDoorMg17
namespace Go.Proofs.YtaimhfnddolilaaGreatDoor.CtrlS
open Go.RowKit HeadMath HeadS

theorem parts_len (v : ByteArray) : ∀ n, v.size ≤ n → (partsF v).length ≤ v.size := by
  intro n
  induction n generalizing v with
  | zero => intro hn; rw [partsF_nil (by omega)]; exact Nat.zero_le _
  | succ n ih =>
    intro hn
    by_cases h0 : v.size = 0
    · rw [partsF_nil h0]; exact Nat.zero_le _
    · have hr := restOf_size v
      have := ih (restOf v) (by omega)
      by_cases hq : (pieceOf v).size = 0
      · rw [partsF_skip h0 hq]; omega
      · rw [partsF_take h0 hq, List.length_cons]; omega
theorem flat_len {l : List ByteArray} {f : ByteArray → List ByteArray} {m : Nat} (h : ∀ v ∈ l, (f v).length ≤ m) : (l.flatMap f).length ≤ l.length * m := by
  induction l with
  | nil => simp
  | cons a l ih =>
    rw [List.flatMap_cons, List.length_append, List.length_cons, Nat.add_mul]
    have := h a (by simp)
    have := ih (fun v hv => h v (by simp [hv]))
    omega
theorem list_len {fs : List (ByteArray × ByteArray)} (h : FewF fs) (n : ByteArray) : (listF n fs).length ≤ 100000000000 := by
  have h1 : (listF n fs).length ≤ (allF n fs).length * 1000000 := flat_len (fun v hv => by
    have := allF_size (n := n) (c := 1000000) (fun j hj => (h.2 j hj).2) v hv
    have := parts_len v _ (Nat.le_refl _)
    omega)
  have h2 : (allF n fs).length ≤ fs.length := by
    unfold allF
    rw [List.length_map]
    exact List.length_filter_le _ _
  have := h.1
  have h3 : (allF n fs).length * 1000000 ≤ 100000 * 1000000 := Nat.mul_le_mul_right _ (by omega)
  omega
/-- A row of texts that the call has made. -/
def RowB (w : World) (r : List ByteArray) (e : Ending) (w' : World) : Prop :=
  ∃ a c, e = .returned (.slice a r.length c) ∧ (∀ j (h : j < r.length), ∃ b, a = some ⟨b, 0, none⟩ ∧ w.heap.size ≤ b ∧ b < w'.heap.size ∧ w'.cell? ⟨b, j, none⟩ = some (.string r[j])) ∧ Below w.heap.size w w'
theorem row_b {w w' : World} {r : List ByteArray} {e : Ending} (h : RowPost w r e w') : RowB w r e w' := by
  obtain ⟨v, rfl, hown, hb⟩ := h
  by_cases h0 : r = []
  · subst h0
    rcases hown.2 with ⟨rfl, _⟩ | ⟨g, c, cur, rfl, _⟩
    · exact ⟨none, 0, rfl, (fun j h => absurd h (Nat.not_lt_zero _)), hb⟩
    · exact ⟨_, c, rfl, (fun j h => absurd h (Nat.not_lt_zero _)), hb⟩
  · obtain ⟨g, cap, rfl, h1, h2⟩ := hown.form (List.length_pos_iff.2 h0)
    refine ⟨_, cap, rfl, fun j hj => ⟨g, rfl, h1, h2, ?_⟩, hb⟩
    have := hown.cells (g := g) rfl j _ (strCells_at hj)
    have e : (⟨g, 0, none⟩ : Addr).add j = ⟨g, j, none⟩ := by unfold Addr.add; by_cases h0 : j = 0 <;> simp [h0]
    rwa [e] at this
def ctlL (r : List ByteArray) : Ctl := r.foldl sayF ctl0
def parseF (fs : List (ByteArray × ByteArray)) : Ctl := if allF cacheN fs = [] then { ctlL (listF cacheN fs) with noCache := elder (listF pragmaN fs) } else ctlL (listF cacheN fs)
def ctlV (c : Ctl) : Value := .agg #[.bool c.noStore, .bool c.noCache, .bool c.priv, .bool c.pub, .bool c.must, .bool c.prox, .bool c.only, .bool c.anyStale, .int .i64 c.maxA, .int .i64 c.sMax, .int .i64 c.minF, .int .i64 c.maxS]
def ParsePost (fs : List (ByteArray × ByteArray)) (w : World) (e : Ending) (w' : World) : Prop := e = .returned (ctlV (parseF fs)) ∧ Below w.heap.size w w'
theorem infoCtl : (Tryz.prog.info? 29).map (·.size) = some 12 := by kernel_rfl
theorem onesCtl (c : Ctl) : (#[.bool c.noStore, .bool c.noCache, .bool c.priv, .bool c.pub, .bool c.must, .bool c.prox, .bool c.only, .bool c.anyStale, .int .i64 c.maxA, .int .i64 c.sMax, .int .i64 c.minF, .int .i64 c.maxS] : Array Value).all (·.oneCell') = true := by simp [Value.oneCell']
theorem ctl_stored {v : World} {g : Nat} (c : Ctl) {cs : List Value} (hl : cs.length = 12) (h : v.heap[g]? = some (.cells cs.toArray 29 (0, 0))) :
    v.there g 0 (#[.bool c.noStore, .bool c.noCache, .bool c.priv, .bool c.pub, .bool c.must, .bool c.prox, .bool c.only, .bool c.anyStale, .int .i64 c.maxA, .int .i64 c.sMax, .int .i64 c.minF, .int .i64 c.maxS] : Array Value).size ∧ (v.setCells g 0 [.bool c.noStore, .bool c.noCache, .bool c.priv, .bool c.pub, .bool c.must, .bool c.prox, .bool c.only, .bool c.anyStale, .int .i64 c.maxA, .int .i64 c.sMax, .int .i64 c.minF, .int .i64 c.maxS]).heap[g]? = some (.cells #[.bool c.noStore, .bool c.noCache, .bool c.priv, .bool c.pub, .bool c.must, .bool c.prox, .bool c.only, .bool c.anyStale, .int .i64 c.maxA, .int .i64 c.sMax, .int .i64 c.minF, .int .i64 c.maxS] 29 (0, 0)) := by
  refine ⟨there_of h 0 _ (by simp [hl]), ?_⟩
  have := heap_setCells (g := g) (t := 29) [.bool c.noStore, .bool c.noCache, .bool c.priv, .bool c.pub, .bool c.must, .bool c.prox, .bool c.only, .bool c.anyStale, .int .i64 c.maxA, .int .i64 c.sMax, .int .i64 c.minF, .int .i64 c.maxS] [] cs [] v (by simpa using h) (by rw [hl]; rfl)
  simpa using this
theorem ctl_reads {v : World} {g : Nat} {c : Ctl} (h : CtlAt v g c) : v.cell? ⟨g, 0, none⟩ = some (.bool c.noStore) ∧ v.cell? ⟨g, 1, none⟩ = some (.bool c.noCache) ∧ v.cell? ⟨g, 2, none⟩ = some (.bool c.priv) ∧ v.cell? ⟨g, 3, none⟩ = some (.bool c.pub) ∧ v.cell? ⟨g, 4, none⟩ = some (.bool c.must) ∧ v.cell? ⟨g, 5, none⟩ = some (.bool c.prox) ∧ v.cell? ⟨g, 6, none⟩ = some (.bool c.only) ∧ v.cell? ⟨g, 7, none⟩ = some (.bool c.anyStale) ∧ v.cell? ⟨g, 8, none⟩ = some (.int .i64 c.maxA) ∧ v.cell? ⟨g, 9, none⟩ = some (.int .i64 c.sMax) ∧ v.cell? ⟨g, 10, none⟩ = some (.int .i64 c.minF) ∧ v.cell? ⟨g, 11, none⟩ = some (.int .i64 c.maxS) := by
  unfold CtlAt at h
  refine ⟨?_, ?_, ?_, ?_, ?_, ?_, ?_, ?_, ?_, ?_, ?_, ?_⟩ <;> (rw [Lib.cell_of_heap h]; rfl)
theorem below_set {w v : World} (h : Below w.heap.size w v) (vs : List Value) : Below w.heap.size w (v.setCells w.heap.size 0 vs) :=
  h.trans ((spares_setCells (g := w.heap.size) (w := v) vs 0 v (Spares.refl _ _)).below h.size (fun k hk e => by omega))
theorem below_cell {w v : World} (h : Below w.heap.size w v) {g j : Nat} (hg : w.heap.size ≤ g) (u : Value) : Below w.heap.size w (v.setCell ⟨g, j, none⟩ u) :=
  h.trans (((Spares.refl (fun b => b = g) v).setCell (p := ⟨g, j, none⟩) (.inl rfl) u).below h.size (fun k hk e => by omega))
theorem take_fold {r : List ByteArray} {k : Nat} (hk : k < r.length) (c : Ctl) : (r.take (k + 1)).foldl sayF c = sayF ((r.take k).foldl sayF c) r[k] := by
  rw [List.take_succ_eq_append_getElem hk, List.foldl_append]; rfl
set_option maxRecDepth 100000 in
set_option maxHeartbeats 8000000 in
theorem parse_any (fs : List (ByteArray × ByteArray)) (a : Option Addr) (c : Nat) (w : World) (hin : FieldsIn w.heap.size w a fs) (hf : FewF fs) :
    Calls Tryz.prog 33 #[.slice a fs.length c] w (ParsePost fs w) := by
  obtain ⟨w0, hw0⟩ : ∃ w0, (w.alloc (.cells #[.bool false, .bool false, .bool false, .bool false, .bool false, .bool false, .bool false, .bool false, .int .i64 0, .int .i64 0, .int .i64 0, .int .i64 0] 29)).alloc (.cells #[.bool false, .bool false, .bool false, .bool false, .bool false, .bool false, .bool false, .bool false, .int .i64 (-1), .int .i64 (-1), .int .i64 (-1), .int .i64 (-1)] 29) = w0 := ⟨_, rfl⟩
  have hz0 : w0.heap.size = w.heap.size + 2 := by rw [← hw0]; simp
  have hs0 : Spares nowhere w w0 := by rw [← hw0]; exact ((Spares.refl nowhere w).alloc _).alloc _
  have hc0 : CtlAt w0 (w.heap.size + 1) ctl0 := by
    show w0.heap[w.heap.size + 1]? = _
    rw [← hw0]
    have e := heap_alloc_new (w.alloc (.cells #[.bool false, .bool false, .bool false, .bool false, .bool false, .bool false, .bool false, .bool false, .int .i64 0, .int .i64 0, .int .i64 0, .int .i64 0] 29)) (.cells #[.bool false, .bool false, .bool false, .bool false, .bool false, .bool false, .bool false, .bool false, .int .i64 (-1), .int .i64 (-1), .int .i64 (-1), .int .i64 (-1)] 29)
    have hz : (w.alloc (.cells #[.bool false, .bool false, .bool false, .bool false, .bool false, .bool false, .bool false, .bool false, .int .i64 0, .int .i64 0, .int .i64 0, .int .i64 0] 29)).heap.size = w.heap.size + 1 := by simp
    rw [hz] at e
    exact e
  have hr0 : w0.heap[w.heap.size]? = some (.cells #[.bool false, .bool false, .bool false, .bool false, .bool false, .bool false, .bool false, .bool false, .int .i64 0, .int .i64 0, .int .i64 0, .int .i64 0] 29 (0, 0)) := by
    rw [← hw0, Below.heap_alloc _ _ _ (by simp)]
    exact heap_alloc_new w _
  have hin0 : ∀ x, Below w.heap.size w x → FieldsIn x.heap.size x a fs := fun x hx j hj => by
    obtain ⟨b, off, h1, h2, h3, h4⟩ := hin j hj
    exact ⟨b, off, h1, Nat.lt_of_lt_of_le h2 hx.size, (hx.cell (p := ⟨b, off + j * 2, none⟩) h2).trans h3, (hx.cell (p := ⟨b, off + j * 2 + 1, none⟩) h2).trans h4⟩
  have HIN := Lib.hid hin0
  have HF := Lib.hid hf
  have HSZ := Lib.hid (list_size hf cacheN)
  have hll := list_len hf cacheN
  have cL := (list_any fs cacheN a c w0 (hin0 w0 hs0.below0) hf.small (by have := hf.1; omega) (fun j hj => (hf.2 j hj).2) (by decide)).mono fun _ _ h => row_b h
  unfold RowB at cL
  have HP : Hid (parseF fs = if allF cacheN fs = [] then { ctlL (listF cacheN fs) with noCache := elder (listF pragmaN fs) } else ctlL (listF cacheN fs)) := Lib.hid rfl
  obtain ⟨r, hr⟩ : ∃ r, listF cacheN fs = r := ⟨_, rfl⟩
  rw [hr] at cL HSZ hll HP
  have HW0 := Lib.hid hw0
  have HS0 := Lib.hid hs0
  have HC0 := Lib.hid hc0
  have HR0 := Lib.hid hr0
  have HZ0 := Lib.hid hz0
  have hfl := hf.1
  clear hin hf hr hin0 hw0 hs0 hc0 hr0 hz0
  unfold ParsePost
  go_enter Tryz.func33, Tryz.ntmps33
  go_wp2_with fail
  change Calls _ _ _ ((w.alloc (.cells #[.bool false, .bool false, .bool false, .bool false, .bool false, .bool false, .bool false, .bool false, .int .i64 0, .int .i64 0, .int .i64 0, .int .i64 0] 29)).alloc (.cells #[.bool false, .bool false, .bool false, .bool false, .bool false, .bool false, .bool false, .bool false, .int .i64 (-1), .int .i64 (-1), .int .i64 (-1), .int .i64 (-1)] 29)) _
  rw [HW0.out]
  refine cL.mono ?_
  rintro e w1 ⟨a1, c1, rfl, hs1, hb1⟩
  have HS1 := Lib.hid hs1
  have HB1 := Lib.hid hb1
  clear cL hs1 hb1
  go_wp2
  go_loopw [10] (fun i wr => ∃ k : Nat, k ≤ r.length ∧ i = .int .i64 k ∧ Hid (CtlAt wr (w.heap.size + 1) ((r.take k).foldl sayF ctl0)) ∧ Hid (Spares (fun b => b = w.heap.size + 1) w1 wr)) (fun i _ => r.length - (intOf i).toNat)
  case atStart => exact ⟨0, Nat.zero_le _, rfl, Lib.hid (HC0.out.spares (Below.spares (F := nowhere) HB1.out (fun k hk => .inr hk)) (fun h => h)), Lib.hid (Spares.refl _ _)⟩
  case round =>
    obtain ⟨k, hk, rfl, HC, HB⟩ := hrel
    by_cases hkl : k < r.length
    · obtain ⟨b, rfl, hb0, hbl, hc0⟩ := HS1.out k hkl
      have x0 := (HB.out.cell (p := ⟨b, k, none⟩) hbl (by show ¬ b = _; have := HZ0.out; omega)).trans hc0
      have hps := HSZ.out r[k] (List.getElem_mem hkl)
      have HT := Lib.hid (take_fold hkl ctl0)
      obtain ⟨p, hp⟩ : ∃ p, r[k] = p := ⟨_, rfl⟩
      rw [hp] at x0 hps HT
      clear hp hc0 hbl hb0
      go_wp2_with fail
      refine (say_any _ p (w.heap.size + 1) wr HC.out (by omega)).mono ?_
      rintro e w2 ⟨rfl, hc2, hs2⟩
      have HC2 := Lib.hid hc2
      have HS2 := Lib.hid (HB.out.trans hs2)
      clear hc2 hs2
      go_wp2
      go_roundw
      case rel => exact ⟨k + 1, by omega, by go_num, Lib.hid (by rw [HT.out]; exact HC2.out), HS2⟩
      case measure => simp [intOf]; omega
    · have HE : Hid ((r.take k).foldl sayF ctl0 = ctlL r) := Lib.hid (by rw [List.take_of_length_le (by omega)]; rfl)
      have hc := HC.out
      rw [HE.out] at hc
      have hsx : Spares (fun b => b = w.heap.size + 1) w0 wr := (Below.spares (F := fun b => b = w.heap.size + 1) HB1.out (fun k hk => .inr hk)).trans HB.out
      have hrr : wr.heap[w.heap.size]? = some (.cells #[.bool false, .bool false, .bool false, .bool false, .bool false, .bool false, .bool false, .bool false, .int .i64 0, .int .i64 0, .int .i64 0, .int .i64 0] 29 (0, 0)) := hsx.heap HR0.out (by omega)
      have hbw : Below w.heap.size w wr := (HS0.out.below0).trans (hsx.below (by have := HZ0.out; omega) (fun k hk => by omega))
      have cA := (all_any fs cacheN a c wr (HIN.out wr hbw) HF.out.small (by omega) (by decide)).mono fun _ _ h => row_b h
      unfold RowB at cA
      have HCC := Lib.hid hc
      have HRR := Lib.hid hrr
      have HBW := Lib.hid hbw
      clear hc hsx hrr hbw HC HB
      go_wp2_with fail
      refine cA.mono ?_
      rintro e w3 ⟨a3, c3, rfl, _, hb3⟩
      clear cA
      have hlt := (Array.getElem?_eq_some_iff.1 HCC.out).1
      have hc3 : CtlAt w3 (w.heap.size + 1) (ctlL r) := HCC.out.spares (Below.spares (F := nowhere) hb3 (fun k hk => .inr hk)) (fun h => h)
      have hr3 : w3.heap[w.heap.size]? = some (.cells #[.bool false, .bool false, .bool false, .bool false, .bool false, .bool false, .bool false, .bool false, .int .i64 0, .int .i64 0, .int .i64 0, .int .i64 0] 29 (0, 0)) := (hb3.block _ (by omega)).trans HRR.out
      have hb3w := HBW.out.trans (hb3.mono HBW.out.size)
      have HC3 := Lib.hid hc3
      have HR3 := Lib.hid hr3
      have HB3 := Lib.hid hb3w
      clear hc3 hr3 hb3w hb3 hlt
      by_cases hal : allF cacheN fs = []
      · have q0 : (((allF cacheN fs).length : Int) == 0) = true := by rw [hal]; rfl
        have HV : Hid (parseF fs = { ctlL r with noCache := elder (listF pragmaN fs) }) := Lib.hid (by rw [HP.out, if_pos hal])
        have cP := pragma_any fs a c w3 (HIN.out w3 HB3.out) HF.out (by have := list_len HF.out pragmaN; omega)
        obtain ⟨bb, hbb⟩ : ∃ bb, elder (listF pragmaN fs) = bb := ⟨_, rfl⟩
        obtain ⟨x, hx⟩ : ∃ x, ctlL r = x := ⟨_, rfl⟩
        rw [hbb] at cP HV
        rw [hx] at HC3 HV
        clear hal hbb hx
        go_wp2_with fail
        refine cP.mono ?_
        rintro e w4 ⟨rfl, hb4⟩
        clear cP
        have hlt := (Array.getElem?_eq_some_iff.1 HC3.out).1
        have hc4 : CtlAt w4 (w.heap.size + 1) x := HC3.out.spares (Below.spares (F := nowhere) hb4 (fun k hk => .inr hk)) (fun h => h)
        have HC4 := Lib.hid hc4
        have hr4 : w4.heap[w.heap.size]? = some (.cells #[.bool false, .bool false, .bool false, .bool false, .bool false, .bool false, .bool false, .bool false, .int .i64 0, .int .i64 0, .int .i64 0, .int .i64 0] 29 (0, 0)) := (hb4.block _ (by omega)).trans HR3.out
        have HTQ := Lib.hid (ctl_stored (v := w4.setCell ⟨w.heap.size + 1, 1, none⟩ (.bool bb)) (g := w.heap.size) { x with noCache := bb } (cs := [.bool false, .bool false, .bool false, .bool false, .bool false, .bool false, .bool false, .bool false, .int .i64 0, .int .i64 0, .int .i64 0, .int .i64 0]) (by rfl) (by rw [Below.heap_setCell _ _ _ _ (by show ¬ w.heap.size = w.heap.size + 1; omega)]; exact hr4))
        have HB4 := Lib.hid (HB3.out.trans (hb4.mono HB3.out.size))
        have fz : w4.frozen? ⟨w.heap.size + 1, 1, none⟩ = false := Lib.frozen_of_heap hc4 1
        clear hc4 hr4 hb4 hlt
        obtain ⟨n0, n1, n2, n3, n4, n5, n6, n7, n8, n9, n10, n11⟩ := ctl_reads HC4.out
        go_wp2_with ((with_reducible show wpList _ _ _ (⟨none, .store 29 _ _, _, _, _, _⟩ :: _) _ _); refine wpList_store_mid rfl 29 (.tmp 2) (.tmp 24) rfl w.heap.size 0 #[.bool { x with noCache := bb }.noStore, .bool { x with noCache := bb }.noCache, .bool { x with noCache := bb }.priv, .bool { x with noCache := bb }.pub, .bool { x with noCache := bb }.must, .bool { x with noCache := bb }.prox, .bool { x with noCache := bb }.only, .bool { x with noCache := bb }.anyStale, .int .i64 { x with noCache := bb }.maxA, .int .i64 { x with noCache := bb }.sMax, .int .i64 { x with noCache := bb }.minF, .int .i64 { x with noCache := bb }.maxS] rfl rfl HTQ.out.1 infoCtl (onesCtl _) ?_)
        exact bodyPost_ret (v := ctlV { x with noCache := bb }) (results_cell_row rfl _ _ w.heap.size 29 #[.bool { x with noCache := bb }.noStore, .bool { x with noCache := bb }.noCache, .bool { x with noCache := bb }.priv, .bool { x with noCache := bb }.pub, .bool { x with noCache := bb }.must, .bool { x with noCache := bb }.prox, .bool { x with noCache := bb }.only, .bool { x with noCache := bb }.anyStale, .int .i64 { x with noCache := bb }.maxA, .int .i64 { x with noCache := bb }.sMax, .int .i64 { x with noCache := bb }.minF, .int .i64 { x with noCache := bb }.maxS] (0, 0) _ rfl HTQ.out.2 Tryz.underlying29 (by rfl) infoCtl) rfl ⟨by rw [HV.out], below_set (below_cell HB4.out (by simp) _) _⟩
      · have q0 : (((allF cacheN fs).length : Int) == 0) = false := by
          rw [beq_eq_false_iff_ne]
          intro h
          exact hal (List.eq_nil_of_length_eq_zero (by omega))
        have HV : Hid (parseF fs = ctlL r) := Lib.hid (by rw [HP.out, if_neg hal])
        clear hal
        obtain ⟨x, hx⟩ : ∃ x, ctlL r = x := ⟨_, rfl⟩
        rw [hx] at HC3 HV
        have HTQ := Lib.hid (ctl_stored x (cs := [.bool false, .bool false, .bool false, .bool false, .bool false, .bool false, .bool false, .bool false, .int .i64 0, .int .i64 0, .int .i64 0, .int .i64 0]) (by rfl) HR3.out)
        obtain ⟨n0, n1, n2, n3, n4, n5, n6, n7, n8, n9, n10, n11⟩ := ctl_reads HC3.out
        go_wp2_with ((with_reducible show wpList _ _ _ (⟨none, .store 29 _ _, _, _, _, _⟩ :: _) _ _); refine wpList_store_mid rfl 29 (.tmp 2) (.tmp 24) rfl w.heap.size 0 #[.bool x.noStore, .bool x.noCache, .bool x.priv, .bool x.pub, .bool x.must, .bool x.prox, .bool x.only, .bool x.anyStale, .int .i64 x.maxA, .int .i64 x.sMax, .int .i64 x.minF, .int .i64 x.maxS] rfl rfl HTQ.out.1 infoCtl (onesCtl _) ?_)
        exact bodyPost_ret (v := ctlV x) (results_cell_row rfl _ _ w.heap.size 29 #[.bool x.noStore, .bool x.noCache, .bool x.priv, .bool x.pub, .bool x.must, .bool x.prox, .bool x.only, .bool x.anyStale, .int .i64 x.maxA, .int .i64 x.sMax, .int .i64 x.minF, .int .i64 x.maxS] (0, 0) _ rfl HTQ.out.2 Tryz.underlying29 (by rfl) infoCtl) rfl ⟨by rw [HV.out], below_set HB3.out _⟩
end Go.Proofs.YtaimhfnddolilaaGreatDoor.CtrlS
namespace Go.Proofs.YtaimhfnddolilaaGreatDoor.CtrlS
open Go.RowKit HeadMath HeadS

def midL (v : ByteArray) : List UInt8 := (v.data.toList.drop 1).dropLast
theorem midL_len (v : ByteArray) : (midL v).length = v.size - 2 := by unfold midL; rw [List.length_dropLast, List.length_drop, size_list]; omega
theorem midL_next {v : ByteArray} {k : Nat} (h1 : 1 ≤ k) (h2 : k + 1 < v.size) : (midL v).drop (k - 1) = v[k] :: (midL v).drop k := by
  have hl := midL_len v
  rw [List.drop_eq_getElem_cons (by omega)]
  have e : (midL v)[k - 1]'(by omega) = v[k] := by
    unfold midL
    rw [List.getElem_dropLast, List.getElem_drop]
    have : 1 + (k - 1) = k := by omega
    simp only [this]
    rfl
  rw [e, show k - 1 + 1 = k by omega]
theorem midL_end {v : ByteArray} {k : Nat} (h : ¬ k + 1 < v.size) : (midL v).drop (k - 1) = [] := List.drop_of_length_le (by rw [midL_len]; omega)
theorem walkR_skip {d : UInt8} {r acc : List UInt8} : walkR (92 :: d :: r) acc = walkR r (acc ++ [d]) := by rw [walkR, if_pos rfl]
theorem walkR_other {c : UInt8} {r acc : List UInt8} (h : c ≠ 92 ∨ r = []) : walkR (c :: r) acc = walkR r (acc ++ [c]) := by
  cases r with
  | nil => simp [walkR]
  | cons d r =>
    have h92 : c ≠ 92 := by rcases h with h | h; exact h; cases h
    rw [walkR, if_neg h92]
def InnerAt (v : ByteArray) (k : Nat) (acc : List UInt8) : Prop := walkR (midL v) [] = walkR ((midL v).drop (k - 1)) acc ∧ acc.length ≤ k
theorem unqR_quoted {v : ByteArray} (h2 : 2 ≤ v.size) (h0 : v[0] = 34) (hl : v[v.size - 1] = 34) : unqR v.data.toList = walkR (midL v) [] := by
  have e := drop_next (s := v) (k := 0) (by omega)
  rw [List.drop_zero, h0] at e
  have hr : (v.data.toList.drop 1).getLast? = some 34 := by
    rw [List.getLast?_drop, if_neg (by rw [size_list]; omega), List.getLast?_eq_getElem?, size_list, List.getElem?_eq_getElem (by rw [size_list]; omega)]
    congr 1
  unfold midL
  generalize v.data.toList.drop 1 = r at e hr
  have e' : v.data.toList = 34 :: r := e
  rw [e']
  unfold unqR
  simp only [hr, if_true]
theorem unqR_plain {v : ByteArray} (h : v.size < 2 ∨ ∃ h : 2 ≤ v.size, v[0] ≠ 34 ∨ v[v.size - 1] ≠ 34) : unqR v.data.toList = v.data.toList := by
  unfold unqR
  split
  · rename_i r e
    split
    · rename_i hr
      exfalso
      have hs : v.size = r.length + 1 := by have := congrArg List.length e; rw [size_list] at this; simpa using this
      cases r with
      | nil => cases hr
      | cons d r =>
        rcases h with h | ⟨h, h0 | hl⟩
        · simp at hs; omega
        · have e0 := drop_next (s := v) (k := 0) (by omega)
          rw [List.drop_zero, e] at e0
          injection e0 with e1 _
          exact h0 e1.symm
        · have e1 : v.data.toList[v.size - 1]? = some 34 := by
            rw [e, hs, List.getElem?_cons]
            simp only [List.length_cons, Nat.add_sub_cancel]
            rw [if_neg (by simp)]
            rw [List.getLast?_eq_getElem?] at hr
            simpa using hr
          rw [List.getElem?_eq_getElem (by rw [size_list]; omega)] at e1
          injection e1 with e1
          exact hl e1
    · exact e.symm
  · rfl
def ValPost (s : ByteArray) (w : World) (e : Ending) (w' : World) : Prop :=
  e = .returned (.tuple #[.string ⟨(lowF (namP s).data.toList).toArray⟩, .string ⟨(unqR (valP s).data.toList).toArray⟩, .bool (hasP s)]) ∧ Below w.heap.size w w'
end Go.Proofs.YtaimhfnddolilaaGreatDoor.CtrlS
namespace Go.Proofs.YtaimhfnddolilaaGreatDoor.CtrlS
open Go.RowKit HeadMath HeadS

theorem bytesAt_newC (w : World) (x : UInt8) : BytesAt (w.alloc (.cells #[.int .u8 (x.toNat : Int)] 5)) (some ⟨w.heap.size, 0, none⟩) [x] := by
  intro k hk
  obtain rfl : k = 0 := by simpa using hk
  exact ⟨_, 0, rfl, by simp [go_sem]⟩
set_option maxRecDepth 100000 in
set_option maxHeartbeats 16000000 in
theorem refValue_any (s : ByteArray) (w : World) (hs : s.size ≤ 1000000000) : Calls Tryz.prog 40 #[.string s] w (ValPost s w) := by
  unfold ValPost
  have HVS := Lib.hid (valP_size s)
  go_enter Tryz.func40, Tryz.ntmps40
  go_wp2
  go_loop [5] (fun i => ∃ k : Nat, k ≤ s.size ∧ i = .int .i64 k ∧ Hid (∀ j (h : j < s.size), j < k → s[j] ≠ 61)) (fun i => s.size - (intOf i).toNat)
  case atStart => exact ⟨0, Nat.zero_le _, rfl, Lib.hid (fun j _ h => absurd h (Nat.not_lt_zero _))⟩
  case round =>
    obtain ⟨k0, hk0, rfl, HA⟩ := hrel
    by_cases hlt : k0 < s.size
    · by_cases h61 : s[k0] = 61
      · have q61 : ((s[k0].toNat : Int) == 61) = true := by rw [h61]; rfl
        have heq := eq_is hlt h61 HA.out
        have hn : ¬ eqAt s < 0 := by omega
        have HNM : Hid (namP s = s.extract 0 k0) := Lib.hid (by unfold namP; rw [if_neg hn, heq]; rfl)
        have hvl : s.extract (k0 + 1) s.size = valP s := by unfold valP; rw [if_neg hn, heq]; rfl
        have HHS : Hid (hasP s = true) := Lib.hid (by unfold hasP; rw [decide_eq_false hn]; rfl)
        obtain ⟨v, hv⟩ : ∃ v, valP s = v := ⟨_, rfl⟩
        rw [hv] at hvl HVS
        have HV := Lib.hid hv
        have HVL := Lib.hid hvl
        have hvs := HVS.out
        clear h61 heq hn hv HA
        have cL := fun w => refLow_any (s.extract 0 k0) w (by rw [ByteArray.size_extract]; omega)
        obtain ⟨lo, hlo⟩ : ∃ lo : ByteArray, (⟨(lowF (s.extract 0 k0).data.toList).toArray⟩ : ByteArray) = lo := ⟨_, rfl⟩
        simp only [hlo] at cL
        have HLO := Lib.hid hlo
        clear hlo
        by_cases hq : ∃ h : 2 ≤ v.size, v[0] = 34 ∧ v[v.size - 1] = 34
        · obtain ⟨h2, h0, hl⟩ := hq
          have q0 : ((v[0].toNat : Int) == 34) = true := by rw [h0]; rfl
          have ql : ((v[v.size - 1].toNat : Int) == 34) = true := by rw [hl]; rfl
          have hsub : ((v.size : Int) - 1).toNat = v.size - 1 := by omega
          have HQ := Lib.hid (unqR_quoted h2 h0 hl)
          clear h0 hl
          go_wp2
          clear q0 ql hvl
          go_loopw [7, 8] (fun u i wr => ∃ (k : Nat) (acc : List UInt8) (u0 : Value), 1 ≤ k ∧ k + 1 ≤ v.size ∧ u = u0 ∧ i = .int .i64 k ∧ Hid (InnerAt v k acc) ∧ Hid (OwnBytes wr u0 acc) ∧ Hid (∀ g, u0.ownBlock = some g → w.heap.size ≤ g) ∧ Hid (Below w.heap.size w wr)) (fun _ i _ => v.size - (intOf i).toNat)
          case atStart => exact ⟨1, [], _, Nat.le_refl _, by omega, rfl, rfl, Lib.hid ⟨rfl, Nat.zero_le _⟩, Lib.hid (ownBytes_nil w), Lib.hid (fun g h => by cases h), Lib.hid (Below.refl _ _)⟩
          case round =>
            obtain ⟨k, acc, u0, hk1, hk, rfl, rfl, HI, HO, HU, HBR⟩ := hrel
            have HAL := Lib.hid HI.out.2
            by_cases hlk : k + 1 < v.size
            · have HD := Lib.hid (midL_next hk1 hlk)
              have hln : acc.length + 1 ≤ 140737488355328 := by have := HAL.out; omega
              have HZA : Hid (∀ o, w.heap.size ≤ (wr.alloc o).heap.size) := Lib.hid (fun o => by have := HBR.out.size; simp; omega)
              by_cases h92 : v[k] = 92
              · have q92 : ((v[k].toNat : Int) == 92) = true := by rw [h92]; rfl
                by_cases hk2 : k + 2 < v.size
                · have HN : Hid (InnerAt v (k + 2) (acc ++ [v[k + 1]])) := Lib.hid ⟨by
                    have e2 := midL_next (v := v) (k := k + 1) (by omega) (by omega)
                    rw [Nat.add_sub_cancel] at e2
                    rw [HI.out.1, HD.out, h92, e2, walkR_skip]
                    rfl, by have := HAL.out; simp; omega⟩
                  clear h92
                  go_wp2_with ((with_reducible show wpList _ _ _ (⟨some 65, _, _, _, _, _⟩ :: _) _ _); refine wpList_append_bytes rfl _ _ rfl _ acc rfl (HO.out.spares (F := nowhere) ((Spares.refl _ _).alloc _) (fun _ _ h => h)) (some ⟨wr.heap.size, 0, none⟩) 1 [v[k + 1]] rfl (bytesAt_newC wr v[k + 1]) (fun e => by cases e) hln ?_; intro ao c' w3 ho hg hf; have HO3 := Lib.hid ho; have HB3 := Lib.hid ((HBR.out.alloc HBR.out.size _).grown hg (HZA.out _) (fun g h => HU.out g h)); have HF3 := Lib.hid (fun g h => (hf g h).elim (fun h => HU.out g h) (fun h => Nat.le_trans (HZA.out _) h)); clear ho hg hf)
                  go_roundw
                  case rel => exact ⟨k + 2, acc ++ [v[k + 1]], _, by omega, by omega, rfl, by go_num, HN, by simpa using HO3, HF3, HB3⟩
                  case measure => simp [intOf]; omega
                · have HN : Hid (InnerAt v (k + 1) (acc ++ [v[k]])) := Lib.hid ⟨by
                    have e2 := midL_end (v := v) (k := k + 1) (by omega)
                    rw [Nat.add_sub_cancel] at e2
                    rw [HI.out.1, HD.out, walkR_other (.inr e2), Nat.add_sub_cancel], by have := HAL.out; simp; omega⟩
                  clear h92
                  go_wp2_with ((with_reducible show wpList _ _ _ (⟨some 65, _, _, _, _, _⟩ :: _) _ _); refine wpList_append_bytes rfl _ _ rfl _ acc rfl (HO.out.spares (F := nowhere) ((Spares.refl _ _).alloc _) (fun _ _ h => h)) (some ⟨wr.heap.size, 0, none⟩) 1 [v[k]] rfl (bytesAt_newC wr v[k]) (fun e => by cases e) hln ?_; intro ao c' w3 ho hg hf; have HO3 := Lib.hid ho; have HB3 := Lib.hid ((HBR.out.alloc HBR.out.size _).grown hg (HZA.out _) (fun g h => HU.out g h)); have HF3 := Lib.hid (fun g h => (hf g h).elim (fun h => HU.out g h) (fun h => Nat.le_trans (HZA.out _) h)); clear ho hg hf)
                  go_roundw
                  case rel => exact ⟨k + 1, acc ++ [v[k]], _, by omega, by omega, rfl, by go_num, HN, by simpa using HO3, HF3, HB3⟩
                  case measure => simp [intOf]; omega
              · have q92 : ((v[k].toNat : Int) == 92) = false := byte_ne h92
                have HN : Hid (InnerAt v (k + 1) (acc ++ [v[k]])) := Lib.hid ⟨by
                  rw [HI.out.1, HD.out, walkR_other (.inl h92), Nat.add_sub_cancel], by have := HAL.out; simp; omega⟩
                clear h92
                go_wp2_with ((with_reducible show wpList _ _ _ (⟨some 65, _, _, _, _, _⟩ :: _) _ _); refine wpList_append_bytes rfl _ _ rfl _ acc rfl (HO.out.spares (F := nowhere) ((Spares.refl _ _).alloc _) (fun _ _ h => h)) (some ⟨wr.heap.size, 0, none⟩) 1 [v[k]] rfl (bytesAt_newC wr v[k]) (fun e => by cases e) hln ?_; intro ao c' w3 ho hg hf; have HO3 := Lib.hid ho; have HB3 := Lib.hid ((HBR.out.alloc HBR.out.size _).grown hg (HZA.out _) (fun g h => HU.out g h)); have HF3 := Lib.hid (fun g h => (hf g h).elim (fun h => HU.out g h) (fun h => Nat.le_trans (HZA.out _) h)); clear ho hg hf)
                go_roundw
                case rel => exact ⟨k + 1, acc ++ [v[k]], _, by omega, by omega, rfl, by go_num, HN, by simpa using HO3, HF3, HB3⟩
                case measure => simp [intOf]; omega
            · have HE : Hid (unqR v.data.toList = acc) := Lib.hid (by rw [HQ.out, HI.out.1, midL_end hlk]; rfl)
              obtain ⟨ao, co, rfl, hba, _⟩ := HO.out.shape
              have hcv := conv_bytes hba co
              have HBR2 := HBR
              clear hba
              go_wp2_with fail
              refine (cL wr).mono ?_
              rintro e w2 ⟨rfl, hb2⟩
              clear cL hcv
              go_wp2
              go_ret3
              exact ⟨by rw [HNM.out, HV.out, HHS.out, HLO.out, HE.out]; rfl, HBR2.out.trans (hb2.mono HBR2.out.size)⟩
        · have HE : Hid ((⟨(unqR v.data.toList).toArray⟩ : ByteArray) = v) := Lib.hid (by
            rw [unqR_plain]
            by_cases h2 : v.size < 2
            · exact .inl h2
            · refine .inr ⟨by omega, ?_⟩
              by_cases h0 : v[0] = 34
              · exact .inr (fun hl => hq ⟨by omega, h0, hl⟩)
              · exact .inl h0)
          have fin : ∀ w2, Below w.heap.size w w2 → Ending.returned (.tuple #[.string lo, .string v, .bool true]) = Ending.returned (.tuple #[.string ⟨(lowF (namP s).data.toList).toArray⟩, .string ⟨(unqR (valP s).data.toList).toArray⟩, .bool (hasP s)]) ∧ Below w.heap.size w w2 := fun w2 hb => ⟨by rw [HNM.out, HV.out, HHS.out, HLO.out, HE.out], hb⟩
          have FIN := Lib.hid fin
          clear fin
          by_cases h2 : 2 ≤ v.size
          · by_cases h0 : v[0] = 34
            · have hl : v[v.size - 1] ≠ 34 := fun hl => hq ⟨h2, h0, hl⟩
              have q0 : ((v[0].toNat : Int) == 34) = true := by rw [h0]; rfl
              have ql : ((v[v.size - 1].toNat : Int) == 34) = false := byte_ne hl
              have hsub : ((v.size : Int) - 1).toNat = v.size - 1 := by omega
              clear h0 hl hq
              go_wp2_with fail
              refine (cL w).mono ?_
              rintro e w2 ⟨rfl, hb2⟩
              clear cL
              go_wp2
              go_ret3
              exact FIN.out _ hb2
            · have q0 : ((v[0].toNat : Int) == 34) = false := byte_ne h0
              clear h0 hq
              go_wp2_with fail
              refine (cL w).mono ?_
              rintro e w2 ⟨rfl, hb2⟩
              clear cL
              go_wp2
              go_ret3
              exact FIN.out _ hb2
          · clear hq
            go_wp2_with fail
            refine (cL w).mono ?_
            rintro e w2 ⟨rfl, hb2⟩
            clear cL
            go_wp2
            go_ret3
            exact FIN.out _ hb2
      · have q61 : ((s[k0].toNat : Int) == 61) = false := byte_ne h61
        have HN : Hid (∀ j (h : j < s.size), j < k0 + 1 → s[j] ≠ 61) := Lib.hid (fun j h hj => by
          rcases Nat.lt_or_ge j k0 with h1 | h1
          · exact HA.out j h h1
          · obtain rfl : j = k0 := by omega
            exact h61)
        clear h61
        go_wp2
        go_round
        case rel => exact ⟨k0 + 1, by omega, by go_num, HN⟩
        case measure => simp [intOf]; omega
    · have heq := eq_no (s := s) (fun j h => HA.out j h (by omega))
      have HNM : Hid (namP s = s) := Lib.hid (by unfold namP; rw [if_pos heq])
      have HV : Hid ((⟨(unqR (valP s).data.toList).toArray⟩ : ByteArray) = ⟨#[]⟩) := Lib.hid (by unfold valP; rw [if_pos heq]; rfl)
      have HHS : Hid (hasP s = false) := Lib.hid (by unfold hasP; rw [decide_eq_true heq]; rfl)
      clear heq
      have cL := fun w => refLow_any s w (by omega)
      obtain ⟨lo, hlo⟩ : ∃ lo : ByteArray, (⟨(lowF s.data.toList).toArray⟩ : ByteArray) = lo := ⟨_, rfl⟩
      simp only [hlo] at cL
      have HLO := Lib.hid hlo
      clear hlo
      go_wp2_with fail
      refine (cL w).mono ?_
      rintro e w2 ⟨rfl, hb2⟩
      go_wp2
      go_ret3
      exact ⟨by rw [HNM.out, HV.out, HHS.out, HLO.out]; rfl, hb2⟩
end Go.Proofs.YtaimhfnddolilaaGreatDoor.CtrlS
namespace Go.Proofs.YtaimhfnddolilaaGreatDoor.CtrlS
open Go.RowKit HeadMath HeadS

theorem valSec_R (v : ByteArray) : max (secF (unqR v.data.toList)) 0 = valSec v := by rw [sec_unq]; rfl
theorem min_least {old n : Int} (h : -1 ≤ old) (_hn : 0 ≤ n) : (if old < 0 then n else min old n) = leastF old n := by
  unfold leastF
  by_cases h1 : old = -1
  · rw [if_pos (by omega), if_pos (.inl h1)]
  · rw [if_neg (by omega)]
    by_cases h2 : n < old
    · rw [if_pos (.inr h2)]; omega
    · rw [if_neg (by intro h; rcases h with h | h; exact h1 h; exact h2 h)]; omega
set_option maxHeartbeats 4000000 in
theorem refLeast_any (old : Int) (v u : ByteArray) (w : World) (hu : u.data.toList = unqR v.data.toList) (ho : -1 ≤ old) (hs : u.size ≤ 140737488351232) :
    Calls Tryz.prog 41 #[.int .i64 old, .string u] w fun e w' => e = .returned (.int .i64 (leastF old (valSec v))) ∧ w' = w := by
  have hv := valSec_R v
  rw [← hu] at hv
  have HL := Lib.hid (min_least ho (valSec_in v).1)
  have cS := fun w => refSeconds_any u w hs
  unfold SecPost at cS
  obtain ⟨z, hz⟩ : ∃ z, secF u.data.toList = z := ⟨_, rfl⟩
  simp only [hz] at cS
  rw [hz] at hv
  obtain ⟨n, hn⟩ : ∃ n, valSec v = n := ⟨_, rfl⟩
  rw [hn] at HL hv ⊢
  clear hu hz hn
  go_enter Tryz.func41, Tryz.ntmps41
  go_wp2_with fail
  refine (cS w).mono ?_
  rintro e w1 ⟨rfl, rfl⟩
  clear cS
  by_cases h0 : old < 0
  · have HE := HL.out
    rw [if_pos h0] at HE
    have HE' := Lib.hid HE
    clear HE HL
    go_wp2
    go_ret
    exact ⟨by rw [← HE'.out]; rfl, rfl⟩
  · have HE := HL.out
    rw [if_neg h0] at HE
    have HE' := Lib.hid HE
    clear HE HL
    go_wp2
    go_ret
    exact ⟨by rw [← HE'.out]; rfl, rfl⟩
theorem sayF_ok {c : Ctl} (h : c.ok) (p : ByteArray) : (sayF c p).ok := actK_ok h (valSec_in _)
theorem fold_ok : ∀ (l : List ByteArray) (c : Ctl), c.ok → (l.foldl sayF c).ok
  | [], _, h => h
  | p :: l, _, h => fold_ok l _ (sayF_ok h p)
theorem ctl0_ok : ctl0.ok := by unfold Ctl.ok ctl0 maxAge; decide
theorem unqR_len (l : List UInt8) : (unqR l).length ≤ l.length := by
  have hw : ∀ (n : Nat) (r acc : List UInt8), r.length ≤ n → (walkR r acc).length ≤ acc.length + r.length := by
    intro n
    induction n with
    | zero =>
      intro r acc hn
      obtain rfl : r = [] := List.eq_nil_of_length_eq_zero (by omega)
      simp [walkR]
    | succ n ih =>
      intro r acc hn
      match r, hn with
      | [], _ => simp [walkR]
      | [c], _ => simp [walkR]
      | c :: d :: r, hn =>
        simp only [List.length_cons] at hn
        rw [walkR]
        split
        · have := ih r (acc ++ [d]) (by omega)
          simp at this ⊢; omega
        · have := ih (d :: r) (acc ++ [c]) (by simp only [List.length_cons]; omega)
          simp at this ⊢; omega
  unfold unqR
  split
  · rename_i r
    split
    · have := hw _ r.dropLast [] (Nat.le_refl _)
      simp at this ⊢; omega
    · exact Nat.le_refl _
  · exact Nat.le_refl _
theorem all_nil {fs : List (ByteArray × ByteArray)} {n : ByteArray} (h : allF n fs = []) : listF n fs = [] := by unfold listF; rw [h]; rfl
theorem get_all {fs : List (ByteArray × ByteArray)} {n : ByteArray} : getF n fs = none ↔ allF n fs = [] := by
  unfold getF allF
  rw [Option.map_eq_none_iff, List.map_eq_nil_iff, List.find?_eq_none, List.filter_eq_nil_iff]
set_option maxRecDepth 100000 in
set_option maxHeartbeats 64000000 in
theorem refControl_any (fs : List (ByteArray × ByteArray)) (a : Option Addr) (c : Nat) (w : World) (hin : FieldsIn w.heap.size w a fs) (hf : FewF fs) :
    Calls Tryz.prog 24 #[.slice a fs.length c] w (ParsePost fs w) := by
  obtain ⟨w0, hw0⟩ : ∃ w0, (w.alloc (.cells #[.bool false, .bool false, .bool false, .bool false, .bool false, .bool false, .bool false, .bool false, .int .i64 0, .int .i64 0, .int .i64 0, .int .i64 0] 29)).alloc (.cells #[.bool false, .bool false, .bool false, .bool false, .bool false, .bool false, .bool false, .bool false, .int .i64 (-1), .int .i64 (-1), .int .i64 (-1), .int .i64 (-1)] 29) = w0 := ⟨_, rfl⟩
  have hz0 : w0.heap.size = w.heap.size + 2 := by rw [← hw0]; simp
  have hs0 : Spares nowhere w w0 := by rw [← hw0]; exact ((Spares.refl nowhere w).alloc _).alloc _
  have hc0 : CtlAt w0 (w.heap.size + 1) ctl0 := by
    show w0.heap[w.heap.size + 1]? = _
    rw [← hw0]
    have e := heap_alloc_new (w.alloc (.cells #[.bool false, .bool false, .bool false, .bool false, .bool false, .bool false, .bool false, .bool false, .int .i64 0, .int .i64 0, .int .i64 0, .int .i64 0] 29)) (.cells #[.bool false, .bool false, .bool false, .bool false, .bool false, .bool false, .bool false, .bool false, .int .i64 (-1), .int .i64 (-1), .int .i64 (-1), .int .i64 (-1)] 29)
    have hz : (w.alloc (.cells #[.bool false, .bool false, .bool false, .bool false, .bool false, .bool false, .bool false, .bool false, .int .i64 0, .int .i64 0, .int .i64 0, .int .i64 0] 29)).heap.size = w.heap.size + 1 := by simp
    rw [hz] at e
    exact e
  have hr0 : w0.heap[w.heap.size]? = some (.cells #[.bool false, .bool false, .bool false, .bool false, .bool false, .bool false, .bool false, .bool false, .int .i64 0, .int .i64 0, .int .i64 0, .int .i64 0] 29 (0, 0)) := by
    rw [← hw0, Below.heap_alloc _ _ _ (by simp)]
    exact heap_alloc_new w _
  have hin0 : ∀ x, Below w.heap.size w x → FieldsIn x.heap.size x a fs := fun x hx j hj => by
    obtain ⟨b, off, h1, h2, h3, h4⟩ := hin j hj
    exact ⟨b, off, h1, Nat.lt_of_lt_of_le h2 hx.size, (hx.cell (p := ⟨b, off + j * 2, none⟩) h2).trans h3, (hx.cell (p := ⟨b, off + j * 2 + 1, none⟩) h2).trans h4⟩
  have HIN := Lib.hid hin0
  have HF := Lib.hid hf
  have HSZ := Lib.hid (list_size hf cacheN)
  have hll := list_len hf cacheN
  have cL := (refList_any fs cacheN a c fs.length w0 (hin0 w0 hs0.below0) rfl hf.small hf.1 (fun j hj => (hf.2 j hj).2) (by decide)).mono fun _ _ h => row_b h
  unfold RowB at cL
  have HP : Hid (parseF fs = if allF cacheN fs = [] then { ctlL (listF cacheN fs) with noCache := elder (listF pragmaN fs) } else ctlL (listF cacheN fs)) := Lib.hid rfl
  obtain ⟨r, hr⟩ : ∃ r, listF cacheN fs = r := ⟨_, rfl⟩
  rw [hr] at cL HSZ hll HP
  have HRN := Lib.hid hr
  have HW0 := Lib.hid hw0
  have HS0 := Lib.hid hs0
  have HC0 := Lib.hid hc0
  have HR0 := Lib.hid hr0
  have HZ0 := Lib.hid hz0
  have hfl := hf.1
  clear hin hf hr hin0 hw0 hs0 hc0 hr0 hz0
  unfold ParsePost
  go_enter Tryz.func24, Tryz.ntmps24
  go_wp2_with fail
  change Calls _ _ _ ((w.alloc (.cells #[.bool false, .bool false, .bool false, .bool false, .bool false, .bool false, .bool false, .bool false, .int .i64 0, .int .i64 0, .int .i64 0, .int .i64 0] 29)).alloc (.cells #[.bool false, .bool false, .bool false, .bool false, .bool false, .bool false, .bool false, .bool false, .int .i64 (-1), .int .i64 (-1), .int .i64 (-1), .int .i64 (-1)] 29)) _
  rw [HW0.out]
  refine cL.mono ?_
  rintro e w1 ⟨a1, c1, rfl, hs1, hb1⟩
  have HS1 := Lib.hid hs1
  have HB1 := Lib.hid hb1
  clear cL hs1 hb1
  go_wp2
  go_loopw [5] (fun i wr => ∃ k : Nat, k ≤ r.length ∧ i = .int .i64 k ∧ Hid (CtlAt wr (w.heap.size + 1) ((r.take k).foldl sayF ctl0)) ∧ Hid (Spares (fun b => b = w.heap.size + 1) w1 wr)) (fun i _ => r.length - (intOf i).toNat)
  case atStart => exact ⟨0, Nat.zero_le _, rfl, Lib.hid (HC0.out.spares (Below.spares (F := nowhere) HB1.out (fun k hk => .inr hk)) (fun h => h)), Lib.hid (Spares.refl _ _)⟩
  case round =>
    obtain ⟨k, hk, rfl, HC, HB⟩ := hrel
    by_cases hkl : k < r.length
    · obtain ⟨b, rfl, hb0, hbl, hc0⟩ := HS1.out k hkl
      have x0 := (HB.out.cell (p := ⟨b, k, none⟩) hbl (by show ¬ b = _; have := HZ0.out; omega)).trans hc0
      have hps := HSZ.out r[k] (List.getElem_mem hkl)
      have HT := Lib.hid (take_fold hkl ctl0)
      have HOK := Lib.hid (fold_ok (r.take k) ctl0 ctl0_ok)
      obtain ⟨p, hp⟩ : ∃ p, r[k] = p := ⟨_, rfl⟩
      rw [hp] at x0 hps HT
      clear hp hc0 hbl hb0
      obtain ⟨x, hx⟩ : ∃ x, (r.take k).foldl sayF ctl0 = x := ⟨_, rfl⟩
      rw [hx] at HC HT HOK
      clear hx
      have cV := fun w => refValue_any p w (by omega)
      unfold ValPost at cV
      obtain ⟨lo, hlo'⟩ : ∃ lo : ByteArray, (⟨(lowF (namP p).data.toList).toArray⟩ : ByteArray) = lo := ⟨_, rfl⟩
      have hlo : lo.data.toList = lowF (namP p).data.toList := by rw [← hlo']
      obtain ⟨uv, huv'⟩ : ∃ uv : ByteArray, (⟨(unqR (valP p).data.toList).toArray⟩ : ByteArray) = uv := ⟨_, rfl⟩
      have huv : uv.data.toList = unqR (valP p).data.toList := by rw [← huv']
      have huz : uv.size ≤ 1000000 := by
        have h1 := unqR_len (valP p).data.toList
        have h2 := valP_size p
        rw [← huv, size_list, size_list] at h1
        omega
      simp only [hlo', huv'] at cV
      have HUV := Lib.hid huv
      clear hlo' huv' huv
      have hle : kindF (lowF (namP p).data.toList) ≤ 11 := kind_le _
      rcases (show kindF (lowF (namP p).data.toList) = 0 ∨ kindF (lowF (namP p).data.toList) = 1 ∨ kindF (lowF (namP p).data.toList) = 2 ∨ kindF (lowF (namP p).data.toList) = 3 ∨ kindF (lowF (namP p).data.toList) = 4 ∨ kindF (lowF (namP p).data.toList) = 5 ∨ kindF (lowF (namP p).data.toList) = 6 ∨ kindF (lowF (namP p).data.toList) = 7 ∨ kindF (lowF (namP p).data.toList) = 8 ∨ kindF (lowF (namP p).data.toList) = 9 ∨ kindF (lowF (namP p).data.toList) = 10 ∨ kindF (lowF (namP p).data.toList) = 11 from by omega) with hk | hk | hk | hk | hk | hk | hk | hk | hk | hk | hk | hk
      all_goals clear hle
      · have HF : Hid (sayF x p = actK 0 (hasP p) (valSec (valP p)) x) := Lib.hid (by unfold sayF kindP; rw [hk])
        have t0 : (lo.toList == [110, 111, 45, 115, 116, 111, 114, 101]) = true := by
          rw [Lib.toList_data, hlo]
          have := kind_is (lowF (namP p).data.toList) (by rw [hk]; decide)
          simp only [hk] at this
          exact this
        clear hk
        obtain ⟨hs0, hhs⟩ : ∃ y, hasP p = y := ⟨_, rfl⟩
        rw [hhs] at HF cV
        have HLO := Lib.hid hlo
        clear hlo hhs
        go_wp2_with fail
        refine (cV wr).mono ?_
        rintro e w2 ⟨rfl, hb2⟩
        clear cV
        have hc2 : CtlAt w2 (w.heap.size + 1) x := HC.out.spares (Below.spares (F := nowhere) hb2 (fun k hk => .inr hk)) (fun h => h)
        have HC2 := Lib.hid hc2
        have HB2 := Lib.hid (HB.out.trans (Below.spares (F := fun b => b = w.heap.size + 1) hb2 (fun k hk => .inr hk)))
        clear hb2 hc2
        have fz : w2.frozen? ⟨w.heap.size + 1, 0, none⟩ = false := Lib.frozen_of_heap HC2.out 0
        have f1 := Lib.cell_of_heap HC2.out 0
        change w2.cell? ⟨w.heap.size + 1, 0, none⟩ = some (.bool x.noStore) at f1
        go_wp2
        go_roundw
        case rel => exact ⟨k + 1, by omega, by go_num, Lib.hid (by rw [HT.out, HF.out]; exact ctl_set HC2.out 0 _), Lib.hid (HB2.out.setCell (p := ⟨w.heap.size + 1, 0, none⟩) (.inl rfl) _)⟩
        case measure => simp [intOf]; omega
      · have HF : Hid (sayF x p = actK 1 (hasP p) (valSec (valP p)) x) := Lib.hid (by unfold sayF kindP; rw [hk])
        have t0 : (lo.toList == [110, 111, 45, 115, 116, 111, 114, 101]) = false := by
          rw [Lib.toList_data, hlo]
          exact kind_not _ 0 (by decide) (by rw [hk]; decide)
        have t1 : (lo.toList == [110, 111, 45, 99, 97, 99, 104, 101]) = true := by
          rw [Lib.toList_data, hlo]
          have := kind_is (lowF (namP p).data.toList) (by rw [hk]; decide)
          simp only [hk] at this
          exact this
        clear hk
        obtain ⟨hs0, hhs⟩ : ∃ y, hasP p = y := ⟨_, rfl⟩
        rw [hhs] at HF cV
        have HLO := Lib.hid hlo
        clear hlo hhs
        go_wp2_with fail
        refine (cV wr).mono ?_
        rintro e w2 ⟨rfl, hb2⟩
        clear cV
        have hc2 : CtlAt w2 (w.heap.size + 1) x := HC.out.spares (Below.spares (F := nowhere) hb2 (fun k hk => .inr hk)) (fun h => h)
        have HC2 := Lib.hid hc2
        have HB2 := Lib.hid (HB.out.trans (Below.spares (F := fun b => b = w.heap.size + 1) hb2 (fun k hk => .inr hk)))
        clear hb2 hc2
        have fz : w2.frozen? ⟨w.heap.size + 1, 1, none⟩ = false := Lib.frozen_of_heap HC2.out 1
        have f1 := Lib.cell_of_heap HC2.out 1
        change w2.cell? ⟨w.heap.size + 1, 1, none⟩ = some (.bool x.noCache) at f1
        go_wp2
        go_roundw
        case rel => exact ⟨k + 1, by omega, by go_num, Lib.hid (by rw [HT.out, HF.out]; exact ctl_set HC2.out 1 _), Lib.hid (HB2.out.setCell (p := ⟨w.heap.size + 1, 1, none⟩) (.inl rfl) _)⟩
        case measure => simp [intOf]; omega
      · have HF : Hid (sayF x p = actK 2 (hasP p) (valSec (valP p)) x) := Lib.hid (by unfold sayF kindP; rw [hk])
        have t0 : (lo.toList == [110, 111, 45, 115, 116, 111, 114, 101]) = false := by
          rw [Lib.toList_data, hlo]
          exact kind_not _ 0 (by decide) (by rw [hk]; decide)
        have t1 : (lo.toList == [110, 111, 45, 99, 97, 99, 104, 101]) = false := by
          rw [Lib.toList_data, hlo]
          exact kind_not _ 1 (by decide) (by rw [hk]; decide)
        have t2 : (lo.toList == [112, 114, 105, 118, 97, 116, 101]) = true := by
          rw [Lib.toList_data, hlo]
          have := kind_is (lowF (namP p).data.toList) (by rw [hk]; decide)
          simp only [hk] at this
          exact this
        clear hk
        obtain ⟨hs0, hhs⟩ : ∃ y, hasP p = y := ⟨_, rfl⟩
        rw [hhs] at HF cV
        have HLO := Lib.hid hlo
        clear hlo hhs
        go_wp2_with fail
        refine (cV wr).mono ?_
        rintro e w2 ⟨rfl, hb2⟩
        clear cV
        have hc2 : CtlAt w2 (w.heap.size + 1) x := HC.out.spares (Below.spares (F := nowhere) hb2 (fun k hk => .inr hk)) (fun h => h)
        have HC2 := Lib.hid hc2
        have HB2 := Lib.hid (HB.out.trans (Below.spares (F := fun b => b = w.heap.size + 1) hb2 (fun k hk => .inr hk)))
        clear hb2 hc2
        have fz : w2.frozen? ⟨w.heap.size + 1, 2, none⟩ = false := Lib.frozen_of_heap HC2.out 2
        have f1 := Lib.cell_of_heap HC2.out 2
        change w2.cell? ⟨w.heap.size + 1, 2, none⟩ = some (.bool x.priv) at f1
        go_wp2
        go_roundw
        case rel => exact ⟨k + 1, by omega, by go_num, Lib.hid (by rw [HT.out, HF.out]; exact ctl_set HC2.out 2 _), Lib.hid (HB2.out.setCell (p := ⟨w.heap.size + 1, 2, none⟩) (.inl rfl) _)⟩
        case measure => simp [intOf]; omega
      · have HF : Hid (sayF x p = actK 3 (hasP p) (valSec (valP p)) x) := Lib.hid (by unfold sayF kindP; rw [hk])
        have t0 : (lo.toList == [110, 111, 45, 115, 116, 111, 114, 101]) = false := by
          rw [Lib.toList_data, hlo]
          exact kind_not _ 0 (by decide) (by rw [hk]; decide)
        have t1 : (lo.toList == [110, 111, 45, 99, 97, 99, 104, 101]) = false := by
          rw [Lib.toList_data, hlo]
          exact kind_not _ 1 (by decide) (by rw [hk]; decide)
        have t2 : (lo.toList == [112, 114, 105, 118, 97, 116, 101]) = false := by
          rw [Lib.toList_data, hlo]
          exact kind_not _ 2 (by decide) (by rw [hk]; decide)
        have t3 : (lo.toList == [112, 117, 98, 108, 105, 99]) = true := by
          rw [Lib.toList_data, hlo]
          have := kind_is (lowF (namP p).data.toList) (by rw [hk]; decide)
          simp only [hk] at this
          exact this
        clear hk
        obtain ⟨hs0, hhs⟩ : ∃ y, hasP p = y := ⟨_, rfl⟩
        rw [hhs] at HF cV
        have HLO := Lib.hid hlo
        clear hlo hhs
        go_wp2_with fail
        refine (cV wr).mono ?_
        rintro e w2 ⟨rfl, hb2⟩
        clear cV
        have hc2 : CtlAt w2 (w.heap.size + 1) x := HC.out.spares (Below.spares (F := nowhere) hb2 (fun k hk => .inr hk)) (fun h => h)
        have HC2 := Lib.hid hc2
        have HB2 := Lib.hid (HB.out.trans (Below.spares (F := fun b => b = w.heap.size + 1) hb2 (fun k hk => .inr hk)))
        clear hb2 hc2
        have fz : w2.frozen? ⟨w.heap.size + 1, 3, none⟩ = false := Lib.frozen_of_heap HC2.out 3
        have f1 := Lib.cell_of_heap HC2.out 3
        change w2.cell? ⟨w.heap.size + 1, 3, none⟩ = some (.bool x.pub) at f1
        go_wp2
        go_roundw
        case rel => exact ⟨k + 1, by omega, by go_num, Lib.hid (by rw [HT.out, HF.out]; exact ctl_set HC2.out 3 _), Lib.hid (HB2.out.setCell (p := ⟨w.heap.size + 1, 3, none⟩) (.inl rfl) _)⟩
        case measure => simp [intOf]; omega
      · have HF : Hid (sayF x p = actK 4 (hasP p) (valSec (valP p)) x) := Lib.hid (by unfold sayF kindP; rw [hk])
        have t0 : (lo.toList == [110, 111, 45, 115, 116, 111, 114, 101]) = false := by
          rw [Lib.toList_data, hlo]
          exact kind_not _ 0 (by decide) (by rw [hk]; decide)
        have t1 : (lo.toList == [110, 111, 45, 99, 97, 99, 104, 101]) = false := by
          rw [Lib.toList_data, hlo]
          exact kind_not _ 1 (by decide) (by rw [hk]; decide)
        have t2 : (lo.toList == [112, 114, 105, 118, 97, 116, 101]) = false := by
          rw [Lib.toList_data, hlo]
          exact kind_not _ 2 (by decide) (by rw [hk]; decide)
        have t3 : (lo.toList == [112, 117, 98, 108, 105, 99]) = false := by
          rw [Lib.toList_data, hlo]
          exact kind_not _ 3 (by decide) (by rw [hk]; decide)
        have t4 : (lo.toList == [109, 117, 115, 116, 45, 114, 101, 118, 97, 108, 105, 100, 97, 116, 101]) = true := by
          rw [Lib.toList_data, hlo]
          have := kind_is (lowF (namP p).data.toList) (by rw [hk]; decide)
          simp only [hk] at this
          exact this
        clear hk
        obtain ⟨hs0, hhs⟩ : ∃ y, hasP p = y := ⟨_, rfl⟩
        rw [hhs] at HF cV
        have HLO := Lib.hid hlo
        clear hlo hhs
        go_wp2_with fail
        refine (cV wr).mono ?_
        rintro e w2 ⟨rfl, hb2⟩
        clear cV
        have hc2 : CtlAt w2 (w.heap.size + 1) x := HC.out.spares (Below.spares (F := nowhere) hb2 (fun k hk => .inr hk)) (fun h => h)
        have HC2 := Lib.hid hc2
        have HB2 := Lib.hid (HB.out.trans (Below.spares (F := fun b => b = w.heap.size + 1) hb2 (fun k hk => .inr hk)))
        clear hb2 hc2
        have fz : w2.frozen? ⟨w.heap.size + 1, 4, none⟩ = false := Lib.frozen_of_heap HC2.out 4
        have f1 := Lib.cell_of_heap HC2.out 4
        change w2.cell? ⟨w.heap.size + 1, 4, none⟩ = some (.bool x.must) at f1
        go_wp2
        go_roundw
        case rel => exact ⟨k + 1, by omega, by go_num, Lib.hid (by rw [HT.out, HF.out]; exact ctl_set HC2.out 4 _), Lib.hid (HB2.out.setCell (p := ⟨w.heap.size + 1, 4, none⟩) (.inl rfl) _)⟩
        case measure => simp [intOf]; omega
      · have HF : Hid (sayF x p = actK 5 (hasP p) (valSec (valP p)) x) := Lib.hid (by unfold sayF kindP; rw [hk])
        have t0 : (lo.toList == [110, 111, 45, 115, 116, 111, 114, 101]) = false := by
          rw [Lib.toList_data, hlo]
          exact kind_not _ 0 (by decide) (by rw [hk]; decide)
        have t1 : (lo.toList == [110, 111, 45, 99, 97, 99, 104, 101]) = false := by
          rw [Lib.toList_data, hlo]
          exact kind_not _ 1 (by decide) (by rw [hk]; decide)
        have t2 : (lo.toList == [112, 114, 105, 118, 97, 116, 101]) = false := by
          rw [Lib.toList_data, hlo]
          exact kind_not _ 2 (by decide) (by rw [hk]; decide)
        have t3 : (lo.toList == [112, 117, 98, 108, 105, 99]) = false := by
          rw [Lib.toList_data, hlo]
          exact kind_not _ 3 (by decide) (by rw [hk]; decide)
        have t4 : (lo.toList == [109, 117, 115, 116, 45, 114, 101, 118, 97, 108, 105, 100, 97, 116, 101]) = false := by
          rw [Lib.toList_data, hlo]
          exact kind_not _ 4 (by decide) (by rw [hk]; decide)
        have t5 : (lo.toList == [112, 114, 111, 120, 121, 45, 114, 101, 118, 97, 108, 105, 100, 97, 116, 101]) = true := by
          rw [Lib.toList_data, hlo]
          have := kind_is (lowF (namP p).data.toList) (by rw [hk]; decide)
          simp only [hk] at this
          exact this
        clear hk
        obtain ⟨hs0, hhs⟩ : ∃ y, hasP p = y := ⟨_, rfl⟩
        rw [hhs] at HF cV
        have HLO := Lib.hid hlo
        clear hlo hhs
        go_wp2_with fail
        refine (cV wr).mono ?_
        rintro e w2 ⟨rfl, hb2⟩
        clear cV
        have hc2 : CtlAt w2 (w.heap.size + 1) x := HC.out.spares (Below.spares (F := nowhere) hb2 (fun k hk => .inr hk)) (fun h => h)
        have HC2 := Lib.hid hc2
        have HB2 := Lib.hid (HB.out.trans (Below.spares (F := fun b => b = w.heap.size + 1) hb2 (fun k hk => .inr hk)))
        clear hb2 hc2
        have fz : w2.frozen? ⟨w.heap.size + 1, 5, none⟩ = false := Lib.frozen_of_heap HC2.out 5
        have f1 := Lib.cell_of_heap HC2.out 5
        change w2.cell? ⟨w.heap.size + 1, 5, none⟩ = some (.bool x.prox) at f1
        go_wp2
        go_roundw
        case rel => exact ⟨k + 1, by omega, by go_num, Lib.hid (by rw [HT.out, HF.out]; exact ctl_set HC2.out 5 _), Lib.hid (HB2.out.setCell (p := ⟨w.heap.size + 1, 5, none⟩) (.inl rfl) _)⟩
        case measure => simp [intOf]; omega
      · have HF : Hid (sayF x p = actK 6 (hasP p) (valSec (valP p)) x) := Lib.hid (by unfold sayF kindP; rw [hk])
        have t0 : (lo.toList == [110, 111, 45, 115, 116, 111, 114, 101]) = false := by
          rw [Lib.toList_data, hlo]
          exact kind_not _ 0 (by decide) (by rw [hk]; decide)
        have t1 : (lo.toList == [110, 111, 45, 99, 97, 99, 104, 101]) = false := by
          rw [Lib.toList_data, hlo]
          exact kind_not _ 1 (by decide) (by rw [hk]; decide)
        have t2 : (lo.toList == [112, 114, 105, 118, 97, 116, 101]) = false := by
          rw [Lib.toList_data, hlo]
          exact kind_not _ 2 (by decide) (by rw [hk]; decide)
        have t3 : (lo.toList == [112, 117, 98, 108, 105, 99]) = false := by
          rw [Lib.toList_data, hlo]
          exact kind_not _ 3 (by decide) (by rw [hk]; decide)
        have t4 : (lo.toList == [109, 117, 115, 116, 45, 114, 101, 118, 97, 108, 105, 100, 97, 116, 101]) = false := by
          rw [Lib.toList_data, hlo]
          exact kind_not _ 4 (by decide) (by rw [hk]; decide)
        have t5 : (lo.toList == [112, 114, 111, 120, 121, 45, 114, 101, 118, 97, 108, 105, 100, 97, 116, 101]) = false := by
          rw [Lib.toList_data, hlo]
          exact kind_not _ 5 (by decide) (by rw [hk]; decide)
        have t6 : (lo.toList == [111, 110, 108, 121, 45, 105, 102, 45, 99, 97, 99, 104, 101, 100]) = true := by
          rw [Lib.toList_data, hlo]
          have := kind_is (lowF (namP p).data.toList) (by rw [hk]; decide)
          simp only [hk] at this
          exact this
        clear hk
        obtain ⟨hs0, hhs⟩ : ∃ y, hasP p = y := ⟨_, rfl⟩
        rw [hhs] at HF cV
        have HLO := Lib.hid hlo
        clear hlo hhs
        go_wp2_with fail
        refine (cV wr).mono ?_
        rintro e w2 ⟨rfl, hb2⟩
        clear cV
        have hc2 : CtlAt w2 (w.heap.size + 1) x := HC.out.spares (Below.spares (F := nowhere) hb2 (fun k hk => .inr hk)) (fun h => h)
        have HC2 := Lib.hid hc2
        have HB2 := Lib.hid (HB.out.trans (Below.spares (F := fun b => b = w.heap.size + 1) hb2 (fun k hk => .inr hk)))
        clear hb2 hc2
        have fz : w2.frozen? ⟨w.heap.size + 1, 6, none⟩ = false := Lib.frozen_of_heap HC2.out 6
        have f1 := Lib.cell_of_heap HC2.out 6
        change w2.cell? ⟨w.heap.size + 1, 6, none⟩ = some (.bool x.only) at f1
        go_wp2
        go_roundw
        case rel => exact ⟨k + 1, by omega, by go_num, Lib.hid (by rw [HT.out, HF.out]; exact ctl_set HC2.out 6 _), Lib.hid (HB2.out.setCell (p := ⟨w.heap.size + 1, 6, none⟩) (.inl rfl) _)⟩
        case measure => simp [intOf]; omega
      · have HF : Hid (sayF x p = actK 7 (hasP p) (valSec (valP p)) x) := Lib.hid (by unfold sayF kindP; rw [hk])
        have t0 : (lo.toList == [110, 111, 45, 115, 116, 111, 114, 101]) = false := by
          rw [Lib.toList_data, hlo]
          exact kind_not _ 0 (by decide) (by rw [hk]; decide)
        have t1 : (lo.toList == [110, 111, 45, 99, 97, 99, 104, 101]) = false := by
          rw [Lib.toList_data, hlo]
          exact kind_not _ 1 (by decide) (by rw [hk]; decide)
        have t2 : (lo.toList == [112, 114, 105, 118, 97, 116, 101]) = false := by
          rw [Lib.toList_data, hlo]
          exact kind_not _ 2 (by decide) (by rw [hk]; decide)
        have t3 : (lo.toList == [112, 117, 98, 108, 105, 99]) = false := by
          rw [Lib.toList_data, hlo]
          exact kind_not _ 3 (by decide) (by rw [hk]; decide)
        have t4 : (lo.toList == [109, 117, 115, 116, 45, 114, 101, 118, 97, 108, 105, 100, 97, 116, 101]) = false := by
          rw [Lib.toList_data, hlo]
          exact kind_not _ 4 (by decide) (by rw [hk]; decide)
        have t5 : (lo.toList == [112, 114, 111, 120, 121, 45, 114, 101, 118, 97, 108, 105, 100, 97, 116, 101]) = false := by
          rw [Lib.toList_data, hlo]
          exact kind_not _ 5 (by decide) (by rw [hk]; decide)
        have t6 : (lo.toList == [111, 110, 108, 121, 45, 105, 102, 45, 99, 97, 99, 104, 101, 100]) = false := by
          rw [Lib.toList_data, hlo]
          exact kind_not _ 6 (by decide) (by rw [hk]; decide)
        have t7 : (lo.toList == [109, 97, 120, 45, 97, 103, 101]) = true := by
          rw [Lib.toList_data, hlo]
          have := kind_is (lowF (namP p).data.toList) (by rw [hk]; decide)
          simp only [hk] at this
          exact this
        clear hk
        obtain ⟨hs0, hhs⟩ : ∃ y, hasP p = y := ⟨_, rfl⟩
        rw [hhs] at HF cV
        have HLO := Lib.hid hlo
        clear hlo hhs
        go_wp2_with fail
        refine (cV wr).mono ?_
        rintro e w2 ⟨rfl, hb2⟩
        clear cV
        have hc2 : CtlAt w2 (w.heap.size + 1) x := HC.out.spares (Below.spares (F := nowhere) hb2 (fun k hk => .inr hk)) (fun h => h)
        have HC2 := Lib.hid hc2
        have HB2 := Lib.hid (HB.out.trans (Below.spares (F := fun b => b = w.heap.size + 1) hb2 (fun k hk => .inr hk)))
        clear hb2 hc2
        have fz : w2.frozen? ⟨w.heap.size + 1, 8, none⟩ = false := Lib.frozen_of_heap HC2.out 8
        have f1 := Lib.cell_of_heap HC2.out 8
        change w2.cell? ⟨w.heap.size + 1, 8, none⟩ = some (.int .i64 x.maxA) at f1
        go_wp2_with fail
        refine (refLeast_any x.maxA (valP p) uv w2 HUV.out HOK.out.1.1 (by omega)).mono ?_
        rintro e w3 ⟨rfl, rfl⟩
        go_wp2
        go_roundw
        case rel => exact ⟨k + 1, by omega, by go_num, Lib.hid (by rw [HT.out, HF.out]; exact ctl_set HC2.out 8 _), Lib.hid (HB2.out.setCell (p := ⟨w.heap.size + 1, 8, none⟩) (.inl rfl) _)⟩
        case measure => simp [intOf]; omega
      · have HF : Hid (sayF x p = actK 8 (hasP p) (valSec (valP p)) x) := Lib.hid (by unfold sayF kindP; rw [hk])
        have t0 : (lo.toList == [110, 111, 45, 115, 116, 111, 114, 101]) = false := by
          rw [Lib.toList_data, hlo]
          exact kind_not _ 0 (by decide) (by rw [hk]; decide)
        have t1 : (lo.toList == [110, 111, 45, 99, 97, 99, 104, 101]) = false := by
          rw [Lib.toList_data, hlo]
          exact kind_not _ 1 (by decide) (by rw [hk]; decide)
        have t2 : (lo.toList == [112, 114, 105, 118, 97, 116, 101]) = false := by
          rw [Lib.toList_data, hlo]
          exact kind_not _ 2 (by decide) (by rw [hk]; decide)
        have t3 : (lo.toList == [112, 117, 98, 108, 105, 99]) = false := by
          rw [Lib.toList_data, hlo]
          exact kind_not _ 3 (by decide) (by rw [hk]; decide)
        have t4 : (lo.toList == [109, 117, 115, 116, 45, 114, 101, 118, 97, 108, 105, 100, 97, 116, 101]) = false := by
          rw [Lib.toList_data, hlo]
          exact kind_not _ 4 (by decide) (by rw [hk]; decide)
        have t5 : (lo.toList == [112, 114, 111, 120, 121, 45, 114, 101, 118, 97, 108, 105, 100, 97, 116, 101]) = false := by
          rw [Lib.toList_data, hlo]
          exact kind_not _ 5 (by decide) (by rw [hk]; decide)
        have t6 : (lo.toList == [111, 110, 108, 121, 45, 105, 102, 45, 99, 97, 99, 104, 101, 100]) = false := by
          rw [Lib.toList_data, hlo]
          exact kind_not _ 6 (by decide) (by rw [hk]; decide)
        have t7 : (lo.toList == [109, 97, 120, 45, 97, 103, 101]) = false := by
          rw [Lib.toList_data, hlo]
          exact kind_not _ 7 (by decide) (by rw [hk]; decide)
        have t8 : (lo.toList == [115, 45, 109, 97, 120, 97, 103, 101]) = true := by
          rw [Lib.toList_data, hlo]
          have := kind_is (lowF (namP p).data.toList) (by rw [hk]; decide)
          simp only [hk] at this
          exact this
        clear hk
        obtain ⟨hs0, hhs⟩ : ∃ y, hasP p = y := ⟨_, rfl⟩
        rw [hhs] at HF cV
        have HLO := Lib.hid hlo
        clear hlo hhs
        go_wp2_with fail
        refine (cV wr).mono ?_
        rintro e w2 ⟨rfl, hb2⟩
        clear cV
        have hc2 : CtlAt w2 (w.heap.size + 1) x := HC.out.spares (Below.spares (F := nowhere) hb2 (fun k hk => .inr hk)) (fun h => h)
        have HC2 := Lib.hid hc2
        have HB2 := Lib.hid (HB.out.trans (Below.spares (F := fun b => b = w.heap.size + 1) hb2 (fun k hk => .inr hk)))
        clear hb2 hc2
        have fz : w2.frozen? ⟨w.heap.size + 1, 9, none⟩ = false := Lib.frozen_of_heap HC2.out 9
        have f1 := Lib.cell_of_heap HC2.out 9
        change w2.cell? ⟨w.heap.size + 1, 9, none⟩ = some (.int .i64 x.sMax) at f1
        go_wp2_with fail
        refine (refLeast_any x.sMax (valP p) uv w2 HUV.out HOK.out.2.1.1 (by omega)).mono ?_
        rintro e w3 ⟨rfl, rfl⟩
        go_wp2
        go_roundw
        case rel => exact ⟨k + 1, by omega, by go_num, Lib.hid (by rw [HT.out, HF.out]; exact ctl_set HC2.out 9 _), Lib.hid (HB2.out.setCell (p := ⟨w.heap.size + 1, 9, none⟩) (.inl rfl) _)⟩
        case measure => simp [intOf]; omega
      · have HF : Hid (sayF x p = actK 9 (hasP p) (valSec (valP p)) x) := Lib.hid (by unfold sayF kindP; rw [hk])
        have t0 : (lo.toList == [110, 111, 45, 115, 116, 111, 114, 101]) = false := by
          rw [Lib.toList_data, hlo]
          exact kind_not _ 0 (by decide) (by rw [hk]; decide)
        have t1 : (lo.toList == [110, 111, 45, 99, 97, 99, 104, 101]) = false := by
          rw [Lib.toList_data, hlo]
          exact kind_not _ 1 (by decide) (by rw [hk]; decide)
        have t2 : (lo.toList == [112, 114, 105, 118, 97, 116, 101]) = false := by
          rw [Lib.toList_data, hlo]
          exact kind_not _ 2 (by decide) (by rw [hk]; decide)
        have t3 : (lo.toList == [112, 117, 98, 108, 105, 99]) = false := by
          rw [Lib.toList_data, hlo]
          exact kind_not _ 3 (by decide) (by rw [hk]; decide)
        have t4 : (lo.toList == [109, 117, 115, 116, 45, 114, 101, 118, 97, 108, 105, 100, 97, 116, 101]) = false := by
          rw [Lib.toList_data, hlo]
          exact kind_not _ 4 (by decide) (by rw [hk]; decide)
        have t5 : (lo.toList == [112, 114, 111, 120, 121, 45, 114, 101, 118, 97, 108, 105, 100, 97, 116, 101]) = false := by
          rw [Lib.toList_data, hlo]
          exact kind_not _ 5 (by decide) (by rw [hk]; decide)
        have t6 : (lo.toList == [111, 110, 108, 121, 45, 105, 102, 45, 99, 97, 99, 104, 101, 100]) = false := by
          rw [Lib.toList_data, hlo]
          exact kind_not _ 6 (by decide) (by rw [hk]; decide)
        have t7 : (lo.toList == [109, 97, 120, 45, 97, 103, 101]) = false := by
          rw [Lib.toList_data, hlo]
          exact kind_not _ 7 (by decide) (by rw [hk]; decide)
        have t8 : (lo.toList == [115, 45, 109, 97, 120, 97, 103, 101]) = false := by
          rw [Lib.toList_data, hlo]
          exact kind_not _ 8 (by decide) (by rw [hk]; decide)
        have t9 : (lo.toList == [109, 105, 110, 45, 102, 114, 101, 115, 104]) = true := by
          rw [Lib.toList_data, hlo]
          have := kind_is (lowF (namP p).data.toList) (by rw [hk]; decide)
          simp only [hk] at this
          exact this
        clear hk
        obtain ⟨hs0, hhs⟩ : ∃ y, hasP p = y := ⟨_, rfl⟩
        rw [hhs] at HF cV
        have HLO := Lib.hid hlo
        clear hlo hhs
        go_wp2_with fail
        refine (cV wr).mono ?_
        rintro e w2 ⟨rfl, hb2⟩
        clear cV
        have hc2 : CtlAt w2 (w.heap.size + 1) x := HC.out.spares (Below.spares (F := nowhere) hb2 (fun k hk => .inr hk)) (fun h => h)
        have HC2 := Lib.hid hc2
        have HB2 := Lib.hid (HB.out.trans (Below.spares (F := fun b => b = w.heap.size + 1) hb2 (fun k hk => .inr hk)))
        clear hb2 hc2
        have fz : w2.frozen? ⟨w.heap.size + 1, 10, none⟩ = false := Lib.frozen_of_heap HC2.out 10
        have f1 := Lib.cell_of_heap HC2.out 10
        change w2.cell? ⟨w.heap.size + 1, 10, none⟩ = some (.int .i64 x.minF) at f1
        go_wp2_with fail
        refine (refLeast_any x.minF (valP p) uv w2 HUV.out HOK.out.2.2.1.1 (by omega)).mono ?_
        rintro e w3 ⟨rfl, rfl⟩
        go_wp2
        go_roundw
        case rel => exact ⟨k + 1, by omega, by go_num, Lib.hid (by rw [HT.out, HF.out]; exact ctl_set HC2.out 10 _), Lib.hid (HB2.out.setCell (p := ⟨w.heap.size + 1, 10, none⟩) (.inl rfl) _)⟩
        case measure => simp [intOf]; omega
      · have HF : Hid (sayF x p = actK 10 (hasP p) (valSec (valP p)) x) := Lib.hid (by unfold sayF kindP; rw [hk])
        have t0 : (lo.toList == [110, 111, 45, 115, 116, 111, 114, 101]) = false := by
          rw [Lib.toList_data, hlo]
          exact kind_not _ 0 (by decide) (by rw [hk]; decide)
        have t1 : (lo.toList == [110, 111, 45, 99, 97, 99, 104, 101]) = false := by
          rw [Lib.toList_data, hlo]
          exact kind_not _ 1 (by decide) (by rw [hk]; decide)
        have t2 : (lo.toList == [112, 114, 105, 118, 97, 116, 101]) = false := by
          rw [Lib.toList_data, hlo]
          exact kind_not _ 2 (by decide) (by rw [hk]; decide)
        have t3 : (lo.toList == [112, 117, 98, 108, 105, 99]) = false := by
          rw [Lib.toList_data, hlo]
          exact kind_not _ 3 (by decide) (by rw [hk]; decide)
        have t4 : (lo.toList == [109, 117, 115, 116, 45, 114, 101, 118, 97, 108, 105, 100, 97, 116, 101]) = false := by
          rw [Lib.toList_data, hlo]
          exact kind_not _ 4 (by decide) (by rw [hk]; decide)
        have t5 : (lo.toList == [112, 114, 111, 120, 121, 45, 114, 101, 118, 97, 108, 105, 100, 97, 116, 101]) = false := by
          rw [Lib.toList_data, hlo]
          exact kind_not _ 5 (by decide) (by rw [hk]; decide)
        have t6 : (lo.toList == [111, 110, 108, 121, 45, 105, 102, 45, 99, 97, 99, 104, 101, 100]) = false := by
          rw [Lib.toList_data, hlo]
          exact kind_not _ 6 (by decide) (by rw [hk]; decide)
        have t7 : (lo.toList == [109, 97, 120, 45, 97, 103, 101]) = false := by
          rw [Lib.toList_data, hlo]
          exact kind_not _ 7 (by decide) (by rw [hk]; decide)
        have t8 : (lo.toList == [115, 45, 109, 97, 120, 97, 103, 101]) = false := by
          rw [Lib.toList_data, hlo]
          exact kind_not _ 8 (by decide) (by rw [hk]; decide)
        have t9 : (lo.toList == [109, 105, 110, 45, 102, 114, 101, 115, 104]) = false := by
          rw [Lib.toList_data, hlo]
          exact kind_not _ 9 (by decide) (by rw [hk]; decide)
        have t10 : (lo.toList == [109, 97, 120, 45, 115, 116, 97, 108, 101]) = true := by
          rw [Lib.toList_data, hlo]
          have := kind_is (lowF (namP p).data.toList) (by rw [hk]; decide)
          simp only [hk] at this
          exact this
        clear hk
        obtain ⟨hs0, hhs⟩ : ∃ y, hasP p = y := ⟨_, rfl⟩
        rw [hhs] at HF cV
        have HLO := Lib.hid hlo
        clear hlo hhs
        cases hs0 with
        | false =>
          go_wp2_with fail
          refine (cV wr).mono ?_
          rintro e w2 ⟨rfl, hb2⟩
          clear cV
          have hc2 : CtlAt w2 (w.heap.size + 1) x := HC.out.spares (Below.spares (F := nowhere) hb2 (fun k hk => .inr hk)) (fun h => h)
          have HC2 := Lib.hid hc2
          have HB2 := Lib.hid (HB.out.trans (Below.spares (F := fun b => b = w.heap.size + 1) hb2 (fun k hk => .inr hk)))
          clear hb2 hc2
          have fz : w2.frozen? ⟨w.heap.size + 1, 7, none⟩ = false := Lib.frozen_of_heap HC2.out 7
          have f1 := Lib.cell_of_heap HC2.out 7
          change w2.cell? ⟨w.heap.size + 1, 7, none⟩ = some (.bool x.anyStale) at f1
          go_wp2
          go_roundw
          case rel => exact ⟨k + 1, by omega, by go_num, Lib.hid (by rw [HT.out, HF.out]; exact ctl_set HC2.out 7 _), Lib.hid (HB2.out.setCell (p := ⟨w.heap.size + 1, 7, none⟩) (.inl rfl) _)⟩
          case measure => simp [intOf]; omega
        | true =>
          go_wp2_with fail
          refine (cV wr).mono ?_
          rintro e w2 ⟨rfl, hb2⟩
          clear cV
          have hc2 : CtlAt w2 (w.heap.size + 1) x := HC.out.spares (Below.spares (F := nowhere) hb2 (fun k hk => .inr hk)) (fun h => h)
          have HC2 := Lib.hid hc2
          have HB2 := Lib.hid (HB.out.trans (Below.spares (F := fun b => b = w.heap.size + 1) hb2 (fun k hk => .inr hk)))
          clear hb2 hc2
          have fz : w2.frozen? ⟨w.heap.size + 1, 11, none⟩ = false := Lib.frozen_of_heap HC2.out 11
          have f1 := Lib.cell_of_heap HC2.out 11
          change w2.cell? ⟨w.heap.size + 1, 11, none⟩ = some (.int .i64 x.maxS) at f1
          go_wp2_with fail
          refine (refLeast_any x.maxS (valP p) uv w2 HUV.out HOK.out.2.2.2.1 (by omega)).mono ?_
          rintro e w3 ⟨rfl, rfl⟩
          go_wp2
          go_roundw
          case rel => exact ⟨k + 1, by omega, by go_num, Lib.hid (by rw [HT.out, HF.out]; exact ctl_set HC2.out 11 _), Lib.hid (HB2.out.setCell (p := ⟨w.heap.size + 1, 11, none⟩) (.inl rfl) _)⟩
          case measure => simp [intOf]; omega
      · have HF : Hid (sayF x p = actK 11 (hasP p) (valSec (valP p)) x) := Lib.hid (by unfold sayF kindP; rw [hk])
        have t0 : (lo.toList == [110, 111, 45, 115, 116, 111, 114, 101]) = false := by
          rw [Lib.toList_data, hlo]
          exact kind_not _ 0 (by decide) (by rw [hk]; decide)
        have t1 : (lo.toList == [110, 111, 45, 99, 97, 99, 104, 101]) = false := by
          rw [Lib.toList_data, hlo]
          exact kind_not _ 1 (by decide) (by rw [hk]; decide)
        have t2 : (lo.toList == [112, 114, 105, 118, 97, 116, 101]) = false := by
          rw [Lib.toList_data, hlo]
          exact kind_not _ 2 (by decide) (by rw [hk]; decide)
        have t3 : (lo.toList == [112, 117, 98, 108, 105, 99]) = false := by
          rw [Lib.toList_data, hlo]
          exact kind_not _ 3 (by decide) (by rw [hk]; decide)
        have t4 : (lo.toList == [109, 117, 115, 116, 45, 114, 101, 118, 97, 108, 105, 100, 97, 116, 101]) = false := by
          rw [Lib.toList_data, hlo]
          exact kind_not _ 4 (by decide) (by rw [hk]; decide)
        have t5 : (lo.toList == [112, 114, 111, 120, 121, 45, 114, 101, 118, 97, 108, 105, 100, 97, 116, 101]) = false := by
          rw [Lib.toList_data, hlo]
          exact kind_not _ 5 (by decide) (by rw [hk]; decide)
        have t6 : (lo.toList == [111, 110, 108, 121, 45, 105, 102, 45, 99, 97, 99, 104, 101, 100]) = false := by
          rw [Lib.toList_data, hlo]
          exact kind_not _ 6 (by decide) (by rw [hk]; decide)
        have t7 : (lo.toList == [109, 97, 120, 45, 97, 103, 101]) = false := by
          rw [Lib.toList_data, hlo]
          exact kind_not _ 7 (by decide) (by rw [hk]; decide)
        have t8 : (lo.toList == [115, 45, 109, 97, 120, 97, 103, 101]) = false := by
          rw [Lib.toList_data, hlo]
          exact kind_not _ 8 (by decide) (by rw [hk]; decide)
        have t9 : (lo.toList == [109, 105, 110, 45, 102, 114, 101, 115, 104]) = false := by
          rw [Lib.toList_data, hlo]
          exact kind_not _ 9 (by decide) (by rw [hk]; decide)
        have t10 : (lo.toList == [109, 97, 120, 45, 115, 116, 97, 108, 101]) = false := by
          rw [Lib.toList_data, hlo]
          exact kind_not _ 10 (by decide) (by rw [hk]; decide)
        clear hk
        obtain ⟨hs0, hhs⟩ : ∃ y, hasP p = y := ⟨_, rfl⟩
        rw [hhs] at HF cV
        have HLO := Lib.hid hlo
        clear hlo hhs
        go_wp2_with fail
        refine (cV wr).mono ?_
        rintro e w2 ⟨rfl, hb2⟩
        clear cV
        have hc2 : CtlAt w2 (w.heap.size + 1) x := HC.out.spares (Below.spares (F := nowhere) hb2 (fun k hk => .inr hk)) (fun h => h)
        have HC2 := Lib.hid hc2
        have HB2 := Lib.hid (HB.out.trans (Below.spares (F := fun b => b = w.heap.size + 1) hb2 (fun k hk => .inr hk)))
        clear hb2 hc2
        go_wp2
        go_roundw
        case rel => exact ⟨k + 1, by omega, by go_num, Lib.hid (by rw [HT.out, HF.out]; exact HC2.out), Lib.hid (HB2.out)⟩
        case measure => simp [intOf]; omega
    · have HE : Hid ((r.take k).foldl sayF ctl0 = ctlL r) := Lib.hid (by rw [List.take_of_length_le (by omega)]; rfl)
      have hc := HC.out
      rw [HE.out] at hc
      have hsx : Spares (fun b => b = w.heap.size + 1) w0 wr := (Below.spares (F := fun b => b = w.heap.size + 1) HB1.out (fun k hk => .inr hk)).trans HB.out
      have hrr : wr.heap[w.heap.size]? = some (.cells #[.bool false, .bool false, .bool false, .bool false, .bool false, .bool false, .bool false, .bool false, .int .i64 0, .int .i64 0, .int .i64 0, .int .i64 0] 29 (0, 0)) := hsx.heap HR0.out (by omega)
      have hbw : Below w.heap.size w wr := (HS0.out.below0).trans (hsx.below (by have := HZ0.out; omega) (fun k hk => by omega))
      have cG := refGet_any fs cacheN a c fs.length wr (HIN.out wr hbw) rfl HF.out.small (by omega) (by decide)
      have HCC := Lib.hid hc
      have HRR := Lib.hid hrr
      have HBW := Lib.hid hbw
      clear hc hsx hrr hbw HC HB
      go_wp2_with fail
      refine cG.mono ?_
      rintro e w3 ⟨hb3, hg⟩
      clear cG
      have hlt := (Array.getElem?_eq_some_iff.1 HCC.out).1
      have hc3 : CtlAt w3 (w.heap.size + 1) (ctlL r) := HCC.out.spares (Below.spares (F := nowhere) hb3 (fun k hk => .inr hk)) (fun h => h)
      have hr3 : w3.heap[w.heap.size]? = some (.cells #[.bool false, .bool false, .bool false, .bool false, .bool false, .bool false, .bool false, .bool false, .int .i64 0, .int .i64 0, .int .i64 0, .int .i64 0] 29 (0, 0)) := (hb3.block _ (by omega)).trans HRR.out
      have hb3w := HBW.out.trans (hb3.mono HBW.out.size)
      have HC3 := Lib.hid hc3
      have HR3 := Lib.hid hr3
      have HB3 := Lib.hid hb3w
      clear hc3 hr3 hb3w hb3 hlt
      rcases hg with ⟨hgn, rfl⟩ | ⟨v, hgs, rfl⟩
      · have hal := get_all.1 hgn
        have hrn : r = [] := by rw [← HRN.out]; exact all_nil hal
        have hcl : ctlL r = ctl0 := by rw [hrn]; rfl
        have HV0 : Hid (parseF fs = { ctl0 with noCache := elder (listF pragmaN fs) }) := Lib.hid (by rw [HP.out, if_pos hal, hcl])
        have cL2 := (refList_any fs pragmaN a c fs.length w3 (HIN.out w3 HB3.out) rfl HF.out.small HF.out.1 (fun j hj => (HF.out.2 j hj).2) (by decide)).mono fun _ _ h => row_b h
        unfold RowB at cL2
        have hsz2 := list_size HF.out pragmaN
        have hl2 := list_len HF.out pragmaN
        obtain ⟨r2, hr2⟩ : ∃ r2, listF pragmaN fs = r2 := ⟨_, rfl⟩
        rw [hr2] at HV0 cL2 hsz2 hl2
        have HSZ2 := Lib.hid hsz2
        rw [hcl] at HC3
        clear hgn hal hrn hcl hr2 hsz2
        go_wp2_with fail
        refine cL2.mono ?_
        rintro e w4 ⟨a4, c4, rfl, hs4, hb4⟩
        clear cL2
        have HS4 := Lib.hid hs4
        have hlt := (Array.getElem?_eq_some_iff.1 HC3.out).1
        have hc4 : CtlAt w4 (w.heap.size + 1) { ctl0 with noCache := false } := HC3.out.spares (Below.spares (F := nowhere) hb4 (fun k hk => .inr hk)) (fun h => h)
        have HC4 := Lib.hid hc4
        have HR4 : Hid (w4.heap[w.heap.size]? = some (.cells #[.bool false, .bool false, .bool false, .bool false, .bool false, .bool false, .bool false, .bool false, .int .i64 0, .int .i64 0, .int .i64 0, .int .i64 0] 29 (0, 0))) := Lib.hid ((hb4.block _ (by omega)).trans HR3.out)
        have HB4 := Lib.hid (HB3.out.trans (hb4.mono HB3.out.size))
        have HLT := Lib.hid hlt
        clear hs4 hb4 hc4 hlt
        go_wp2
        go_loopw [12] (fun i wr => ∃ k : Nat, k ≤ r2.length ∧ i = .int .i64 k ∧ Hid (CtlAt wr (w.heap.size + 1) { ctl0 with noCache := elder (r2.take k) }) ∧ Hid (Spares (fun b => b = w.heap.size + 1) w4 wr)) (fun i _ => r2.length - (intOf i).toNat)
        case atStart => exact ⟨0, Nat.zero_le _, rfl, HC4, Lib.hid (Spares.refl _ _)⟩
        case round =>
          obtain ⟨k, hk, rfl, HC, HB⟩ := hrel
          by_cases hkl : k < r2.length
          · obtain ⟨b, rfl, hb0, hbl, hc0⟩ := HS4.out k hkl
            have x0 := (HB.out.cell (p := ⟨b, k, none⟩) hbl (by show ¬ b = _; have := HLT.out; omega)).trans hc0
            have hps := HSZ2.out r2[k] (List.getElem_mem hkl)
            have HT : Hid (elder (r2.take (k + 1)) = (elder (r2.take k) || sameF r2[k].data.toList noCacheA.data.toList)) := Lib.hid (by
              unfold elder
              rw [List.take_succ_eq_append_getElem hkl, List.any_append]
              simp
              rfl)
            obtain ⟨p, hp⟩ : ∃ p, r2[k] = p := ⟨_, rfl⟩
            rw [hp] at x0 hps HT
            clear hp hc0 hbl hb0
            obtain ⟨bb, hbb⟩ : ∃ bb, elder (r2.take k) = bb := ⟨_, rfl⟩
            rw [hbb] at HC HT
            clear hbb
            have fz : wr.frozen? ⟨w.heap.size + 1, 1, none⟩ = false := Lib.frozen_of_heap HC.out 1
            have f1 := Lib.cell_of_heap HC.out 1
            cases bb with
            | true =>
              change wr.cell? ⟨w.heap.size + 1, 1, none⟩ = some (.bool true) at f1
              go_wp2
              go_roundw
              case rel => exact ⟨k + 1, by omega, by go_num, Lib.hid (by rw [HT.out]; exact ctl_set HC.out 1 _), Lib.hid (HB.out.setCell (p := ⟨w.heap.size + 1, 1, none⟩) (.inl rfl) _)⟩
              case measure => simp [intOf]; omega
            | false =>
              change wr.cell? ⟨w.heap.size + 1, 1, none⟩ = some (.bool false) at f1
              obtain ⟨sb, hsb⟩ : ∃ sb, sameF p.data.toList noCacheA.data.toList = sb := ⟨_, rfl⟩
              have cS := fun w => refSame_any p noCacheA w (by omega) (by decide)
              rw [hsb] at cS HT
              clear hsb
              go_wp2_with fail
              refine (cS wr).mono ?_
              rintro e w5 ⟨rfl, hb5⟩
              clear cS
              have hlt9 := (Array.getElem?_eq_some_iff.1 HC.out).1
              have hc5 : CtlAt w5 (w.heap.size + 1) { ctl0 with noCache := false } := HC.out.spares (Below.spares (F := nowhere) hb5 (fun k hk => .inr hk)) (fun h => h)
              have HC5 := Lib.hid hc5
              have HB5 := Lib.hid (HB.out.trans (Below.spares (F := fun b => b = w.heap.size + 1) hb5 (fun k hk => .inr hk)))
              have fz5 : w5.frozen? ⟨w.heap.size + 1, 1, none⟩ = false := Lib.frozen_of_heap hc5 1
              have f5 := Lib.cell_of_heap hc5 1
              change w5.cell? ⟨w.heap.size + 1, 1, none⟩ = some (.bool false) at f5
              clear hc5 hb5 fz f1 x0 hlt9
              go_wp2
              go_roundw
              case rel => exact ⟨k + 1, by omega, by go_num, Lib.hid (by rw [HT.out]; exact ctl_set HC5.out 1 _), Lib.hid (HB5.out.setCell (p := ⟨w.heap.size + 1, 1, none⟩) (.inl rfl) _)⟩
              case measure => simp [intOf]; omega
          · have HE : Hid (elder (r2.take k) = elder r2) := Lib.hid (by rw [List.take_of_length_le (by omega)])
            have hc := HC.out
            rw [HE.out] at hc
            obtain ⟨bb, hbb⟩ : ∃ bb, elder r2 = bb := ⟨_, rfl⟩
            rw [hbb] at hc HV0
            have HV := HV0
            have HTQ := Lib.hid (ctl_stored (v := wr) (g := w.heap.size) { ctl0 with noCache := bb } (cs := [.bool false, .bool false, .bool false, .bool false, .bool false, .bool false, .bool false, .bool false, .int .i64 0, .int .i64 0, .int .i64 0, .int .i64 0]) (by rfl) (HB.out.heap HR4.out (by omega)))
            have HBF := Lib.hid (HB4.out.trans (HB.out.below HB4.out.size (fun k hk e => by omega)))
            clear hbb
            obtain ⟨n0, n1, n2, n3, n4, n5, n6, n7, n8, n9, n10, n11⟩ := ctl_reads hc
            clear hc
            go_wp2_with ((with_reducible show wpList _ _ _ (⟨none, .store 29 _ _, _, _, _, _⟩ :: _) _ _); refine wpList_store_mid rfl 29 (.tmp 2) (.tmp 108) rfl w.heap.size 0 #[.bool { ctl0 with noCache := bb }.noStore, .bool { ctl0 with noCache := bb }.noCache, .bool { ctl0 with noCache := bb }.priv, .bool { ctl0 with noCache := bb }.pub, .bool { ctl0 with noCache := bb }.must, .bool { ctl0 with noCache := bb }.prox, .bool { ctl0 with noCache := bb }.only, .bool { ctl0 with noCache := bb }.anyStale, .int .i64 { ctl0 with noCache := bb }.maxA, .int .i64 { ctl0 with noCache := bb }.sMax, .int .i64 { ctl0 with noCache := bb }.minF, .int .i64 { ctl0 with noCache := bb }.maxS] rfl rfl HTQ.out.1 infoCtl (onesCtl _) ?_)
            exact bodyPost_ret (v := ctlV { ctl0 with noCache := bb }) (results_cell_row rfl _ _ w.heap.size 29 #[.bool { ctl0 with noCache := bb }.noStore, .bool { ctl0 with noCache := bb }.noCache, .bool { ctl0 with noCache := bb }.priv, .bool { ctl0 with noCache := bb }.pub, .bool { ctl0 with noCache := bb }.must, .bool { ctl0 with noCache := bb }.prox, .bool { ctl0 with noCache := bb }.only, .bool { ctl0 with noCache := bb }.anyStale, .int .i64 { ctl0 with noCache := bb }.maxA, .int .i64 { ctl0 with noCache := bb }.sMax, .int .i64 { ctl0 with noCache := bb }.minF, .int .i64 { ctl0 with noCache := bb }.maxS] (0, 0) _ rfl HTQ.out.2 Tryz.underlying29 (by rfl) infoCtl) rfl ⟨by rw [HV.out], below_set HBF.out _⟩
      · have hal : ¬ allF cacheN fs = [] := fun h => by rw [get_all.2 h] at hgs; cases hgs
        have HV : Hid (parseF fs = ctlL r) := Lib.hid (by rw [HP.out, if_neg hal])
        clear hal hgs
        obtain ⟨x, hx⟩ : ∃ x, ctlL r = x := ⟨_, rfl⟩
        rw [hx] at HC3 HV
        have HTQ := Lib.hid (ctl_stored x (cs := [.bool false, .bool false, .bool false, .bool false, .bool false, .bool false, .bool false, .bool false, .int .i64 0, .int .i64 0, .int .i64 0, .int .i64 0]) (by rfl) HR3.out)
        clear hx
        obtain ⟨n0, n1, n2, n3, n4, n5, n6, n7, n8, n9, n10, n11⟩ := ctl_reads HC3.out
        go_wp2_with ((with_reducible show wpList _ _ _ (⟨none, .store 29 _ _, _, _, _, _⟩ :: _) _ _); refine wpList_store_mid rfl 29 (.tmp 2) (.tmp 108) rfl w.heap.size 0 #[.bool x.noStore, .bool x.noCache, .bool x.priv, .bool x.pub, .bool x.must, .bool x.prox, .bool x.only, .bool x.anyStale, .int .i64 x.maxA, .int .i64 x.sMax, .int .i64 x.minF, .int .i64 x.maxS] rfl rfl HTQ.out.1 infoCtl (onesCtl _) ?_)
        exact bodyPost_ret (v := ctlV x) (results_cell_row rfl _ _ w.heap.size 29 #[.bool x.noStore, .bool x.noCache, .bool x.priv, .bool x.pub, .bool x.must, .bool x.prox, .bool x.only, .bool x.anyStale, .int .i64 x.maxA, .int .i64 x.sMax, .int .i64 x.minF, .int .i64 x.maxS] (0, 0) _ rfl HTQ.out.2 Tryz.underlying29 (by rfl) infoCtl) rfl ⟨by rw [HV.out], below_set HB3.out _⟩
end Go.Proofs.YtaimhfnddolilaaGreatDoor.CtrlS
