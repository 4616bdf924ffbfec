/-
  The constants of a sum, laid once.
  The constants are made once: sync.Once's Do, and words.
  words: the constants, made or not.
  The eight words of the state, where they lie, and the rounds one by one.
-/
import Derived.Great.BuildSlice
import Derived.Deep.RegionLaw
import Derived.Deep.MidRow
import Derived.Test.YtgfinhkplijhbaaGreatDoorMg7
namespace Go.Proofs.YtgfinhkplijhbaaGreatDoor
open Go.RowKit

def firstL : List Nat := [1779033703, 3144134277, 1013904242, 2773480762, 1359893119, 2600822924, 528734635, 1541459225]
def firstV : Array Value := (firstL.map fun (n : Nat) => Value.int .u32 (n : Int)).toArray
set_option maxRecDepth 100000 in
set_option maxHeartbeats 1000000 in
theorem square_any (w : World) : Calls Tryz.prog 107 #[] w fun e w' => e = .returned (.agg firstV) ∧ w' = w.alloc (.cells firstV 108) := by
  go_enter Tryz.func107, Tryz.ntmps107
  go_wp2
  exact bodyPost_ret (v := .agg firstV) (results_cell_row rfl _ _ w.heap.size 108 firstV (0, 0) _ rfl (heap_alloc_new w _) Tryz.underlying108 (by rfl) (by kernel_rfl)) rfl ⟨rfl, rfl⟩
def roundL : List Nat := [1116352408, 1899447441, 3049323471, 3921009573, 961987163, 1508970993, 2453635748, 2870763221, 3624381080, 310598401, 607225278, 1426881987, 1925078388, 2162078206, 2614888103, 3248222580, 3835390401, 4022224774, 264347078, 604807628, 770255983, 1249150122, 1555081692, 1996064986, 2554220882, 2821834349, 2952996808, 3210313671, 3336571891, 3584528711, 113926993, 338241895, 666307205, 773529912, 1294757372, 1396182291, 1695183700, 1986661051, 2177026350, 2456956037, 2730485921, 2820302411, 3259730800, 3345764771, 3516065817, 3600352804, 4094571909, 275423344, 430227734, 506948616, 659060556, 883997877, 958139571, 1322822218, 1537002063, 1747873779, 1955562222, 2024104815, 2227730452, 2361852424, 2428436474, 2756734187, 3204031479, 3329325298]
def roundV : Array Value := (roundL.map fun (n : Nat) => Value.int .u32 (n : Int)).toArray
theorem spares_setRow (w : World) (g : Nat) (cs : Array Value) : Spares (fun b => b = g) w (w.setRow g cs) := ⟨rfl, rfl, rfl, by simp, fun b _ hn => setRow_other w g b cs hn⟩
theorem roundV_one : roundV.all (·.oneCell') = true := by kernel_rfl
set_option maxRecDepth 100000 in
set_option maxHeartbeats 1000000 in
theorem cube_any (w : World) : Calls Tryz.prog 108 #[] w fun e w' => e = .returned (.agg roundV) ∧ Spares nowhere w w' := by
  go_enter Tryz.func108, Tryz.ntmps108
  go_wp2_with (first | (refine wpList_buildTo rfl 109 _ rfl (some 1) rfl roundV (by kernel_rfl) ?_) | (refine wpList_store_rowTo rfl 109 _ _ rfl rfl w.heap.size roundV rfl rfl 109 _ (heap_alloc_new w _) (by kernel_rfl) (by kernel_rfl) roundV_one ?_))
  exact bodyPost_ret (v := .agg roundV) (results_cell_row rfl _ _ w.heap.size 109 roundV (0, 0) _ rfl (setRow_heap _ _ _ _ _ _ (heap_alloc_new w _)) Tryz.underlying109 (by rfl) (by kernel_rfl)) rfl ⟨rfl, ((Spares.refl nowhere w).alloc _).trans' (spares_setRow _ _ _) (fun b hb => .inr (by omega))⟩

/-- What the cells of a summer hold: its Once, its constants, its state. -/
def onceV (d l : Int) (z : Value) : List Value := [.int .u32 d, .int .i32 l, z]
def sumCells (d l : Int) (z : Value) (made st : List Value) : Array Value := (onceV d l z ++ (made ++ st)).toArray
def madeV : List Value := firstV.toList ++ roundV.toList

theorem sumCells_size (d l : Int) (z : Value) (made st : List Value) : (sumCells d l z made st).size = 3 + (made.length + st.length) := by simp [sumCells, onceV]; omega
theorem madeV_len : madeV.length = 72 := by kernel_rfl
theorem store_made {w : World} {p : Nat} {d l : Int} {z : Value} {made st : List Value} (hg : w.heap[p]? = some (.cells (sumCells d l z made st) 113 (0, 0))) (hm : made.length = 72) :
    (storeCells ⟨p, 3, none⟩ madeV).run Tryz.prog w = .ok () (w.setCells p 3 madeV) := by
  have h := run_storeCells_cells (P := Tryz.prog) p 3 madeV 0 w (fun j hj => by
    rw [Lib.cell_of_heap hg]
    rw [Array.getElem?_eq_getElem (by rw [sumCells_size]; rw [madeV_len] at hj; omega)]
    rfl) (fun j _ => Lib.frozen_of_heap hg _) (fun v hv => by
      have h1 : madeV.all (·.oneCell') = true := by kernel_rfl
      exact List.all_eq_true.1 h1 v hv)
  simpa using h
theorem heap_setCells {g : Nat} {t : TypeId} : ∀ (vs pre mid post : List Value) (w : World), w.heap[g]? = some (.cells (pre ++ (mid ++ post)).toArray t (0, 0)) → mid.length = vs.length → (w.setCells g pre.length vs).heap[g]? = some (.cells (pre ++ (vs ++ post)).toArray t (0, 0))
  | [], pre, mid, post, w, h, hl => by
    obtain rfl : mid = [] := List.eq_nil_of_length_eq_zero (by simpa using hl)
    exact h
  | v :: vs, pre, mid, post, w, h, hl => by
    cases mid with
    | nil => simp at hl
    | cons m mid =>
      have h1 := heap_set h pre.length v
      have e : (pre ++ (m :: mid ++ post)).toArray.setIfInBounds pre.length v = ((pre ++ [v]) ++ (mid ++ post)).toArray := by simp
      rw [e] at h1
      have h2 := heap_setCells vs (pre ++ [v]) mid post _ h1 (by simpa using hl)
      rw [List.length_append] at h2
      simpa [World.setCells] using h2
theorem spares_setCells {g : Nat} {w : World} : ∀ (vs : List Value) (o : Nat) (w' : World), Spares (fun b => b = g) w w' → Spares (fun b => b = g) w (w'.setCells g o vs)
  | [], _, _, h => h
  | v :: vs, o, _, h => spares_setCells vs (o + 1) _ (spares_set h o v)
theorem made_heap {w : World} {p : Nat} {d l : Int} {z : Value} {made st : List Value} (hg : w.heap[p]? = some (.cells (sumCells d l z made st) 113 (0, 0))) (hm : made.length = 72) :
    (w.setCells p 3 madeV).heap[p]? = some (.cells (sumCells d l z madeV st) 113 (0, 0)) :=
  heap_setCells madeV (onceV d l z) made st w hg (by rw [hm, madeV_len])
theorem made_spares {w w3 : World} {p : Nat} (h : Spares nowhere w w3) : Spares (fun b => b = p) w (w3.setCells p 3 madeV) := spares_setCells madeV 3 _ (h.mono (fun _ h => by cases h))
theorem step_build {P : Program} {ops : Array Oper} {o : Oper} {a : Act} {w : World} {K : Act → World → Prop} {Q : Exit → Act → World → Prop} {E : Prop} (hgd : o.guard = none) (t : TypeId) (parts : Array (Nat × Operand)) (ho : o.op = .build t parts)
    (cells : Array Value) (hf : P.built t (parts.map fun (i, x) => (i, a.eval x)).toList = some cells) (h : K (a.put o.dst (.agg cells)) w) : if Region.wanted o (yielded ops a.tmps) = true then Oper.wp P o a w K Q else E := by
  have hw : Region.wanted o (yielded ops a.tmps) = true := by simp [Region.wanted, hgd]
  rw [if_pos hw]
  refine wp_build t parts ho (by rw [hf]; rfl) ?_
  rw [hf]
  exact h
set_option maxRecDepth 100000 in
set_option maxHeartbeats 1000000 in
theorem words1_any (p : Nat) (pl : Addr) (d l : Int) (z : Value) (made st : List Value) (w : World) (hp : w.cell? pl = some (.pointer (some ⟨p, 0, none⟩))) (hg : w.heap[p]? = some (.cells (sumCells d l z made st) 113 (0, 0))) (hm : made.length = 72) :
    Calls Tryz.prog 106 #[.pointer (some pl)] w fun e w' => e = .returned (.tuple #[]) ∧ w'.heap[p]? = some (.cells (sumCells d l z madeV st) 113 (0, 0)) ∧ Spares (fun b => b = p) w w' := by
  have HA : Hid ((w.drew.alloc (.cells firstV 108)).heap[p]? = _) := Lib.hid (((Spares.refl nowhere w).drew.alloc (.cells firstV 108)).heap hg (fun h => h))
  have HSA : Hid (Spares nowhere w (w.drew.alloc (.cells firstV 108))) := Lib.hid ((Spares.refl nowhere w).drew.alloc _)
  have hpl : pl.block < w.heap.size := by
    obtain ⟨b, o, sp⟩ := pl
    have : sp = none := World.cell?_spot hp
    subst this
    rcases Nat.lt_or_ge b w.heap.size with h | h
    · exact h
    · simp [World.cell?, Array.getElem?_eq_none h] at hp
  have HPA : Hid ((w.drew.alloc (.cells firstV 108)).cell? pl = some (.pointer (some ⟨p, 0, none⟩))) := Lib.hid ((HSA.out.cell hpl (fun h => h)).trans hp)
  have HPL : Hid (pl.block < (w.drew.alloc (.cells firstV 108)).heap.size) := Lib.hid (Nat.lt_of_lt_of_le hpl HSA.out.size)
  clear hg hpl
  go_enter Tryz.func106, Tryz.ntmps106
  go_wp2_with fail
  refine wp_region_any (by kernel_rfl) ?_
  change wpAny _ _ _ _ _ _ _ (World.drew _)
  refine wpAny_ready (rs := [0, 1]) (by kernel_rfl) (by simp) ?_
  refine AllReady.cons rfl (fun K hK => ?_) (AllReady.cons rfl (fun K hK => ?_) AllReady.nil)
  · go_simp
    refine hK _ _ ?_
    clear hK K
    refine wpAny_ready (rs := [1]) (by kernel_rfl) (by simp) ?_
    refine AllReady.cons rfl (fun K hK => ?_) AllReady.nil
    go_simp
    go_wp2_with (go_at_call 107; refine (square_any _).mono ?_; rintro e w2 ⟨rfl, rfl⟩)
    refine wpAny_ready (rs := [2]) (by kernel_rfl) (by simp) ?_
    refine AllReady.cons rfl (fun K hK => ?_) AllReady.nil
    go_simp
    go_wp2_with (go_at_call 108; refine (cube_any _).mono ?_; rintro e w3 ⟨rfl, hs3⟩)
    have h3 := Lib.hid (hs3.heap (HA.out) (fun h => h))
    have hp3 : w3.cell? pl = some (.pointer (some ⟨p, 0, none⟩)) := (hs3.cell HPL.out (fun h => h)).trans HPA.out
    have hst := store_made h3.out hm
    have hsw := Lib.hid (HSA.out.trans hs3)
    clear hs3
    refine wpAny_ready (rs := [3]) (by kernel_rfl) (by simp) ?_
    refine AllReady.cons rfl (fun K hK => ?_) AllReady.nil
    refine step_build rfl 111 _ rfl madeV.toArray (by kernel_rfl) ?_
    refine hK _ _ ?_
    clear hK K
    refine wpAny_ready (rs := [4]) (by kernel_rfl) (by simp) ?_
    refine AllReady.cons rfl (fun K hK => ?_) AllReady.nil
    go_simp
    refine hK _ _ ?_
    clear hK K
    refine wpAny_ready (rs := [5]) (by kernel_rfl) (by simp) ?_
    refine AllReady.cons rfl (fun K hK => ?_) AllReady.nil
    go_simp
    refine hK _ _ ?_
    clear hK K
    refine wpAny_ready (rs := [6]) (by kernel_rfl) (by simp) ?_
    refine AllReady.cons rfl (fun K hK => ?_) AllReady.nil
    go_simp
    refine hK _ _ ?_
    clear hK K
    refine wpAny_done (by kernel_rfl) ?_ _
    refine ⟨rfl, _, results_none rfl _ _ _, rfl, made_heap h3.out hm, made_spares hsw.out⟩
  · go_simp
    go_wp2_with (go_at_call 107; refine (square_any _).mono ?_; rintro e w2 ⟨rfl, rfl⟩)
    refine wpAny_ready (rs := [0, 2]) (by kernel_rfl) (by simp) ?_
    refine AllReady.cons rfl (fun K hK => ?_) (AllReady.cons rfl (fun K hK => ?_) AllReady.nil)
    · have hpa : (w.alloc (.cells firstV 108)).cell? pl = some (.pointer (some ⟨p, 0, none⟩)) := HPA.out
      go_simp
      refine hK _ _ ?_
      clear hK K
      refine wpAny_ready (rs := [2]) (by kernel_rfl) (by simp) ?_
      refine AllReady.cons rfl (fun K hK => ?_) AllReady.nil
      go_simp
      go_wp2_with (go_at_call 108; refine (cube_any _).mono ?_; rintro e w3 ⟨rfl, hs3⟩)
      have h3 := Lib.hid (hs3.heap (HA.out) (fun h => h))
      have hp3 : w3.cell? pl = some (.pointer (some ⟨p, 0, none⟩)) := (hs3.cell HPL.out (fun h => h)).trans HPA.out
      have hst := store_made h3.out hm
      have hsw := Lib.hid (HSA.out.trans hs3)
      clear hs3
      refine wpAny_ready (rs := [3]) (by kernel_rfl) (by simp) ?_
      refine AllReady.cons rfl (fun K hK => ?_) AllReady.nil
      refine step_build rfl 111 _ rfl madeV.toArray (by kernel_rfl) ?_
      refine hK _ _ ?_
      clear hK K
      refine wpAny_ready (rs := [4]) (by kernel_rfl) (by simp) ?_
      refine AllReady.cons rfl (fun K hK => ?_) AllReady.nil
      go_simp
      refine hK _ _ ?_
      clear hK K
      refine wpAny_ready (rs := [5]) (by kernel_rfl) (by simp) ?_
      refine AllReady.cons rfl (fun K hK => ?_) AllReady.nil
      go_simp
      refine hK _ _ ?_
      clear hK K
      refine wpAny_ready (rs := [6]) (by kernel_rfl) (by simp) ?_
      refine AllReady.cons rfl (fun K hK => ?_) AllReady.nil
      go_simp
      refine hK _ _ ?_
      clear hK K
      refine wpAny_done (by kernel_rfl) ?_ _
      refine ⟨rfl, _, results_none rfl _ _ _, rfl, made_heap h3.out hm, made_spares hsw.out⟩
    · go_simp
      go_wp2_with (go_at_call 108; refine (cube_any _).mono ?_; rintro e w3 ⟨rfl, hs3⟩)
      have h3 := Lib.hid (hs3.heap (HA.out) (fun h => h))
      have hp3 : w3.cell? pl = some (.pointer (some ⟨p, 0, none⟩)) := (hs3.cell HPL.out (fun h => h)).trans HPA.out
      have hst := store_made h3.out hm
      have hsw := Lib.hid (HSA.out.trans hs3)
      clear hs3
      refine wpAny_ready (rs := [0, 3]) (by kernel_rfl) (by simp) ?_
      refine AllReady.cons rfl (fun K hK => ?_) (AllReady.cons rfl (fun K hK => ?_) AllReady.nil)
      · go_simp
        refine hK _ _ ?_
        clear hK K
        refine wpAny_ready (rs := [3]) (by kernel_rfl) (by simp) ?_
        refine AllReady.cons rfl (fun K hK => ?_) AllReady.nil
        refine step_build rfl 111 _ rfl madeV.toArray (by kernel_rfl) ?_
        refine hK _ _ ?_
        clear hK K
        refine wpAny_ready (rs := [4]) (by kernel_rfl) (by simp) ?_
        refine AllReady.cons rfl (fun K hK => ?_) AllReady.nil
        go_simp
        refine hK _ _ ?_
        clear hK K
        refine wpAny_ready (rs := [5]) (by kernel_rfl) (by simp) ?_
        refine AllReady.cons rfl (fun K hK => ?_) AllReady.nil
        go_simp
        refine hK _ _ ?_
        clear hK K
        refine wpAny_ready (rs := [6]) (by kernel_rfl) (by simp) ?_
        refine AllReady.cons rfl (fun K hK => ?_) AllReady.nil
        go_simp
        refine hK _ _ ?_
        clear hK K
        refine wpAny_done (by kernel_rfl) ?_ _
        refine ⟨rfl, _, results_none rfl _ _ _, rfl, made_heap h3.out hm, made_spares hsw.out⟩
      · refine step_build rfl 111 _ rfl madeV.toArray (by kernel_rfl) ?_
        refine hK _ _ ?_
        clear hK K
        refine wpAny_ready (rs := [0]) (by kernel_rfl) (by simp) ?_
        refine AllReady.cons rfl (fun K hK => ?_) AllReady.nil
        go_simp
        refine hK _ _ ?_
        clear hK K
        refine wpAny_ready (rs := [4]) (by kernel_rfl) (by simp) ?_
        refine AllReady.cons rfl (fun K hK => ?_) AllReady.nil
        go_simp
        refine hK _ _ ?_
        clear hK K
        refine wpAny_ready (rs := [5]) (by kernel_rfl) (by simp) ?_
        refine AllReady.cons rfl (fun K hK => ?_) AllReady.nil
        go_simp
        refine hK _ _ ?_
        clear hK K
        refine wpAny_ready (rs := [6]) (by kernel_rfl) (by simp) ?_
        refine AllReady.cons rfl (fun K hK => ?_) AllReady.nil
        go_simp
        refine hK _ _ ?_
        clear hK K
        refine wpAny_done (by kernel_rfl) ?_ _
        refine ⟨rfl, _, results_none rfl _ _ _, rfl, made_heap h3.out hm, made_spares hsw.out⟩
end Go.Proofs.YtgfinhkplijhbaaGreatDoor
namespace Go.Proofs.YtgfinhkplijhbaaGreatDoor
open Go.RowKit

theorem sum_set0 (d l d' : Int) (z : Value) (made st : List Value) : (sumCells d l z made st).setIfInBounds 0 (.int .u32 d') = sumCells d' l z made st := by simp [sumCells, onceV]
theorem sum_set1 (d l l' : Int) (z : Value) (made st : List Value) : (sumCells d l z made st).setIfInBounds 1 (.int .i32 l') = sumCells d l' z made st := by simp [sumCells, onceV]
theorem sum_get0 {w : World} {p : Nat} {d l : Int} {z : Value} {made st : List Value} {t : TypeId} (h : w.heap[p]? = some (.cells (sumCells d l z made st) t (0, 0))) : w.cell? ⟨p, 0, none⟩ = some (.int .u32 d) := by
  rw [Lib.cell_of_heap h]; rfl
theorem sum_get1 {w : World} {p : Nat} {d l : Int} {z : Value} {made st : List Value} {t : TypeId} (h : w.heap[p]? = some (.cells (sumCells d l z made st) t (0, 0))) : w.cell? ⟨p, 1, none⟩ = some (.int .i32 l) := by
  rw [Lib.cell_of_heap h]; rfl

set_option maxRecDepth 100000 in
set_option maxHeartbeats 1600000 in
theorem slow_any (p : Nat) (pl : Addr) (z : Value) (made st : List Value) (w : World) (hpb : ¬ p = pl.block) (hp : w.cell? pl = some (.pointer (some ⟨p, 0, none⟩))) (hg : w.heap[p]? = some (.cells (sumCells 0 0 z made st) 113 (0, 0))) (hm : made.length = 72) :
    Calls Tryz.prog 125 #[.pointer (some ⟨p, 0, none⟩), .func (.func 106) #[] #[.pointer (some pl)]] w fun e w' => e = .returned (.tuple #[]) ∧ w'.heap[p]? = some (.cells (sumCells 1 0 z madeV st) 113 (0, 0)) ∧ Spares (fun b => b = p) w w' := by
  have hg1 : (w.setCell ⟨p, 1, none⟩ (.int .i32 1)).heap[p]? = some (.cells (sumCells 0 1 z made st) 113 (0, 0)) := by rw [← sum_set1 0 0]; exact heap_set hg 1 _
  have c1 := sum_get1 hg
  have f1 := Lib.frozen_of_heap hg 1
  have hp1 : (w.setCell ⟨p, 1, none⟩ (.int .i32 1)).cell? pl = some (.pointer (some ⟨p, 0, none⟩)) := (World.cell?_setCell_other _ ⟨p, 1, none⟩ pl _ (fun h => hpb (by rw [← h]))).trans hp
  have hl := run_call_load (P := Tryz.prog) Tryz.func138 (by kernel_rfl) (by kernel_rfl) (by kernel_rfl) .u32 (by kernel_rfl) (w := w.setCell ⟨p, 1, none⟩ (.int .i32 1)) (a := ⟨p, 0, none⟩) (x := 0) (sum_get0 hg1)
  have hnot : ∀ (x : Bool) (w : World), (Op.unary .not (.bool x)).run Tryz.prog w = .ok (.bool (!x)) w := fun _ _ => rfl
  have HG1 := Lib.hid hg1
  have hs1 : Hid (Spares (fun b => b = p) w (w.setCell ⟨p, 1, none⟩ (.int .i32 1))) := Lib.hid (spares_set (Spares.refl _ w) 1 _)
  clear hg hg1
  go_enter_defers Tryz.func125, Tryz.ntmps125
  go_wp2_with (first | (go_at_call 139; refine (lock_free ⟨p, 1, none⟩ _ c1 f1).mono ?_; rintro e w' ⟨rfl, rfl⟩) | (go_at_call 124; go_in) | (go_at_call 106; refine (words1_any p pl 0 1 z made st _ hp1 HG1.out hm).mono ?_; rintro e w2 ⟨rfl, hg2, hs2⟩))
  refine leaves_cons (f := 141) (args := #[.pointer (some ⟨p, 0, none⟩), .bool true]) (by simp) (by simp [go_sem]) ?_
  refine (store_deferred ⟨p, 0, none⟩ (.int .u32 0) .returning _ (sum_get0 hg2) (Lib.frozen_of_heap hg2 0)).mono ?_
  rintro e u' w'' ⟨rfl, rfl, rfl⟩
  have hg3 : (w2.drew.setCell ⟨p, 0, none⟩ (.int .u32 1)).heap[p]? = some (.cells (sumCells 1 1 z madeV st) 113 (0, 0)) := by rw [← sum_set0 0 1]; exact heap_set (w := w2.drew) hg2 0 _
  have hs3 := spares_set (hs1.out.trans hs2).drew 0 (.int .u32 1)
  refine leaves_cons (f := 140) (args := #[.pointer (some ⟨p, 1, none⟩)]) (by simp [settle]) (by simp [go_sem]) ?_
  refine (unlock_deferred ⟨p, 1, none⟩ _ _ (sum_get1 hg3) (Lib.frozen_of_heap hg3 1)).mono ?_
  rintro e u' w'' ⟨rfl, rfl, rfl⟩
  have hg4 : ((w2.drew.setCell ⟨p, 0, none⟩ (.int .u32 1)).setCell ⟨p, 1, none⟩ (.int .i32 0)).heap[p]? = some (.cells (sumCells 1 0 z madeV st) 113 (0, 0)) := by rw [← sum_set1 1 1]; exact heap_set hg3 1 _
  have hs4 := spares_set hs3 1 (.int .i32 0)
  simp [Leaves, settle, results, Tryz.results125]
  exact ⟨hg4, hs4⟩

set_option maxRecDepth 100000 in
set_option maxHeartbeats 1600000 in
theorem do_first (p : Nat) (pl : Addr) (z : Value) (made st : List Value) (w : World) (hpb : ¬ p = pl.block) (hp : w.cell? pl = some (.pointer (some ⟨p, 0, none⟩))) (hg : w.heap[p]? = some (.cells (sumCells 0 0 z made st) 113 (0, 0))) (hm : made.length = 72) :
    Calls Tryz.prog 105 #[.pointer (some ⟨p, 0, none⟩), .func (.func 106) #[] #[.pointer (some pl)]] w fun e w' => e = .returned (.tuple #[]) ∧ w'.heap[p]? = some (.cells (sumCells 1 0 z madeV st) 113 (0, 0)) ∧ Spares (fun b => b = p) w w' := by
  have hl := run_call_load (P := Tryz.prog) Tryz.func138 (by kernel_rfl) (by kernel_rfl) (by kernel_rfl) .u32 (by kernel_rfl) (sum_get0 hg)
  have hnot : ∀ (x : Bool) (w : World), (Op.unary .not (.bool x)).run Tryz.prog w = .ok (.bool (!x)) w := fun _ _ => rfl
  have HC := Lib.hid (slow_any p pl z made st w hpb hp hg hm)
  clear hp hg hpb
  go_enter Tryz.func105, Tryz.ntmps105
  go_wp2_with (first | (go_at_call 125; refine HC.out.mono ?_; rintro e w' ⟨rfl, hg2, hs2⟩) | (go_at_call 124; go_in))
  go_end0
  exact ⟨rfl, hg2, hs2⟩
theorem do_done (a : Addr) (d : Int) (hd : ¬ d = 0) (fv : Value) (w : World) (h0 : w.cell? a = some (.int .u32 d)) :
    Calls Tryz.prog 105 #[.pointer (some a), fv] w fun e w' => e = .returned (.tuple #[]) ∧ w' = w := by
  have hl := run_call_load (P := Tryz.prog) Tryz.func138 (by kernel_rfl) (by kernel_rfl) (by kernel_rfl) .u32 (by kernel_rfl) h0
  have hnot : ∀ (x : Bool) (w : World), (Op.unary .not (.bool x)).run Tryz.prog w = .ok (.bool (!x)) w := fun _ _ => rfl
  have hd' : (d != 0) = true := by simp [hd]
  go_enter Tryz.func105, Tryz.ntmps105
  go_wp2
  go_end0
  exact ⟨rfl, rfl⟩
end Go.Proofs.YtgfinhkplijhbaaGreatDoor
namespace Go.Proofs.YtgfinhkplijhbaaGreatDoor
open Go.RowKit

/-- What words leaves: the constants at hand, nothing else turned. -/
def Made (p : Nat) (z : Value) (st : List Value) (w : World) (e : Ending) (w' : World) : Prop := e = .returned (.pointer (some ⟨p, 3, none⟩)) ∧ w'.heap[p]? = some (.cells (sumCells 1 0 z madeV st) 113 (0, 0)) ∧ Spares (fun b => b = p) w w'
set_option maxRecDepth 100000 in
set_option maxHeartbeats 1600000 in
theorem words_first (p : Nat) (z : Value) (made st : List Value) (w : World) (hg : w.heap[p]? = some (.cells (sumCells 0 0 z made st) 113 (0, 0))) (hm : made.length = 72) :
    Calls Tryz.prog 82 #[.pointer (some ⟨p, 0, none⟩)] w (Made p z st w) := by
  have hp : p < w.heap.size := (Array.getElem?_eq_some_iff.1 hg).1
  have hmf : ∀ (fn : Fn) (first cap : Array Value) (w : World), (Instr.makeFunc fn first cap).run Tryz.prog w = .ok (.func fn first cap) w := fun _ _ _ _ => rfl
  have hs0 : Spares nowhere w (w.alloc (.cells #[.pointer (some ⟨p, 0, none⟩)] 139)) := (Spares.refl _ _).alloc _
  have hb0 := heap_alloc_new w (.cells #[.pointer (some ⟨p, 0, none⟩)] 139)
  have HC := Lib.hid (do_first p ⟨w.heap.size, 0, none⟩ z made st (w.alloc (.cells #[.pointer (some ⟨p, 0, none⟩)] 139)) (by simp; omega) ((Lib.cell_of_heap hb0 0).trans rfl) (hs0.heap hg (fun h => h)) hm)
  have HB := Lib.hid hb0
  have HS := Lib.hid hs0
  clear hg hs0 hb0
  go_enter Tryz.func82, Tryz.ntmps82
  go_wp2_with fail
  refine HC.out.mono ?_
  rintro e w2 ⟨rfl, hg2, hs2⟩
  have hb2 := hs2.heap HB.out (by omega)
  have c2 : w2.cell? ⟨w.heap.size, 0, none⟩ = some (.pointer (some ⟨p, 0, none⟩)) := by rw [Lib.cell_of_heap hb2]; rfl
  have HG := Lib.hid hg2
  have HS2 := Lib.hid (Spares.trans' (F := fun b => b = p) (HS.out.mono (fun _ h => by cases h)) hs2 (fun b hb => .inl hb))
  clear hg2 hs2 hb2
  go_wp2
  go_ret
  exact ⟨rfl, HG.out, HS2.out⟩
set_option maxRecDepth 100000 in
theorem words_again (p : Nat) (z : Value) (st : List Value) (w : World) (hg : w.heap[p]? = some (.cells (sumCells 1 0 z madeV st) 113 (0, 0))) :
    Calls Tryz.prog 82 #[.pointer (some ⟨p, 0, none⟩)] w (Made p z st w) := by
  have hp : p < w.heap.size := (Array.getElem?_eq_some_iff.1 hg).1
  have hmf : ∀ (fn : Fn) (first cap : Array Value) (w : World), (Instr.makeFunc fn first cap).run Tryz.prog w = .ok (.func fn first cap) w := fun _ _ _ _ => rfl
  have hs0 : Spares nowhere w (w.alloc (.cells #[.pointer (some ⟨p, 0, none⟩)] 139)) := (Spares.refl _ _).alloc _
  have hg1 := hs0.heap hg (fun h => h)
  have HC := Lib.hid (fun fv => do_done ⟨p, 0, none⟩ 1 (by decide) fv (w.alloc (.cells #[.pointer (some ⟨p, 0, none⟩)] 139)) (sum_get0 hg1))
  have HG := Lib.hid hg1
  have HS := Lib.hid hs0
  clear hg hs0 hg1
  go_enter Tryz.func82, Tryz.ntmps82
  go_wp2_with fail
  refine (HC.out _).mono ?_
  rintro e w2 ⟨rfl, rfl⟩
  go_wp2
  go_ret
  exact ⟨rfl, HG.out, HS.out.mono (fun _ h => by cases h)⟩
end Go.Proofs.YtgfinhkplijhbaaGreatDoor
namespace Go.Proofs.YtgfinhkplijhbaaGreatDoor

def wl (s : S8) : List UInt32 := [s.a, s.b, s.c, s.d, s.e, s.f, s.g, s.h]
def stV (s : S8) : List Value := (wl s).map v32
/-- The state while it is added to: the first words done. -/
def mixedL (k : Nat) (s t : S8) : List UInt32 := (wl (addS s t)).take k ++ (wl s).drop k
def mixedV (k : Nat) (s t : S8) : List Value := (mixedL k s t).map v32
theorem mixed_none (s t : S8) : mixedV 0 s t = stV s := by simp [mixedV, mixedL, stV]
theorem mixed_all (s t : S8) : mixedV 8 s t = stV (addS s t) := by simp [mixedV, mixedL, stV, wl]
theorem sum_cell (d l : Int) (z : Value) (made st : List Value) (hm : made.length = 72) (i : Nat) : (sumCells d l z made st)[75 + i]? = st[i]? := by
  unfold sumCells onceV
  rw [List.getElem?_toArray, show 75 + i = (72 + i) + 1 + 1 + 1 by omega, List.cons_append, List.cons_append, List.cons_append, List.nil_append, List.getElem?_cons_succ, List.getElem?_cons_succ, List.getElem?_cons_succ, List.getElem?_append_right (by omega), hm, Nat.add_sub_cancel_left]
theorem sum_set (d l : Int) (z : Value) (made st : List Value) (hm : made.length = 72) (i : Nat) (v : Value) : (sumCells d l z made st).setIfInBounds (75 + i) v = sumCells d l z made (st.set i v) := by
  unfold sumCells onceV
  rw [List.setIfInBounds_toArray, show 75 + i = (72 + i) + 1 + 1 + 1 by omega, List.cons_append, List.cons_append, List.cons_append, List.nil_append, List.set_cons_succ, List.set_cons_succ, List.set_cons_succ, List.set_append, if_neg (by omega), hm, Nat.add_sub_cancel_left]
  rfl
theorem roundK_len : roundK.length = 64 := by kernel_rfl
theorem madeV_words : madeV = firstV.toList ++ roundK.map v32 := by kernel_rfl
theorem sum_round (z : Value) (st : List Value) (i : Nat) (h : i < 64) : (sumCells 1 0 z madeV st)[11 + i]? = some (.int .u32 (roundK.getD i 0).toNat) := by
  unfold sumCells onceV
  have hf : firstV.toList.length = 8 := by kernel_rfl
  have hr : i < roundK.length := by rw [roundK_len]; exact h
  rw [List.getElem?_toArray, show 11 + i = (8 + i) + 1 + 1 + 1 by omega, List.cons_append, List.cons_append, List.cons_append, List.nil_append, List.getElem?_cons_succ, List.getElem?_cons_succ, List.getElem?_cons_succ, madeV_words, List.append_assoc, List.getElem?_append_right (by omega), hf, Nat.add_sub_cancel_left, List.getElem?_append_left (by rw [List.length_map]; exact hr), List.getElem?_map, List.getElem?_eq_getElem hr, List.getD_eq_getElem?_getD, List.getElem?_eq_getElem hr]
  rfl
theorem mixed_get (k : Nat) (h : k < 8) (s t : S8) : (mixedV k s t)[k]? = some (.int .u32 ((wl s).getD k 0).toNat) := by
  obtain rfl | rfl | rfl | rfl | rfl | rfl | rfl | rfl : k = 0 ∨ k = 1 ∨ k = 2 ∨ k = 3 ∨ k = 4 ∨ k = 5 ∨ k = 6 ∨ k = 7 := by omega
  all_goals rfl
theorem mixed_set (k : Nat) (h : k < 8) (s t : S8) : (mixedV k s t).set k (.int .u32 (addW ((wl s).getD k 0) ((wl t).getD k 0)).toNat) = mixedV (k + 1) s t := by
  obtain rfl | rfl | rfl | rfl | rfl | rfl | rfl | rfl : k = 0 ∨ k = 1 ∨ k = 2 ∨ k = 3 ∨ k = 4 ∨ k = 5 ∨ k = 6 ∨ k = 7 := by omega
  all_goals rfl
theorem stV_get (k : Nat) (h : k < 8) (t : S8) : (stV t)[k]? = some (.int .u32 ((wl t).getD k 0).toNat) := by
  obtain rfl | rfl | rfl | rfl | rfl | rfl | rfl | rfl : k = 0 ∨ k = 1 ∨ k = 2 ∨ k = 3 ∨ k = 4 ∨ k = 5 ∨ k = 6 ∨ k = 7 := by omega
  all_goals rfl
/-- The rounds, one by one. -/
def runS (W : List UInt32) (s : S8) : Nat → S8
  | 0 => s
  | n + 1 => stepS (runS W s n) (roundK.getD n 0) (W.getD n 0)
theorem roundsS_snoc : ∀ (ks ws : List UInt32) (s : S8) (k w : UInt32), ks.length = ws.length → roundsS s (ks ++ [k]) (ws ++ [w]) = stepS (roundsS s ks ws) k w
  | [], [], _, _, _, _ => rfl
  | a :: ks, b :: ws, s, k, w, h => by
    rw [List.cons_append, List.cons_append, roundsS, roundsS]
    exact roundsS_snoc ks ws _ k w (by simpa using h)
  | [], _ :: _, _, _, _, h => by simp at h
  | _ :: _, [], _, _, _, h => by simp at h
theorem take_snoc (l : List UInt32) (n : Nat) (h : n < l.length) : l.take (n + 1) = l.take n ++ [l.getD n 0] := by
  rw [List.take_add_one, List.getElem?_eq_getElem h, List.getD_eq_getElem?_getD, List.getElem?_eq_getElem h]; rfl
theorem runS_take (W : List UInt32) (hW : W.length = 64) (s : S8) : ∀ n, n ≤ 64 → runS W s n = roundsS s (roundK.take n) (W.take n)
  | 0, _ => by simp [runS, roundsS]
  | n + 1, h => by
    rw [runS, runS_take W hW s n (by omega), take_snoc roundK n (by rw [roundK_len]; omega), take_snoc W n (by omega), roundsS_snoc _ _ _ _ _ (by rw [List.length_take, List.length_take, roundK_len, hW])]
theorem runS_all (W : List UInt32) (hW : W.length = 64) (s : S8) : runS W s 64 = roundsS s roundK W := by
  rw [runS_take W hW s 64 (by omega), List.take_of_length_le (by rw [roundK_len]; omega), List.take_of_length_le (by omega)]
theorem index_words (cs : Array Value) (i : Nat) (v : Value) (h : i < 8) (hv : cs[i]? = some v) (w : World) : (Instr.index 108 (.agg cs) (.int .i64 (i : Int))).run Tryz.prog w = .ok v w := by
  have hb : (0 : Int) ≤ (i : Int) ∧ (i : Int) < 8 := by omega
  simp [Instr.index, run_underlying Tryz.underlying108, asIntOf, hb, go_sem, hv]
  intro h8; omega
theorem notW_walk (x : UInt32) : Go.bits .xor .u32 (if IntKind.u32.signed = true then -1 else IntKind.u32.max) (x.toNat : Int) = ((notW x).toNat : Int) := by
  have h : (if IntKind.u32.signed = true then -1 else IntKind.u32.max) = (4294967295 : Int) := by decide
  rw [h]; exact notW_int x
end Go.Proofs.YtgfinhkplijhbaaGreatDoor
