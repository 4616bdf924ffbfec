/-
  The constants of a sum, laid once.
-/
import Derived.Test.YtimpnnhadjfijaaDoorShaBytes
import Derived.Test.YtimpnnhadjfijaaDoorOnceParts
import Derived.Great.BuildSlice
import Derived.Deep.RegionLaw
import Derived.Deep.MidRow
namespace Go.Proofs.YtimpnnhadjfijaaDoor
open Go.RowKit

def firstL : List Nat := [1779033703, 3144134277, 1013904242, 2773480762, 1359893119, 2600822924, 528734635, 1541459225]
def firstV : Array Value := (firstL.map fun (n : Nat) => Value.int .u32 (n : Int)).toArray
set_option maxRecDepth 100000 in
set_option maxHeartbeats 1000000 in
theorem square_any (w : World) : Calls Tryd.prog 45 #[] w fun e w' => e = .returned (.agg firstV) ∧ w' = w.alloc (.cells firstV 79) := by
  go_enter Tryd.func45, Tryd.ntmps45
  go_wp2
  exact bodyPost_ret (v := .agg firstV) (results_cell_row rfl _ _ w.heap.size 79 firstV (0, 0) _ rfl (heap_alloc_new w _) Tryd.underlying79 (by rfl) (by kernel_rfl)) rfl ⟨rfl, rfl⟩
def roundL : List Nat := [1116352408, 1899447441, 3049323471, 3921009573, 961987163, 1508970993, 2453635748, 2870763221, 3624381080, 310598401, 607225278, 1426881987, 1925078388, 2162078206, 2614888103, 3248222580, 3835390401, 4022224774, 264347078, 604807628, 770255983, 1249150122, 1555081692, 1996064986, 2554220882, 2821834349, 2952996808, 3210313671, 3336571891, 3584528711, 113926993, 338241895, 666307205, 773529912, 1294757372, 1396182291, 1695183700, 1986661051, 2177026350, 2456956037, 2730485921, 2820302411, 3259730800, 3345764771, 3516065817, 3600352804, 4094571909, 275423344, 430227734, 506948616, 659060556, 883997877, 958139571, 1322822218, 1537002063, 1747873779, 1955562222, 2024104815, 2227730452, 2361852424, 2428436474, 2756734187, 3204031479, 3329325298]
def roundV : Array Value := (roundL.map fun (n : Nat) => Value.int .u32 (n : Int)).toArray
theorem spares_setRow (w : World) (g : Nat) (cs : Array Value) : Spares (fun b => b = g) w (w.setRow g cs) := ⟨rfl, rfl, rfl, by simp, fun b _ hn => setRow_other w g b cs hn⟩
theorem roundV_size : roundV.size = 64 := by kernel_rfl
theorem roundV_one : roundV.all (·.oneCell') = true := by kernel_rfl
set_option maxRecDepth 100000 in
set_option maxHeartbeats 1000000 in
theorem cube_any (w : World) : Calls Tryd.prog 46 #[] w fun e w' => e = .returned (.agg roundV) ∧ Spares nowhere w w' := by
  go_enter Tryd.func46, Tryd.ntmps46
  go_wp2_with (first | (refine wpList_buildTo rfl 80 _ rfl (some 1) rfl roundV (by kernel_rfl) ?_) | (refine wpList_store_rowTo rfl 80 _ _ rfl rfl w.heap.size roundV rfl rfl 80 _ (heap_alloc_new w _) (by kernel_rfl) (by kernel_rfl) roundV_one ?_))
  exact bodyPost_ret (v := .agg roundV) (results_cell_row rfl _ _ w.heap.size 80 roundV (0, 0) _ rfl (setRow_heap _ _ _ _ _ _ (heap_alloc_new w _)) Tryd.underlying80 (by rfl) (by kernel_rfl)) rfl ⟨rfl, ((Spares.refl nowhere w).alloc _).trans' (spares_setRow _ _ _) (fun b hb => .inr (by omega))⟩

/-- What the cells of a summer hold: its Once, its constants, its state. -/
def onceV (d l : Int) (z : Value) : List Value := [.int .u32 d, .int .i32 l, z]
def sumCells (d l : Int) (z : Value) (made st : List Value) : Array Value := (onceV d l z ++ (made ++ st)).toArray
def madeV : List Value := firstV.toList ++ roundV.toList

theorem build_made (w : World) : (Instr.build 82 #[(0, .agg firstV), (1, .agg roundV)]).run Tryd.prog w = .ok (.agg madeV.toArray) w :=
  run_build w 82 #[(0, .agg firstV), (1, .agg roundV)] madeV.toArray (by kernel_rfl)
theorem sumCells_size (d l : Int) (z : Value) (made st : List Value) : (sumCells d l z made st).size = 3 + (made.length + st.length) := by simp [sumCells, onceV]; omega
theorem madeV_len : madeV.length = 72 := by kernel_rfl
theorem store_made {w : World} {p : Nat} {d l : Int} {z : Value} {made st : List Value} (hg : w.heap[p]? = some (.cells (sumCells d l z made st) 84 (0, 0))) (hm : made.length = 72) :
    (storeCells ⟨p, 3, none⟩ madeV).run Tryd.prog w = .ok () (w.setCells p 3 madeV) := by
  have h := run_storeCells_cells (P := Tryd.prog) p 3 madeV 0 w (fun j hj => by
    rw [Lib.cell_of_heap hg]
    rw [Array.getElem?_eq_getElem (by rw [sumCells_size]; rw [madeV_len] at hj; omega)]
    rfl) (fun j _ => Lib.frozen_of_heap hg _) (fun v hv => by
      have h1 : madeV.all (·.oneCell') = true := by kernel_rfl
      exact List.all_eq_true.1 h1 v hv)
  simpa using h
theorem heap_setCells {g : Nat} {t : TypeId} : ∀ (vs pre mid post : List Value) (w : World), w.heap[g]? = some (.cells (pre ++ (mid ++ post)).toArray t (0, 0)) → mid.length = vs.length → (w.setCells g pre.length vs).heap[g]? = some (.cells (pre ++ (vs ++ post)).toArray t (0, 0))
  | [], pre, mid, post, w, h, hl => by
    obtain rfl : mid = [] := List.eq_nil_of_length_eq_zero (by simpa using hl)
    exact h
  | v :: vs, pre, mid, post, w, h, hl => by
    cases mid with
    | nil => simp at hl
    | cons m mid =>
      have h1 := heap_set h pre.length v
      have e : (pre ++ (m :: mid ++ post)).toArray.setIfInBounds pre.length v = ((pre ++ [v]) ++ (mid ++ post)).toArray := by simp
      rw [e] at h1
      have h2 := heap_setCells vs (pre ++ [v]) mid post _ h1 (by simpa using hl)
      rw [List.length_append] at h2
      simpa [World.setCells] using h2
theorem spares_setCells {g : Nat} {w : World} : ∀ (vs : List Value) (o : Nat) (w' : World), Spares (fun b => b = g) w w' → Spares (fun b => b = g) w (w'.setCells g o vs)
  | [], _, _, h => h
  | v :: vs, o, _, h => spares_setCells vs (o + 1) _ (spares_set h o v)
theorem made_heap {w : World} {p : Nat} {d l : Int} {z : Value} {made st : List Value} (hg : w.heap[p]? = some (.cells (sumCells d l z made st) 84 (0, 0))) (hm : made.length = 72) :
    (w.setCells p 3 madeV).heap[p]? = some (.cells (sumCells d l z madeV st) 84 (0, 0)) :=
  heap_setCells madeV (onceV d l z) made st w hg (by rw [hm, madeV_len])
theorem made_spares {w w3 : World} {p : Nat} (h : Spares nowhere w w3) : Spares (fun b => b = p) w (w3.setCells p 3 madeV) := spares_setCells madeV 3 _ (h.mono (fun _ h => by cases h))
theorem step_build {P : Program} {ops : Array Oper} {o : Oper} {a : Act} {w : World} {K : Act → World → Prop} {Q : Exit → Act → World → Prop} {E : Prop} (hgd : o.guard = none) (t : TypeId) (parts : Array (Nat × Operand)) (ho : o.op = .build t parts)
    (cells : Array Value) (hf : P.built t (parts.map fun (i, x) => (i, a.eval x)).toList = some cells) (h : K (a.put o.dst (.agg cells)) w) : if Region.wanted o (yielded ops a.tmps) = true then Oper.wp P o a w K Q else E := by
  have hw : Region.wanted o (yielded ops a.tmps) = true := by simp [Region.wanted, hgd]
  rw [if_pos hw]
  refine wp_build t parts ho (by rw [hf]; rfl) ?_
  rw [hf]
  exact h
set_option maxRecDepth 100000 in
set_option maxHeartbeats 1000000 in
theorem words1_any (p : Nat) (pl : Addr) (d l : Int) (z : Value) (made st : List Value) (w : World) (hp : w.cell? pl = some (.pointer (some ⟨p, 0, none⟩))) (hg : w.heap[p]? = some (.cells (sumCells d l z made st) 84 (0, 0))) (hm : made.length = 72) :
    Calls Tryd.prog 44 #[.pointer (some pl)] w fun e w' => e = .returned (.tuple #[]) ∧ w'.heap[p]? = some (.cells (sumCells d l z madeV st) 84 (0, 0)) ∧ Spares (fun b => b = p) w w' := by
  have HA : Hid ((w.drew.alloc (.cells firstV 79)).heap[p]? = _) := Lib.hid (((Spares.refl nowhere w).drew.alloc (.cells firstV 79)).heap hg (fun h => h))
  have HSA : Hid (Spares nowhere w (w.drew.alloc (.cells firstV 79))) := Lib.hid ((Spares.refl nowhere w).drew.alloc _)
  have hpl : pl.block < w.heap.size := by
    obtain ⟨b, o, sp⟩ := pl
    have : sp = none := World.cell?_spot hp
    subst this
    rcases Nat.lt_or_ge b w.heap.size with h | h
    · exact h
    · simp [World.cell?, Array.getElem?_eq_none h] at hp
  have HPA : Hid ((w.drew.alloc (.cells firstV 79)).cell? pl = some (.pointer (some ⟨p, 0, none⟩))) := Lib.hid ((HSA.out.cell hpl (fun h => h)).trans hp)
  have HPL : Hid (pl.block < (w.drew.alloc (.cells firstV 79)).heap.size) := Lib.hid (Nat.lt_of_lt_of_le hpl HSA.out.size)
  clear hg hpl
  go_enter Tryd.func44, Tryd.ntmps44
  go_wp2_with fail
  refine wp_region_any (by kernel_rfl) ?_
  change wpAny _ _ _ _ _ _ _ (World.drew _)
  refine wpAny_ready (rs := [0, 1]) (by kernel_rfl) (by simp) ?_
  refine AllReady.cons rfl (fun K hK => ?_) (AllReady.cons rfl (fun K hK => ?_) AllReady.nil)
  · go_simp
    refine hK _ _ ?_
    clear hK K
    refine wpAny_ready (rs := [1]) (by kernel_rfl) (by simp) ?_
    refine AllReady.cons rfl (fun K hK => ?_) AllReady.nil
    go_simp
    go_wp2_with (go_at_call 45; refine (square_any _).mono ?_; rintro e w2 ⟨rfl, rfl⟩)
    refine wpAny_ready (rs := [2]) (by kernel_rfl) (by simp) ?_
    refine AllReady.cons rfl (fun K hK => ?_) AllReady.nil
    go_simp
    go_wp2_with (go_at_call 46; refine (cube_any _).mono ?_; rintro e w3 ⟨rfl, hs3⟩)
    have h3 := Lib.hid (hs3.heap (HA.out) (fun h => h))
    have hp3 : w3.cell? pl = some (.pointer (some ⟨p, 0, none⟩)) := (hs3.cell HPL.out (fun h => h)).trans HPA.out
    have hst := store_made h3.out hm
    have hsw := Lib.hid (HSA.out.trans hs3)
    clear hs3
    refine wpAny_ready (rs := [3]) (by kernel_rfl) (by simp) ?_
    refine AllReady.cons rfl (fun K hK => ?_) AllReady.nil
    refine step_build rfl 82 _ rfl madeV.toArray (by kernel_rfl) ?_
    refine hK _ _ ?_
    clear hK K
    refine wpAny_ready (rs := [4]) (by kernel_rfl) (by simp) ?_
    refine AllReady.cons rfl (fun K hK => ?_) AllReady.nil
    go_simp
    refine hK _ _ ?_
    clear hK K
    refine wpAny_ready (rs := [5]) (by kernel_rfl) (by simp) ?_
    refine AllReady.cons rfl (fun K hK => ?_) AllReady.nil
    go_simp
    refine hK _ _ ?_
    clear hK K
    refine wpAny_ready (rs := [6]) (by kernel_rfl) (by simp) ?_
    refine AllReady.cons rfl (fun K hK => ?_) AllReady.nil
    go_simp
    refine hK _ _ ?_
    clear hK K
    refine wpAny_done (by kernel_rfl) ?_ _
    refine ⟨rfl, _, results_none rfl _ _ _, rfl, made_heap h3.out hm, made_spares hsw.out⟩
  · go_simp
    go_wp2_with (go_at_call 45; refine (square_any _).mono ?_; rintro e w2 ⟨rfl, rfl⟩)
    refine wpAny_ready (rs := [0, 2]) (by kernel_rfl) (by simp) ?_
    refine AllReady.cons rfl (fun K hK => ?_) (AllReady.cons rfl (fun K hK => ?_) AllReady.nil)
    · have hpa : (w.alloc (.cells firstV 79)).cell? pl = some (.pointer (some ⟨p, 0, none⟩)) := HPA.out
      go_simp
      refine hK _ _ ?_
      clear hK K
      refine wpAny_ready (rs := [2]) (by kernel_rfl) (by simp) ?_
      refine AllReady.cons rfl (fun K hK => ?_) AllReady.nil
      go_simp
      go_wp2_with (go_at_call 46; refine (cube_any _).mono ?_; rintro e w3 ⟨rfl, hs3⟩)
      have h3 := Lib.hid (hs3.heap (HA.out) (fun h => h))
      have hp3 : w3.cell? pl = some (.pointer (some ⟨p, 0, none⟩)) := (hs3.cell HPL.out (fun h => h)).trans HPA.out
      have hst := store_made h3.out hm
      have hsw := Lib.hid (HSA.out.trans hs3)
      clear hs3
      refine wpAny_ready (rs := [3]) (by kernel_rfl) (by simp) ?_
      refine AllReady.cons rfl (fun K hK => ?_) AllReady.nil
      refine step_build rfl 82 _ rfl madeV.toArray (by kernel_rfl) ?_
      refine hK _ _ ?_
      clear hK K
      refine wpAny_ready (rs := [4]) (by kernel_rfl) (by simp) ?_
      refine AllReady.cons rfl (fun K hK => ?_) AllReady.nil
      go_simp
      refine hK _ _ ?_
      clear hK K
      refine wpAny_ready (rs := [5]) (by kernel_rfl) (by simp) ?_
      refine AllReady.cons rfl (fun K hK => ?_) AllReady.nil
      go_simp
      refine hK _ _ ?_
      clear hK K
      refine wpAny_ready (rs := [6]) (by kernel_rfl) (by simp) ?_
      refine AllReady.cons rfl (fun K hK => ?_) AllReady.nil
      go_simp
      refine hK _ _ ?_
      clear hK K
      refine wpAny_done (by kernel_rfl) ?_ _
      refine ⟨rfl, _, results_none rfl _ _ _, rfl, made_heap h3.out hm, made_spares hsw.out⟩
    · go_simp
      go_wp2_with (go_at_call 46; refine (cube_any _).mono ?_; rintro e w3 ⟨rfl, hs3⟩)
      have h3 := Lib.hid (hs3.heap (HA.out) (fun h => h))
      have hp3 : w3.cell? pl = some (.pointer (some ⟨p, 0, none⟩)) := (hs3.cell HPL.out (fun h => h)).trans HPA.out
      have hst := store_made h3.out hm
      have hsw := Lib.hid (HSA.out.trans hs3)
      clear hs3
      refine wpAny_ready (rs := [0, 3]) (by kernel_rfl) (by simp) ?_
      refine AllReady.cons rfl (fun K hK => ?_) (AllReady.cons rfl (fun K hK => ?_) AllReady.nil)
      · go_simp
        refine hK _ _ ?_
        clear hK K
        refine wpAny_ready (rs := [3]) (by kernel_rfl) (by simp) ?_
        refine AllReady.cons rfl (fun K hK => ?_) AllReady.nil
        refine step_build rfl 82 _ rfl madeV.toArray (by kernel_rfl) ?_
        refine hK _ _ ?_
        clear hK K
        refine wpAny_ready (rs := [4]) (by kernel_rfl) (by simp) ?_
        refine AllReady.cons rfl (fun K hK => ?_) AllReady.nil
        go_simp
        refine hK _ _ ?_
        clear hK K
        refine wpAny_ready (rs := [5]) (by kernel_rfl) (by simp) ?_
        refine AllReady.cons rfl (fun K hK => ?_) AllReady.nil
        go_simp
        refine hK _ _ ?_
        clear hK K
        refine wpAny_ready (rs := [6]) (by kernel_rfl) (by simp) ?_
        refine AllReady.cons rfl (fun K hK => ?_) AllReady.nil
        go_simp
        refine hK _ _ ?_
        clear hK K
        refine wpAny_done (by kernel_rfl) ?_ _
        refine ⟨rfl, _, results_none rfl _ _ _, rfl, made_heap h3.out hm, made_spares hsw.out⟩
      · refine step_build rfl 82 _ rfl madeV.toArray (by kernel_rfl) ?_
        refine hK _ _ ?_
        clear hK K
        refine wpAny_ready (rs := [0]) (by kernel_rfl) (by simp) ?_
        refine AllReady.cons rfl (fun K hK => ?_) AllReady.nil
        go_simp
        refine hK _ _ ?_
        clear hK K
        refine wpAny_ready (rs := [4]) (by kernel_rfl) (by simp) ?_
        refine AllReady.cons rfl (fun K hK => ?_) AllReady.nil
        go_simp
        refine hK _ _ ?_
        clear hK K
        refine wpAny_ready (rs := [5]) (by kernel_rfl) (by simp) ?_
        refine AllReady.cons rfl (fun K hK => ?_) AllReady.nil
        go_simp
        refine hK _ _ ?_
        clear hK K
        refine wpAny_ready (rs := [6]) (by kernel_rfl) (by simp) ?_
        refine AllReady.cons rfl (fun K hK => ?_) AllReady.nil
        go_simp
        refine hK _ _ ?_
        clear hK K
        refine wpAny_done (by kernel_rfl) ?_ _
        refine ⟨rfl, _, results_none rfl _ _ _, rfl, made_heap h3.out hm, made_spares hsw.out⟩
end Go.Proofs.YtimpnnhadjfijaaDoor
