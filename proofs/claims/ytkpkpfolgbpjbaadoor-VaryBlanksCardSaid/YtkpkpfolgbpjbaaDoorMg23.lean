/-
  The names that Vary has, in the program: small letters, sorted, each once.
  vary.Names.
-/
import Derived.Shelf.SlSortCmp.NoneTotal
import Derived.Test.YtkpkpfolgbpjbaaDoorMg19
import Derived.Test.YtkpkpfolgbpjbaaDoorMg21
import Derived.Test.YtkpkpfolgbpjbaaDoorMg22
namespace Go.Proofs.YtkpkpfolgbpjbaaDoor
open Go.RowKit HeadMath HeadS VaryMath Go.Sort

def varyN : ByteArray := ⟨#[86, 97, 114, 121]⟩
def starP (l : List ByteArray) : Bool := l.any fun x => x.data.toList == [42]
def lowL (l : List ByteArray) : List Bs := l.map fun x => lowF x.data.toList
def arrB (l : Bs) : ByteArray := ⟨l.toArray⟩
def varyL (l : List ByteArray) : List ByteArray := if starP l then [] else (onceL (lowL l)).map arrB
def NamesPost (l : List ByteArray) (w : World) (e : Ending) (w' : World) : Prop :=
  ∃ a c, e = .returned (.tuple #[.slice a (varyL l).length c, .bool (starP l)]) ∧ StrsIn w'.heap.size w' a (varyL l) ∧ Below w.heap.size w w'
theorem star_hit {l : List ByteArray} {k : Nat} (hk : k < l.length) (h : (l[k].data.toList == [42]) = true) : starP l = true := List.any_eq_true.2 ⟨l[k], List.getElem_mem hk, h⟩
theorem star_miss {l : List ByteArray} (h : ∀ j (hj : j < l.length), (l[j].data.toList == [42]) = false) : starP l = false := by
  unfold starP
  rw [List.any_eq_false]
  intro x hx
  obtain ⟨j, hj, rfl⟩ := List.getElem_of_mem hx
  rw [h j hj]
  simp
theorem names_len (l : List ByteArray) : (varyL l).length ≤ l.length := by
  unfold varyL
  split
  · exact Nat.zero_le _
  · rw [List.length_map]
    have := once_len (lowL l)
    unfold lowL at this ⊢
    rwa [List.length_map] at this
theorem mapBlock_spares (w : World) (blk : Nat) (f : Array Value → Array Value) : Spares (fun b => b = blk) w (mapBlock w blk f) :=
  ⟨rfl, rfl, rfl, by unfold mapBlock; simp, fun k _ hn => by
    unfold mapBlock
    show (w.heap.modify blk (onCells f))[k]? = _
    rw [Array.getElem?_modify]
    split
    · rename_i e; exact absurd e.symm hn
    · rfl⟩
theorem ahead_spares (F : Nat → Prop) (w : World) (n : Nat) : Spares F w (Sort.ahead w n) := ⟨rfl, rfl, rfl, Nat.le_refl _, fun _ _ _ => rfl⟩
theorem grow_spares (F : Nat → Prop) (w : World) (os : Array Obj) : Spares F w (grow w os) :=
  ⟨rfl, rfl, rfl, by unfold grow; simp, fun k hk _ => by
    show (w.heap ++ os)[k]? = _
    rw [Array.getElem?_append_left hk]⟩
theorem putRow_spares {α : Type} [Inhabited α] (enc : α → Value) (w : World) (blk off n : Nat) (d : Array α) : Spares (fun b => b = blk) w (putRow enc (Sort.ahead w n) blk off d) :=
  (ahead_spares _ w n).trans (mapBlock_spares _ blk _)
theorem sortWorld_spares {α : Type} [Inhabited α] (enc : α → Value) (w : World) (blk off n : Nat) (d : Array α) (os : Array Obj) : Spares (fun b => b = blk) w (sortWorld enc w blk off n d os) :=
  (putRow_spares enc w blk off n d).trans (grow_spares _ _ os)
theorem names_closure (x y : Bs) (W : World) : Calls Tryd.prog 51 #[encStr x, encStr y] W fun e w' => e = .returned (.int .i64 (Lib.compareBytes x y)) ∧ ∃ q, w' = W.drewN q := by
  have hcon := Tryd.strings_Compare ⟨x.toArray⟩ ⟨y.toArray⟩ W
  have e1 : (⟨x.toArray⟩ : ByteArray).data.toList = x := by simp
  have e2 : (⟨y.toArray⟩ : ByteArray).data.toList = y := by simp
  rw [e1, e2] at hcon
  clear e1 e2
  show Calls _ _ #[.string ⟨x.toArray⟩, .string ⟨y.toArray⟩] _ _
  obtain ⟨s, hs⟩ : ∃ s : ByteArray, (⟨x.toArray⟩ : ByteArray) = s := ⟨_, rfl⟩
  obtain ⟨t, ht⟩ : ∃ t : ByteArray, (⟨y.toArray⟩ : ByteArray) = t := ⟨_, rfl⟩
  rw [hs, ht] at hcon
  rw [hs, ht]
  generalize Lib.compareBytes x y = r at hcon ⊢
  have HC := Lib.hid hcon
  clear hcon hs ht
  go_enter Tryd.func51, Tryd.ntmps51
  go_wp2_with fail
  refine HC.out.mono ?_
  rintro e w' ⟨rfl, rfl⟩
  go_wp2
  go_ret
  exact ⟨rfl, 0, rfl⟩
/-- slices.SortFunc of an own row of texts. -/
theorem sort_any (g c : Nat) (d : List Bs) (w : World) (hH : Holds encStr w g 0 d.toArray) (hg : g < w.heap.size) (hl : d.length ≤ 1000000000000) :
    Calls Tryd.prog 50 #[.slice (some ⟨g, 0, none⟩) d.length c, .func (.func 51) #[] #[]] w fun e w' =>
      e = .returned (.tuple #[]) ∧ ∃ n os, w' = sortWorld encStr w g 0 n (d.mergeSort leB).toArray os := by
  have eg : ∀ args w, (callFunc 51 args).run Tryd.prog w = .ok (.enter 51 args) w := enters_of Tryd.func51 (by kernel_rfl) rfl
  have hr : CmpReads Tryd.prog 51 #[] encStr Lib.compareBytes g 0 d.toArray.size w := fun _ _ _ _ x y => names_closure x y _
  have hcon := Any.slices_SortFunc_total Tryd.laySortFunc encStr (fun _ => rfl) Lib.compareBytes swo 51 #[] g 0 c d.toArray w eg hr.lays hH hg (by simp; omega) total
  change Calls Tryd.prog 50 _ _ _ at hcon
  have e : d.toArray.size = d.length := by simp
  rw [e] at hcon
  exact hcon
/-- slices.Compact of the same row. -/
theorem compact_any (g c : Nat) (d : List Bs) (w : World) (hH : Holds encStr w g 0 d.toArray) (hl : d.length ≤ 1000000000000) (hc : d.length ≤ c) :
    Calls Tryd.prog 53 #[.slice (some ⟨g, 0, none⟩) d.length c] w fun e w' =>
      e = .returned (.slice (some ⟨g, 0, none⟩) (Lib.compact d).length c) ∧ ∃ q, w' = putRow encStr (Sort.ahead w q) g 0 (Lib.compact d ++ List.replicate (d.length - (Lib.compact d).length) []).toArray := by
  have hcon := Any.slices_Compact_string Tryd.layCompact g 0 c d w hH (by omega) hc
  change Calls Tryd.prog 53 _ _ _ at hcon
  exact hcon
theorem own_holds {B g c n : Nat} {w : World} {l : List ByteArray} (hn : n = l.length) (h : w.ownsRow B 9 1 (.slice (some ⟨g, 0, none⟩) n c) n (strCells l)) : Holds encStr w g 0 (l.map (·.data.toList)).toArray := by
  subst hn
  intro j hj
  have hj' : j < l.length := by simpa using hj
  have h1 := h.cells (g := g) rfl j _ (strCells_at hj')
  have e : (⟨g, 0, none⟩ : Addr).add j = ⟨g, j, none⟩ := by unfold Addr.add; by_cases h0 : j = 0 <;> simp [h0]
  rw [e] at h1
  refine ⟨?_, ?_⟩
  · rw [Nat.zero_add, h1, getElem!_pos _ j hj]
    simp [encStr]
  · rw [Nat.zero_add]
    exact World.ownsRow.frozenAt h j
end Go.Proofs.YtkpkpfolgbpjbaaDoor
namespace Go.Proofs.YtkpkpfolgbpjbaaDoor
open Go.RowKit HeadMath HeadS VaryMath Go.Sort

theorem enc_arr : @encStr = fun l => Value.string (arrB l) := rfl
theorem low_arr (x : ByteArray) : (⟨(lowF x.data.toList).toArray⟩ : ByteArray) = arrB (lowF x.data.toList) := rfl
def lowA (l : List ByteArray) : List ByteArray := l.map fun x => arrB (lowF x.data.toList)
theorem lowA_list (l : List ByteArray) : (lowA l).map (·.data.toList) = lowL l := by
  unfold lowA lowL
  rw [List.map_map]
  exact List.map_congr_left fun x _ => by simp [arrB]
theorem lowA_take (l : List ByteArray) (k : Nat) (h : k < l.length) : lowA (l.take (k + 1)) = lowA (l.take k) ++ [arrB (lowF l[k].data.toList)] := by
  unfold lowA
  rw [List.take_succ_eq_append_getElem h, List.map_append]
  rfl
theorem compact_len_le (d : List Bs) : (Lib.compact d).length ≤ d.length := by
  unfold Lib.compact Lib.compactUpTo
  rw [List.length_map]
  exact Nat.le_trans (List.length_filter_le _ _) (by simp)
/-- What slices.Compact leaves in the row. -/
theorem compact_cells {w : World} {g q : Nat} {d : List Bs} (hH : Holds encStr w g 0 d.toArray) :
    ∀ j (h : j < (Lib.compact d).length), (putRow encStr (Sort.ahead w q) g 0 (Lib.compact d ++ List.replicate (d.length - (Lib.compact d).length) []).toArray).cell? ⟨g, 0 + j, none⟩ = some (.string (arrB (Lib.compact d)[j])) := by
  intro j h
  have hle := compact_len_le d
  have hs : (Lib.compact d ++ List.replicate (d.length - (Lib.compact d).length) []).toArray.size = d.toArray.size := by simp; omega
  have := cell?_putRow encStr (Sort.ahead w q) g 0 d.toArray (Lib.compact d ++ List.replicate (d.length - (Lib.compact d).length) []).toArray (holds_ahead _ _ _ _ _ _ hH) hs j (by rw [hs]; simp; omega)
  rw [this, getElem!_pos _ j (by rw [hs]; simp; omega)]
  simp only [List.getElem_toArray]
  rw [List.getElem_append_left h]
  rfl
set_option maxRecDepth 100000 in
set_option maxHeartbeats 16000000 in
theorem names_any (fs : List (ByteArray × ByteArray)) (st : Int) (rs : ByteArray) (fa ba : Option Addr) (fc bn bc : Nat) (w : World) (hin : FieldsIn w.heap.size w fa fs) (hf : FewF fs) :
    Calls Tryd.prog 21 #[.agg #[.int .i64 st, .string rs, .slice fa fs.length fc, .slice ba bn bc]] w (NamesPost (listF varyN fs) w) := by
  obtain ⟨w0, hw0⟩ : ∃ w0, w.alloc (.cells #[.int .i64 st, .string rs, .slice fa fs.length fc, .slice ba bn bc] 43) = w0 := ⟨_, rfl⟩
  have hb0 : Below w.heap.size w w0 := by rw [← hw0]; exact (Below.refl _ _).alloc (Nat.le_refl _) _
  have hc0 : w0.cell? ⟨w.heap.size, 2, none⟩ = some (.slice fa fs.length fc) := by
    rw [← hw0, Lib.cell_of_heap (heap_alloc_new w _)]
    rfl
  have cL := (list_any fs varyN fa fc w0 (kin_in (w := w) ⟨w0, hb0⟩ hin) hf.small (by have := hf.1; omega) (fun j hj => (hf.2 j hj).2) (by decide)).mono fun _ _ h => row_b h
  unfold RowB at cL
  have hll := list_len hf varyN
  have hsz := list_size hf varyN
  obtain ⟨r, hr⟩ : ∃ r, listF varyN fs = r := ⟨_, rfl⟩
  rw [hr] at cL hll hsz ⊢
  have CL := Lib.hid cL
  have HW0 := Lib.hid hw0
  have HB0 := Lib.hid hb0
  have HSZ := Lib.hid hsz
  clear cL hw0 hb0 hin hf hr hsz
  unfold NamesPost
  go_enter Tryd.func21, Tryd.ntmps21
  go_wp2_with fail
  change Calls _ _ _ (w.alloc (.cells #[.int .i64 st, .string rs, .slice fa fs.length fc, .slice ba bn bc] 43)) _
  rw [HW0.out]
  refine CL.out.mono ?_
  rintro e w1 ⟨a1, c1, rfl, hrow, hb1⟩
  have HROW := Lib.hid hrow
  have HB1 := Lib.hid (HB0.out.trans (hb1.mono HB0.out.size))
  clear hrow hb1 hc0
  go_wp2
  go_loopw [4, 11] (fun v i wr => ∃ (k : Nat) (v0 : Value), k ≤ r.length ∧ i = .int .i64 k ∧ v0 = v ∧ Hid (OwnStrs w1.heap.size wr v0 (lowA (r.take k))) ∧ Hid (∀ j (hj : j < r.length), j < k → (r[j].data.toList == [42]) = false) ∧ Hid (Below w1.heap.size w1 wr)) (fun _ i _ => r.length - (intOf i).toNat)
  case atStart => exact ⟨0, _, Nat.zero_le _, rfl, rfl, Lib.hid (World.ownsRow_nil _ _ _ _), Lib.hid (fun _ _ h => absurd h (Nat.not_lt_zero _)), Lib.hid (Below.refl _ _)⟩
  case round =>
    obtain ⟨k, v0, hk, rfl, rfl, HO, HN, HB⟩ := hrel
    by_cases hkl : k < r.length
    · obtain ⟨b, rfl, _, hbl, hc1⟩ := HROW.out k hkl
      have x0 := (HB.out.cell (p := ⟨b, k, none⟩) hbl).trans hc1
      have hz := HSZ.out _ (List.getElem_mem hkl)
      have HTK := Lib.hid (lowA_take r k hkl)
      have HST := Lib.hid (fun h => star_hit hkl h)
      have HNX : Hid ((r[k].data.toList == [42]) = false → ∀ j (hj : j < r.length), j < k + 1 → (r[j].data.toList == [42]) = false) := Lib.hid (fun h j hj hjk => by
        rcases Nat.lt_or_ge j k with h1 | h1
        · exact HN.out j hj h1
        · obtain rfl : j = k := by omega
          exact h)
      have hlow : lowF r[k].data.toList = lowF r[k].data.toList := rfl
      obtain ⟨x, hx⟩ : ∃ x, r[k] = x := ⟨_, rfl⟩
      rw [hx] at x0 hz HTK HST HNX
      clear hx hc1 hbl hlow
      have hlen : (lowA (r.take k)).length + 1 ≤ 1000000000000 := by unfold lowA; rw [List.length_map, List.length_take]; omega
      cases hs : x.data.toList == [42] with
      | true =>
        have HS := Lib.hid (HST.out hs)
        have g1 : (x.toList == [42]) = true := by rw [Lib.toList_data]; exact hs
        have HF := Lib.hid (HB1.out.trans (HB.out.mono HB1.out.size))
        clear hs hlen
        go_wp2
        go_ret2
        have e : varyL r = [] := by unfold varyL; rw [if_pos HS.out]
        refine ⟨none, 0, ?_, ?_, HF.out⟩
        · rw [HS.out, e]; rfl
        · rw [e]; exact fun j hj => absurd hj (Nat.not_lt_zero _)
      | false =>
        have HNX2 := Lib.hid (HNX.out hs)
        have g1 : (x.toList == [42]) = false := by rw [Lib.toList_data]; exact hs
        have cW := fun w => NormS.lower_any x w (by omega)
        obtain ⟨y, hy⟩ : ∃ y : ByteArray, (⟨(lowF x.data.toList).toArray⟩ : ByteArray) = y := ⟨_, rfl⟩
        have HY : Hid (arrB (lowF x.data.toList) = y) := Lib.hid hy
        simp only [hy] at cW
        have CW := Lib.hid cW
        obtain ⟨L, hL⟩ : ∃ L, lowA (r.take k) = L := ⟨_, rfl⟩
        rw [hL] at HO HTK hlen
        clear hs hy cW hL
        go_wp2_with fail
        refine (CW.out _).mono ?_
        rintro e w2 ⟨rfl, hb2⟩
        have hO2 : OwnStrs w1.heap.size w2 v0 L := (Below.spares (F := nowhere) hb2 (fun k hk => .inr hk)).own HO.out (fun _ _ h => h)
        have HOW : Hid (OwnStrs w1.heap.size (w2.alloc (.cells #[.string y] 9)) v0 L) := Lib.hid (World.ownsRow.alloc hO2 _)
        have hbw : Below w1.heap.size w1 w2 := HB.out.trans (hb2.mono HB.out.size)
        have HBW := Lib.hid (hbw.alloc hbw.size (.cells #[.string y] 9))
        have HSB := Lib.hid HBW.out.size
        have HS1 := Lib.hid (one_str w2 y)
        clear hb2 hO2 hbw
        go_wp2_with ((with_reducible show wpList _ _ _ (⟨some 21, _, _, _, _, _⟩ :: _) _ _); refine wpList_append_strs rfl _ _ rfl w1.heap.size (w2.heap.size + 1) v0 L rfl HOW.out HSB.out (some ⟨w2.heap.size, 0, none⟩) 1 1 [y] rfl rfl HS1.out (fun e => by cases e) hlen ?_; intro v4 w4 ho hg; have HO4 := Lib.hid ho; have HB4 := Lib.hid (HBW.out.grown hg HSB.out (fun g h => (World.ownsRow.lt HOW.out g h).1)); clear ho hg)
        go_roundw
        case rel => exact ⟨k + 1, _, by omega, by go_num, rfl, Lib.hid (by rw [HTK.out, HY.out]; exact HO4.out), HNX2, HB4⟩
        case measure => simp [intOf]; omega
    · have hstar : starP r = false := star_miss (fun j hj => HN.out j hj (by omega))
      have hO : OwnStrs w1.heap.size wr v0 (lowA r) := by have := HO.out; rwa [List.take_of_length_le (by omega)] at this
      have hnl : varyL r = (onceL (lowL r)).map arrB := by unfold varyL; rw [if_neg (by rw [hstar]; simp)]
      have hal : (lowA r).length = r.length := by unfold lowA; rw [List.length_map]
      have HF := Lib.hid (HB1.out.trans (HB.out.mono HB1.out.size))
      by_cases h0 : r.length = 0
      · have hr0 : r = [] := List.eq_nil_of_length_eq_zero h0
        obtain ⟨av, cv, rfl, _⟩ := own_form (n := 0) hO (by rw [hal, h0])
        have e : varyL r = [] := by rw [hnl, hr0]; rfl
        have HE := Lib.hid e
        have HSTAR := Lib.hid hstar
        have cS : Calls Tryd.prog 50 #[.slice av 0 cv, .func (.func 51) #[] #[]] wr fun e w' => e = .returned (.tuple #[]) ∧ w' = wr := by
          have := AnyF.slices_SortFunc_none (P := Tryd.prog) (ρ := Tryd.laySortFunc_ren) { Tryd.laySortFunc with } av cv (.func (.func 51) #[] #[]) wr
          change Calls Tryd.prog 50 _ _ _ at this
          exact this
        have cC : Calls Tryd.prog 53 #[.slice av 0 cv] wr fun e w' => e = .returned (.slice av 0 cv) ∧ w' = wr := by
          have := Any.slices_Compact_string_empty Tryd.layCompact av cv wr
          change Calls Tryd.prog 53 _ _ _ at this
          exact this
        have CS := Lib.hid cS
        have CC := Lib.hid cC
        clear hstar hO hnl hal h0 hr0 e cS cC hk
        go_wp2_with fail
        refine CS.out.mono ?_
        rintro e w5 ⟨rfl, hw5⟩
        replace hw5 := hw5.symm
        subst hw5
        go_wp2_with fail
        refine CC.out.mono ?_
        rintro e w6 ⟨rfl, hw6⟩
        replace hw6 := hw6.symm
        subst hw6
        go_wp2
        go_ret2
        exact ⟨av, cv, by rw [HSTAR.out, HE.out]; rfl, by rw [HE.out]; exact fun j hj => absurd hj (Nat.not_lt_zero _), HF.out⟩
      · have hnn := names_len r
        have HSTAR := Lib.hid hstar
        rcases hO.2 with ⟨_, h1⟩ | ⟨g, c, cur, rfl, hBg, hg, hcap, _⟩
        · rw [hal] at h1
          exact absurd h1 h0
        · have hgl : g < wr.heap.size := (Array.getElem?_eq_some_iff.1 hg).1
          have hH : Holds encStr wr g 0 (lowL r).toArray := by
            have := own_holds (n := (lowA r).length) rfl hO
            rwa [lowA_list] at this
          have hDl : (lowL r).length = r.length := by unfold lowL; rw [List.length_map]
          have hSl : ((lowL r).mergeSort leB).length = r.length := by rw [List.length_mergeSort, hDl]
          rw [hal] at hcap
          have HSORT : Hid (Calls Tryd.prog 50 #[.slice (some ⟨g, 0, none⟩) r.length c, .func (.func 51) #[] #[]] wr fun e w5 => e = .returned (.tuple #[]) ∧ Hid (Holds encStr w5 g 0 ((lowL r).mergeSort leB).toArray ∧ Spares (fun b => b = g) wr w5)) := Lib.hid (by
            have := sort_any g c (lowL r) wr hH hgl (by omega)
            rw [hDl] at this
            refine this.mono ?_
            rintro e w5 ⟨he, n, os, rfl⟩
            exact ⟨he, Lib.hid ⟨holds_sortWorld encStr wr g 0 n (lowL r).toArray _ os hgl hH (by simp), sortWorld_spares encStr wr g 0 n _ os⟩⟩)
          have HCOMP : Hid (∀ w5, Holds encStr w5 g 0 ((lowL r).mergeSort leB).toArray → g < w5.heap.size → Calls Tryd.prog 53 #[.slice (some ⟨g, 0, none⟩) r.length c] w5 fun e w6 => e = .returned (.slice (some ⟨g, 0, none⟩) (varyL r).length c) ∧ Hid (StrsIn w6.heap.size w6 (some ⟨g, 0, none⟩) (varyL r) ∧ Spares (fun b => b = g) w5 w6)) := Lib.hid (fun w5 h5 hg5 => by
            have := compact_any g c ((lowL r).mergeSort leB) w5 h5 (by omega) (by omega)
            rw [hSl] at this
            refine this.mono ?_
            rintro e w6 ⟨rfl, q, rfl⟩
            have hcm : Lib.compact ((lowL r).mergeSort leB) = onceL (lowL r) := compact_sorted _
            have hsp := putRow_spares encStr w5 g 0 q (Lib.compact ((lowL r).mergeSort leB) ++ List.replicate (r.length - (Lib.compact ((lowL r).mergeSort leB)).length) []).toArray
            refine ⟨by rw [hcm, hnl, List.length_map], Lib.hid ⟨fun j hj => ⟨g, 0, rfl, Nat.lt_of_lt_of_le hg5 hsp.size, ?_⟩, hsp⟩⟩
            have hj' : j < (Lib.compact ((lowL r).mergeSort leB)).length := by rw [hcm]; rw [hnl, List.length_map] at hj; exact hj
            have := compact_cells (q := q) h5 j hj'
            rw [hSl] at this
            rw [this]
            congr 2
            simp only [hnl, hcm, List.getElem_map])
          have HG : Hid (w1.heap.size ≤ g ∧ g < wr.heap.size) := Lib.hid ⟨hBg, hgl⟩
          clear hO hg hcap hH hDl hSl hnl hstar hBg hgl h0 hk
          rw [hal]
          clear hal
          go_wp2_with fail
          refine HSORT.out.mono ?_
          rintro e w5 ⟨rfl, H5⟩
          have HC5 := Lib.hid (HCOMP.out w5 H5.out.1 (Nat.lt_of_lt_of_le HG.out.2 H5.out.2.size))
          go_wp2_with fail
          refine HC5.out.mono ?_
          rintro e w6 ⟨rfl, H6⟩
          have HFF : Hid (Below w.heap.size w w6) := Lib.hid (HF.out.trans ((H5.out.2.trans H6.out.2).below HF.out.size (fun k hk e => by have := HG.out.1; have := HB1.out.size; omega)))
          go_wp2
          go_ret2
          exact ⟨some ⟨g, 0, none⟩, c, by rw [HSTAR.out]; rfl, H6.out.1, HFF.out⟩
end Go.Proofs.YtkpkpfolgbpjbaaDoor
