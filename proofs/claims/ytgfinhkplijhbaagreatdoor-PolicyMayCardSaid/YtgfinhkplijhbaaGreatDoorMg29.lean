/-
  The names that Vary has, in the reference: put in one by one.
  What Match and Keep say, of names.
  An address' key: GET, the host in small letters, the target.
  The law's own example.
  ambryhelp.LightR, and what the laws of vary share.
  Blanks put in ahead of blanks say nothing; a value more does.
  A row read, a row copied and made longer, in a drawn region; Match at the worlds behind.
  A response that came in by value, opened; slices of fields.
  VaryStar's arguments.
-/
import Derived.Deep.RegionLawGrows
import Derived.Deep.AppendSrc
import Derived.Deep.Upon
import Derived.Lib.SlFresh
import Derived.Deep.RegionHeld3
import Derived.Laws.OwnMore
import Derived.ProofKit
import Derived.OpenShut
import Derived.LaidSub
import Derived.MakeChecks
import Derived.Lib.SmallJoins
import Derived.SliceStrings
import Derived.Test.YtgfinhkplijhbaaGreatDoorMg5
import Derived.Test.YtgfinhkplijhbaaGreatDoorMg7
import Derived.Test.YtgfinhkplijhbaaGreatDoorMg8
import Derived.Test.YtgfinhkplijhbaaGreatDoorMg9
import Derived.Test.YtgfinhkplijhbaaGreatDoorMg13
import Derived.Test.YtgfinhkplijhbaaGreatDoorMg16
import Derived.Test.YtgfinhkplijhbaaGreatDoorMg17
import Derived.Test.YtgfinhkplijhbaaGreatDoorMg20
import Derived.Test.YtgfinhkplijhbaaGreatDoorMg21
import Derived.Test.YtgfinhkplijhbaaGreatDoorMg25
import Derived.Test.YtgfinhkplijhbaaGreatDoorMg28
import Derived.Test.YtgfinhkplijhbaaGreatDoorMg31
namespace Go.Proofs.YtgfinhkplijhbaaGreatDoor.VaryS
open CtrlS
open Go.RowKit HeadMath HeadS VaryMath Go.Sort

theorem ins_same (n : Bs) : ∀ (out : List Bs) (k : Nat) (hk : k < out.length), (∀ j (hj : j < out.length), j < k → out[j] < n) → out[k] = n → insL n out = out
  | [], k, hk, _, _ => absurd hk (Nat.not_lt_zero _)
  | x :: r, 0, _, _, he => by
    have he' : x = n := he
    subst he'
    unfold insL
    rw [if_neg (List.lt_irrefl x), if_pos rfl]
  | x :: r, k + 1, hk, h, he => by
    have h0 : x < n := h 0 (by simp) (by omega)
    unfold insL
    rw [if_pos h0, ins_same n r k (by simpa using hk) (fun j hj hjk => h (j + 1) (by simpa using hj) (by omega)) he]
theorem ins_new (n : Bs) : ∀ (out : List Bs) (k : Nat), k ≤ out.length → (∀ j (hj : j < out.length), j < k → out[j] < n) → (∀ (hk : k < out.length), ¬ out[k] < n ∧ out[k] ≠ n) → insL n out = out.take k ++ n :: out.drop k
  | [], k, _, _, _ => by simp [insL]
  | x :: r, 0, _, _, he => by
    obtain ⟨h1, h2⟩ := he (by simp)
    have h1' : ¬ x < n := h1
    have h2' : x ≠ n := h2
    unfold insL
    rw [if_neg h1', if_neg h2']
    rfl
  | x :: r, k + 1, hk, h, he => by
    have h0 : x < n := h 0 (by simp) (by omega)
    unfold insL
    rw [if_pos h0, ins_new n r k (by simpa using hk) (fun j hj hjk => h (j + 1) (by simpa using hj) (by omega)) (fun hk => he (by simpa using hk))]
    rfl
theorem once_snoc (l : List ByteArray) (k : Nat) (h : k < l.length) : onceL (lowL (l.take (k + 1))) = insL (lowF l[k].data.toList) (onceL (lowL (l.take k))) := by
  unfold onceL lowL
  rw [List.take_succ_eq_append_getElem h, List.map_append, List.foldl_append]
  rfl
theorem step_append_run {P : Program} {ops : Array Oper} {o : Oper} {a : Act} {w : World} {K : Act → World → Prop} {Q : Exit → Act → World → Prop} {E : Prop} (hgd : o.guard = none) (s x : Operand) (t : TypeId)
    (ho : o.op = .call { callee := .builtin .append, args := #[s, x], argTypes := #[t, t] }) (v u : Value) (hs : a.eval s = v) (hx : a.eval x = u) {v' : Value} {w' : World}
    (hr : (Builtin.append_ #[t, t] o.type #[v, u]).run P w = .ok v' w') (h : K (a.put o.dst v') w') : if Region.wanted o (yielded ops a.tmps) = true then Oper.wp P o a w K Q else E := by
  have hw : Region.wanted o (yielded ops a.tmps) = true := by simp [Region.wanted, hgd]
  rw [if_pos hw]
  exact Lib.wp_append_run_sl w s x t ho v u hs hx hr h
theorem elemStr : Tryz.prog.underlying 46 = some (.slice (Tryz.prog.elem 46)) := by kernel_rfl
theorem sizeStr (w : World) : (sizeOf (Tryz.prog.elem 46)).run Tryz.prog w = .ok 1 w := by kernel_rfl
/-- out[:p:p] -/
theorem slice_upto (g n c p : Nat) (w : World) (h : p ≤ c) :
    (Instr.sliceAt 46 (.slice (some ⟨g, 0, none⟩) n c) none (some (.int .i64 (p : Int))) (some (.int .i64 (p : Int)))).run Tryz.prog w = .ok (.slice (some ⟨g, 0, none⟩) p p) w := by
  rw [run_sliceAt_slice w 46 _ _ _ _ elemStr, run_slice_hm w 46 _ n c elemStr .i64 .i64 (p : Int) (p : Int) (by omega) (by omega) (by omega), sizeStr]
  simp [Result.andThen, sliced, Addr.add]
/-- out[p:], where something is left. -/
theorem slice_from (g n c p : Nat) (w : World) (h : p < n) (h2 : n ≤ c) :
    (Instr.sliceAt 46 (.slice (some ⟨g, 0, none⟩) n c) (some (.int .i64 (p : Int))) none none).run Tryz.prog w = .ok (.slice (some ⟨g, p, none⟩) (n - p) (c - p)) w := by
  rw [run_sliceAt_slice w 46 _ _ _ _ elemStr, run_slice_l w 46 _ n c elemStr .i64 (p : Int) (by omega) (by omega), sizeStr]
  have : ¬ c = p := by omega
  by_cases h0 : p = 0
  · simp [Result.andThen, sliced, Addr.add, h0]
  · simp [Result.andThen, sliced, Addr.add, h0, this]
theorem cell_alloc_old {w : World} {o : Obj} {p : Addr} (h : p.block < w.heap.size) : (w.alloc o).cell? p = w.cell? p := World.cell?_of_block (Below.heap_alloc w o p.block h)
theorem addr_add_block (b : Addr) (t : Nat) : (b.add t).block = b.block := by unfold Addr.add; split <;> rfl
theorem slice_none' (a : Option Addr) (n c : Nat) :
    ∃ b d, ∀ w, (Instr.sliceAt 46 (.slice a n c) (some (.int .i64 (n : Int))) none none).run Tryz.prog w = .ok (.slice b 0 d) w := by
  refine ⟨if c = n then a else a.map (·.add (n * 1)), c - n, fun w => ?_⟩
  rw [run_sliceAt_slice w 46 _ _ _ _ elemStr, run_slice_l w 46 _ n c elemStr .i64 (n : Int) (by omega) (by omega), sizeStr]
  simp [Result.andThen, sliced]
theorem src_none (b : Option Addr) (d : Nat) (w : World) {i : TypeInfo} : Src Tryz.prog i.size 46 (.slice b 0 d) 0 [] w := by
  cases b with
  | none => exact Src.ofNil w Tryz.underlying46 d
  | some b =>
    refine ⟨.inl ⟨_, Tryz.underlying46⟩, fun w' => rfl, ?_, ?_, by simp, fun u hu => by cases hu⟩
    · simp [Builtin.firstCells, go_sem, loadCells]
    · simp [Builtin.firstCells, go_sem, loadCells]
theorem less_fact (a b : ByteArray) : Op.bytesLess a.toList b.toList = decide (a.data.toList < b.data.toList) := by
  rw [Lib.toList_data, Lib.toList_data, bytesLess_eq]
set_option maxRecDepth 100000 in
set_option maxHeartbeats 32000000 in
theorem refNames_any (fs : List (ByteArray × ByteArray)) (st : Int) (rs : ByteArray) (fa ba : Option Addr) (fc bn bc : Nat) (w : World) (hin : FieldsIn w.heap.size w fa fs) (hf : FewF fs) :
    Calls Tryz.prog 39 #[.agg #[.int .i64 st, .string rs, .slice fa fs.length fc, .slice ba bn bc]] w (NamesPost (listF varyN fs) w) := by
  obtain ⟨w0, hw0⟩ : ∃ w0, w.alloc (.cells #[.int .i64 st, .string rs, .slice fa fs.length fc, .slice ba bn bc] 27) = w0 := ⟨_, rfl⟩
  have hb0 : Below w.heap.size w w0 := by rw [← hw0]; exact (Below.refl _ _).alloc (Nat.le_refl _) _
  have hc0 : w0.cell? ⟨w.heap.size, 2, none⟩ = some (.slice fa fs.length fc) := by
    rw [← hw0, Lib.cell_of_heap (heap_alloc_new w _)]
    rfl
  have cL := (refList_any fs varyN fa fc fs.length w0 (kin_in (w := w) ⟨w0, hb0⟩ hin) rfl hf.small hf.1 (fun j hj => (hf.2 j hj).2) (by decide)).mono fun _ _ h => row_b h
  unfold RowB at cL
  have hll := list_len hf varyN
  have hsz := list_size hf varyN
  obtain ⟨r, hr⟩ : ∃ r, listF varyN fs = r := ⟨_, rfl⟩
  rw [hr] at cL hll hsz ⊢
  have CL := Lib.hid cL
  have HW0 := Lib.hid hw0
  have HB0 := Lib.hid hb0
  have HSZ := Lib.hid hsz
  obtain ⟨i0, hi, hz0, hz1, hz2⟩ := info_parts strInfo
  clear cL hw0 hb0 hin hf hr hsz
  unfold NamesPost
  go_enter Tryz.func39, Tryz.ntmps39
  go_wp2_with fail
  change Calls _ _ _ (w.alloc (.cells #[.int .i64 st, .string rs, .slice fa fs.length fc, .slice ba bn bc] 27)) _
  rw [HW0.out]
  refine CL.out.mono ?_
  rintro e w1 ⟨a1, c1, rfl, hrow, hb1⟩
  have HROW := Lib.hid hrow
  have HB1 := Lib.hid (HB0.out.trans (hb1.mono HB0.out.size))
  clear hrow hb1 hc0
  go_wp2
  go_loopw [5, 6] (fun v i wr => ∃ (k : Nat) (v0 : Value), k ≤ r.length ∧ i = .int .i64 k ∧ v0 = v ∧ Hid (OwnStrs w1.heap.size wr v0 ((onceL (lowL (r.take k))).map arrB)) ∧ Hid (∀ j (hj : j < r.length), j < k → (r[j].data.toList == [42]) = false) ∧ Hid (Below w1.heap.size w1 wr)) (fun _ i _ => r.length - (intOf i).toNat)
  case atStart => exact ⟨0, _, Nat.zero_le _, rfl, rfl, Lib.hid (World.ownsRow_nil _ _ _ _), Lib.hid (fun _ _ h => absurd h (Nat.not_lt_zero _)), Lib.hid (Below.refl _ _)⟩
  case round =>
    obtain ⟨k, v0, hk, rfl, rfl, HO, HN, HB⟩ := hrel
    by_cases hkl : k < r.length
    · obtain ⟨b, rfl, _, hbl, hc1⟩ := HROW.out k hkl
      have x0 := (HB.out.cell (p := ⟨b, k, none⟩) hbl).trans hc1
      have hz := HSZ.out _ (List.getElem_mem hkl)
      have HTK := Lib.hid (once_snoc r k hkl)
      have HST := Lib.hid (fun h => star_hit hkl h)
      have HNX : Hid ((r[k].data.toList == [42]) = false → ∀ j (hj : j < r.length), j < k + 1 → (r[j].data.toList == [42]) = false) := Lib.hid (fun h j hj hjk => by
        rcases Nat.lt_or_ge j k with h1 | h1
        · exact HN.out j hj h1
        · obtain rfl : j = k := by omega
          exact h)
      obtain ⟨x, hx⟩ : ∃ x, r[k] = x := ⟨_, rfl⟩
      rw [hx] at x0 hz HTK HST HNX
      clear hx hc1 hbl
      have hol : (onceL (lowL (r.take k))).length ≤ 100000000000 := by
        have h1 := once_len (lowL (r.take k))
        have h2 : (lowL (r.take k)).length ≤ k := by unfold lowL; rw [List.length_map, List.length_take]; omega
        omega
      cases hs : x.data.toList == [42] with
      | true =>
        have HS := Lib.hid (HST.out hs)
        have g1 : (x.toList == [42]) = true := by rw [Lib.toList_data]; exact hs
        have HF := Lib.hid (HB1.out.trans (HB.out.mono HB1.out.size))
        clear hs hol
        go_wp2
        go_ret2
        have e : varyL r = [] := by unfold varyL; rw [if_pos HS.out]
        refine ⟨none, 0, ?_, ?_, HF.out⟩
        · rw [HS.out, e]; rfl
        · rw [e]; exact fun j hj => absurd hj (Nat.not_lt_zero _)
      | false =>
        have HNX2 := Lib.hid (HNX.out hs)
        have g1 : (x.toList == [42]) = false := by rw [Lib.toList_data]; exact hs
        have cW := fun w => refLow_any x w (by omega)
        obtain ⟨y, hy⟩ : ∃ y : ByteArray, (⟨(lowF x.data.toList).toArray⟩ : ByteArray) = y := ⟨_, rfl⟩
        have hyd : lowF x.data.toList = y.data.toList := by rw [← hy]
        rw [hyd] at HTK
        have HYA : Hid (arrB y.data.toList = y) := Lib.hid rfl
        simp only [hy] at cW
        have CW := Lib.hid cW
        obtain ⟨O, hO⟩ : ∃ O, onceL (lowL (r.take k)) = O := ⟨_, rfl⟩
        rw [hO] at HO HTK hol
        clear hs hy hyd cW hO
        go_wp2_with fail
        refine (CW.out _).mono ?_
        rintro e w2 ⟨rfl, hb2⟩
        have hO2 : OwnStrs w1.heap.size w2 v0 (O.map arrB) := (Below.spares (F := nowhere) hb2 (fun k hk => .inr hk)).own HO.out (fun _ _ h => h)
        have hbw : Below w1.heap.size w1 w2 := HB.out.trans (hb2.mono HB.out.size)
        obtain ⟨n, hn⟩ : ∃ n, O.length = n := ⟨_, rfl⟩
        have hmn : (O.map arrB).length = n := by rw [List.length_map]; exact hn
        have hform : ∃ ao c, v0 = .slice ao n c ∧ n ≤ c ∧ (ao = none → n = 0 ∧ c = 0) ∧ (∀ b, ao = some b → ∃ g, b = ⟨g, 0, none⟩) ∧ (∀ g, ao = some ⟨g, 0, none⟩ → ∀ j (h : j < O.length), w2.cell? ⟨g, j, none⟩ = some (.string (arrB O[j]))) := by
          rcases hO2.2 with ⟨rfl, h1⟩ | ⟨g, c, cur, rfl, _, hg, hc, _⟩
          · rw [hmn] at h1
            subst h1
            exact ⟨none, 0, rfl, Nat.le_refl _, fun _ => ⟨rfl, rfl⟩, (fun _ h => by cases h), (fun _ h => by cases h)⟩
          · refine ⟨some ⟨g, 0, none⟩, c, by rw [hmn], by rw [← hmn]; exact hc, (fun h => by cases h), (fun b h => by injection h with h; exact ⟨g, h.symm⟩), fun g' h j hj => ?_⟩
            injection h with h
            injection h with h
            subst h
            have hj' : j < (O.map arrB).length := by rw [List.length_map]; exact hj
            have := hO2.cells (g := g) rfl j _ (strCells_at hj')
            have e : (⟨g, 0, none⟩ : Addr).add j = ⟨g, j, none⟩ := by unfold Addr.add; by_cases h0 : j = 0 <;> simp [h0]
            rw [e, List.getElem_map] at this
            exact this
        obtain ⟨ao, c, rfl, hnc, hnone, hsome, hcell⟩ := hform
        have HNONE := Lib.hid hnone
        have HSOME := Lib.hid hsome
        have HCELL := Lib.hid hcell
        have HBW := Lib.hid hbw
        have HO2 := Lib.hid hO2
        have HLN := Lib.hid hn
        have hn1 : n ≤ 100000000000 := by omega
        clear hb2 hO2 hbw hn hmn hnone hsome hcell hol
        go_wp2
        go_loop [8] (fun i => ∃ j : Nat, j ≤ n ∧ i = .int .i64 j ∧ Hid (∀ t (ht : t < O.length), t < j → O[t] < y.data.toList)) (fun i => n - (intOf i).toNat)
        case atStart => exact ⟨0, Nat.zero_le _, rfl, Lib.hid (fun _ _ h => absurd h (Nat.not_lt_zero _))⟩
        case round =>
          obtain ⟨j, hj, rfl, HLT⟩ := hrel
          by_cases hjn : j < n
          · have hjo : j < O.length := by rw [HLN.out]; exact hjn
            obtain ⟨g, rfl⟩ : ∃ g, ao = some ⟨g, 0, none⟩ := by
              cases ao with
              | none => exact absurd (HNONE.out rfl).1 (by omega)
              | some b => obtain ⟨g, rfl⟩ := HSOME.out b rfl; exact ⟨g, rfl⟩
            have x1 := HCELL.out g rfl j hjo
            have HLF := Lib.hid (less_fact (arrB O[j]) y)
            have hzd : (arrB O[j]).data.toList = O[j] := by simp [arrB]
            have d1 : decide (j < n) = true := decide_eq_true hjn
            have d2 : decide ((j : Int) < (n : Int)) = true := by rw [decide_eq_true_iff]; omega
            have d3 : ((j : Int) == (n : Int)) = false := by rw [beq_eq_false_iff_ne]; omega
            obtain ⟨z, hz'⟩ : ∃ z, arrB O[j] = z := ⟨_, rfl⟩
            rw [hz'] at x1 HLF hzd
            have HZD := Lib.hid hzd
            clear hz' hzd
            by_cases hlt : O[j] < y.data.toList
            · have g2 : Op.bytesLess z.toList y.toList = true := by rw [HLF.out, HZD.out]; exact decide_eq_true hlt
              have HLT2 : Hid (∀ t (ht : t < O.length), t < j + 1 → O[t] < y.data.toList) := Lib.hid (fun t ht htj => by
                rcases Nat.lt_or_ge t j with h1 | h1
                · exact HLT.out t ht h1
                · obtain rfl : t = j := by omega
                  exact hlt)
              clear hlt
              go_wp2
              go_round
              case rel => exact ⟨j + 1, by omega, by go_num, HLT2⟩
              case measure => simp [intOf]; omega
            · have g2 : Op.bytesLess z.toList y.toList = false := by rw [HLF.out, HZD.out]; exact decide_eq_false hlt
              by_cases he : O[j] = y.data.toList
              · have g3 : (z.toList == y.toList) = true := by rw [Lib.toList_data, Lib.toList_data, HZD.out, he]; exact beq_self_eq_true _
                have HSAME : Hid (onceL (lowL (r.take (k + 1))) = O) := Lib.hid (by rw [HTK.out]; exact ins_same _ O j hjo HLT.out he)
                clear he hlt
                go_wp2
                go_roundw
                case rel => exact ⟨k + 1, _, by omega, by go_num, rfl, Lib.hid (by rw [HSAME.out]; have := HO2.out; exact this), HNX2, HBW⟩
                case measure => simp [intOf]; omega
              · have g3 : (z.toList == y.toList) = false := by rw [Lib.toList_data, Lib.toList_data, HZD.out]; exact beq_eq_false_iff_ne.2 he
                have HEX : Hid (∀ (hk : j < O.length), ¬ O[j] < y.data.toList ∧ O[j] ≠ y.data.toList) := Lib.hid (fun _ => ⟨hlt, he⟩)
                clear he hlt
                go_wp2
                clear g2 g3 d1 d2 d3 x1
                have HNEW : Hid (onceL (lowL (r.take (k + 1))) = O.take j ++ y.data.toList :: O.drop j) := Lib.hid (by rw [HTK.out]; exact ins_new _ O j (by rw [HLN.out]; omega) HLT.out HEX.out)
                have HF57 : Hid (∀ w, (Instr.sliceAt 46 (.slice (some (⟨g, 0, none⟩ : Addr)) n c) none (some (.int .i64 (j : Int))) (some (.int .i64 (j : Int)))).run Tryz.prog w = .ok (.slice (some (⟨g, 0, none⟩ : Addr)) j j) w) := Lib.hid (fun w => by
                  exact slice_upto g n c j w (by omega))
                have HOLD2 : Hid (∀ b, (some (⟨g, 0, none⟩ : Addr)) = some b → ∀ t u, (strCells ((O.take j).map arrB))[t]? = some u → w2.cell? (b.add t) = some u) := Lib.hid (fun b hb t u hu => by
                  obtain ⟨g, rfl⟩ := HSOME.out b hb
                  unfold strCells at hu
                  rw [List.getElem?_map] at hu
                  obtain ⟨q, hq, rfl⟩ := Option.map_eq_some_iff.1 hu
                  obtain ⟨ht, hq⟩ := List.getElem?_eq_some_iff.1 hq
                  have ht2 : t < O.length := by rw [List.length_map, List.length_take] at ht; omega
                  rw [List.getElem_map, List.getElem_take] at hq
                  have e : (⟨g, 0, none⟩ : Addr).add t = ⟨g, t, none⟩ := by unfold Addr.add; by_cases h0 : t = 0 <;> simp [h0]
                  rw [e, HCELL.out g hb t ht2, hq])
                have HBLK : Hid (∀ b, (some (⟨g, 0, none⟩ : Addr)) = some b → b.block < w2.heap.size) := Lib.hid (fun b hb => by
                  obtain ⟨g, rfl⟩ := HSOME.out b hb
                  exact (World.ownsRow.lt HO2.out g (by rw [hb]; rfl)).2)
                have HTL : Hid ((strCells ((O.take j).map arrB)).length = j * 1) := Lib.hid (by unfold strCells; rw [List.length_map, List.length_map, List.length_take, HLN.out]; omega)
                have HNO : Hid ((some (⟨g, 0, none⟩ : Addr)) = none → j = 0 ∧ j = 0) := Lib.hid (fun h => by have := (HNONE.out h).1; omega)
                have HALL : Hid (Below w1.heap.size w1 (w2.alloc (.cells #[.string y] 9))) := Lib.hid (HBW.out.alloc HBW.out.size _)
                have f57 := HF57.out
                have f62 := fun w => slice_from g n c j w hjn hnc
                have HDR : Hid (∀ t u, (strCells ((O.drop j).map arrB))[t]? = some u → (w2.alloc (.cells #[.string y] 9)).cell? ((⟨g, j, none⟩ : Addr).add t) = some u) := Lib.hid (fun t u hu => by
                  unfold strCells at hu
                  rw [List.getElem?_map] at hu
                  obtain ⟨q, hq, rfl⟩ := Option.map_eq_some_iff.1 hu
                  obtain ⟨ht, hq⟩ := List.getElem?_eq_some_iff.1 hq
                  have ht2 : j + t < O.length := by rw [List.length_map, List.length_drop] at ht; omega
                  rw [List.getElem_map, List.getElem_drop] at hq
                  have e : (⟨g, j, none⟩ : Addr).add t = ⟨g, j + t, none⟩ := Addr.add_lit ..
                  rw [e, cell_alloc_old (p := ⟨g, j + t, none⟩) (HBLK.out ⟨g, 0, none⟩ rfl), HCELL.out g rfl (j + t) ht2, hq])
                have HDL : Hid ((strCells ((O.drop j).map arrB)).length = (n - j) * 1) := Lib.hid (by unfold strCells; rw [List.length_map, List.length_map, List.length_drop, HLN.out]; omega)
                have HY1 : Hid (∀ b, some (⟨w2.heap.size, 0, none⟩ : Addr) = some b → ∀ t u, [Value.string y][t]? = some u → (w2.alloc (.cells #[.string y] 9)).cell? (b.add t) = some u) := Lib.hid (fun b hb t u hu => by
                  injection hb with hb
                  subst hb
                  exact new_str w2 y t u hu)
                have HM1 : Hid (1 + (n - j) ≤ maxLen) := Lib.hid (by unfold maxLen; omega)
                have HM2 : Hid ((1 + (n - j)) * 16 ≤ 140737488355328) := Lib.hid (by omega)
                have HM3 : Hid (j + (1 + (n - j)) ≤ maxLen) := Lib.hid (by unfold maxLen; omega)
                have HM4 : Hid ((j + (1 + (n - j))) * 16 ≤ 140737488355328) := Lib.hid (by omega)
                have HFU1 : Hid (1 < 1 + (n - j)) := Lib.hid (by omega)
                have HFU2 : Hid (j < j + (1 + (n - j))) := Lib.hid (by omega)
                have HFIN : Hid (j + (1 + (n - j)) = ((onceL (lowL (r.take (k + 1)))).map arrB).length ∧ strCells ((O.take j).map arrB) ++ ([Value.string y] ++ strCells ((O.drop j).map arrB)) = strCells ((onceL (lowL (r.take (k + 1)))).map arrB)) := Lib.hid (by
                  rw [HNEW.out]
                  refine ⟨by rw [List.length_map, List.length_append, List.length_take, List.length_cons, List.length_drop, HLN.out]; omega, ?_⟩
                  simp [strCells, HYA.out])
                have HL8 : Hid (([Value.string y] ++ strCells ((O.drop j).map arrB)).length = (1 + (n - j)) * 1) := Lib.hid (by rw [List.length_append, HDL.out]; simp)
                have HONE : Hid (∀ u ∈ [Value.string y] ++ strCells ((O.drop j).map arrB), u.oneCell' = true) := Lib.hid (fun u hu => by
                  rcases List.mem_append.1 hu with h | h
                  · obtain rfl : u = .string y := by simpa using h
                    rfl
                  · exact strCells_one _ u h)
                clear hjn f57
                have f57 := HF57.out
                go_region_law
                  (first
                    | (refine step_append_grows (by rfl) (.tmp 59) (.tmp 62) 46 (by rfl) 9 i0 _ 1 16 Tryz.underlying46 hi hz0 hz1 hz2 rfl (by decide) (some ⟨w2.heap.size, 0, none⟩) 1 1 [.string y] (by rfl) (fun e => by cases e) rfl HY1.out ⟨g, j, none⟩ (n - j) (c - j) (strCells ((O.drop j).map arrB)) (by rfl) HDL.out HDR.out (strCells_one _) HFU1.out HM1.out HM2.out ?_
                       intro v8 w8 hr8 hg8
                       obtain ⟨g8, c8, rfl, hge8, _⟩ := hr8.form (by omega)
                       have HR8 := Lib.hid hr8
                       have HG8 := Lib.hid hg8
                       have HC8 : Hid (∀ t u, ([Value.string y] ++ strCells ((O.drop j).map arrB))[t]? = some u → w8.cell? ((⟨g8, 0, none⟩ : Addr).add t) = some u) := Lib.hid (hr8.cells (g := g8) rfl)
                       have HO8 : Hid (∀ b, (some (⟨g, 0, none⟩ : Addr)) = some b → ∀ t u, (strCells ((O.take j).map arrB))[t]? = some u → w8.cell? (b.add t) = some u) := Lib.hid (fun b hb t u hu => by
                         have h1 := HOLD2.out b hb t u hu
                         have h2 := HBLK.out b hb
                         rw [← h1]
                         refine (Spares.cell (F := nowhere) ((((Spares.refl nowhere w2).alloc (.cells #[.string y] 9)).drew).grown hg8 (fun k hk => by cases hk)) ?_ (fun h => h))
                         rw [addr_add_block]; exact h2)
                       clear hr8 hg8 hge8)
                    | (refine step_append_grows (by rfl) (.tmp 57) (.tmp 63) 46 (by rfl) 9 i0 _ 1 16 Tryz.underlying46 hi hz0 hz1 hz2 rfl (by decide) (some (⟨g, 0, none⟩ : Addr)) j j (strCells ((O.take j).map arrB)) (by rfl) HNO.out HTL.out HO8.out ⟨g8, 0, none⟩ (1 + (n - j)) c8 ([.string y] ++ strCells ((O.drop j).map arrB)) (by rfl) HL8.out HC8.out HONE.out HFU2.out HM3.out HM4.out ?_
                       intro v9 w9 hr9 hg9
                       have HR9 := Lib.hid hr9
                       have HG9 := Lib.hid hg9
                       clear hr9 hg9))
                all_goals
                  have hb9 : Below w1.heap.size w1 w9 := (HALL.out.drew.grown HG8.out HALL.out.size (fun g h => by cases h)).grown HG9.out (HALL.out.drew.grown HG8.out HALL.out.size (fun g h => by cases h)).size (fun g h => by cases h)
                  have HB9 := Lib.hid hb9
                  have HW8 : Hid (w1.heap.size ≤ w8.heap.size) := Lib.hid (HALL.out.drew.grown HG8.out HALL.out.size (fun g h => by cases h)).size
                  clear hb9 f57 f62
                  go_wp2
                  go_roundw
                  case rel =>
                    refine ⟨k + 1, _, by omega, by go_num, rfl, Lib.hid ?_, HNX2, HB9⟩
                    have := Joins.ownsRow_le HR9.out HW8.out
                    rw [HFIN.out.1, HFIN.out.2] at this
                    exact this
                  case measure => simp [intOf]; omega
          · have hjn' : j = n := by omega
            have d1 : decide (j < n) = false := decide_eq_false hjn
            have d2 : decide ((j : Int) < (n : Int)) = false := by rw [decide_eq_false_iff_not]; omega
            have d3 : ((j : Int) == (n : Int)) = true := by rw [beq_iff_eq]; omega
            have HEX : Hid (∀ (hk : j < O.length), ¬ O[j] < y.data.toList ∧ O[j] ≠ y.data.toList) := Lib.hid (fun h => absurd h (by rw [HLN.out]; omega))
            have HJN := Lib.hid hjn'
            clear hjn hjn'
            go_wp2
            clear d1 d2 d3
            have hjn := HJN.out
            have HNEW : Hid (onceL (lowL (r.take (k + 1))) = O.take j ++ y.data.toList :: O.drop j) := Lib.hid (by rw [HTK.out]; exact ins_new _ O j (by rw [HLN.out]; omega) HLT.out HEX.out)
            have HF57 : Hid (∀ w, (Instr.sliceAt 46 (.slice ao n c) none (some (.int .i64 (j : Int))) (some (.int .i64 (j : Int)))).run Tryz.prog w = .ok (.slice ao j j) w) := Lib.hid (fun w => by
              cases ao with
              | none =>
                obtain ⟨h1, h2⟩ := HNONE.out rfl
                have h3 : j = 0 := by omega
                subst h3
                rw [run_sliceAt_slice w 46 _ _ _ _ elemStr, run_slice_hm w 46 _ n c elemStr .i64 .i64 ((0 : Nat) : Int) ((0 : Nat) : Int) (by omega) (by omega) (by omega), sizeStr]
                simp [Result.andThen, sliced]
              | some b =>
                obtain ⟨g, rfl⟩ := HSOME.out b rfl
                exact slice_upto g n c j w (by omega))
            have HOLD2 : Hid (∀ b, ao = some b → ∀ t u, (strCells ((O.take j).map arrB))[t]? = some u → w2.cell? (b.add t) = some u) := Lib.hid (fun b hb t u hu => by
              obtain ⟨g, rfl⟩ := HSOME.out b hb
              unfold strCells at hu
              rw [List.getElem?_map] at hu
              obtain ⟨q, hq, rfl⟩ := Option.map_eq_some_iff.1 hu
              obtain ⟨ht, hq⟩ := List.getElem?_eq_some_iff.1 hq
              have ht2 : t < O.length := by rw [List.length_map, List.length_take] at ht; omega
              rw [List.getElem_map, List.getElem_take] at hq
              have e : (⟨g, 0, none⟩ : Addr).add t = ⟨g, t, none⟩ := by unfold Addr.add; by_cases h0 : t = 0 <;> simp [h0]
              rw [e, HCELL.out g hb t ht2, hq])
            have HBLK : Hid (∀ b, ao = some b → b.block < w2.heap.size) := Lib.hid (fun b hb => by
              obtain ⟨g, rfl⟩ := HSOME.out b hb
              exact (World.ownsRow.lt HO2.out g (by rw [hb]; rfl)).2)
            have HTL : Hid ((strCells ((O.take j).map arrB)).length = j * 1) := Lib.hid (by unfold strCells; rw [List.length_map, List.length_map, List.length_take, HLN.out]; omega)
            have HNO : Hid (ao = none → j = 0 ∧ j = 0) := Lib.hid (fun h => by have := (HNONE.out h).1; omega)
            have HALL : Hid (Below w1.heap.size w1 (w2.alloc (.cells #[.string y] 9))) := Lib.hid (HBW.out.alloc HBW.out.size _)
            have f57 := HF57.out
            obtain ⟨bq, dq, hq⟩ : ∃ b d, ∀ w, (Instr.sliceAt 46 (.slice ao n c) (some (.int .i64 (j : Int))) none none).run Tryz.prog w = .ok (.slice b 0 d) w := by
              rw [hjn]
              exact slice_none' ao n c
            have f62 := hq
            have HRUN : Hid (∀ w, (Builtin.append_ #[46, 46] 46 #[.slice (some ⟨w2.heap.size, 0, none⟩) 1 1, .slice bq 0 dq]).run Tryz.prog w = .ok (.slice (some ⟨w2.heap.size, 0, none⟩) 1 1) w) := Lib.hid (fun w => run_append_nothing w 46 46 46 9 i0 Tryz.underlying46 hi (some ⟨w2.heap.size, 0, none⟩) 1 1 (Nat.le_refl _) (.slice bq 0 dq) (src_none bq dq w))
            have HY1 : Hid (∀ t u, [Value.string y][t]? = some u → (w2.alloc (.cells #[.string y] 9)).cell? ((⟨w2.heap.size, 0, none⟩ : Addr).add t) = some u) := Lib.hid (new_str w2 y)
            have HO8 : Hid (∀ b, ao = some b → ∀ t u, (strCells ((O.take j).map arrB))[t]? = some u → (w2.alloc (.cells #[.string y] 9)).cell? (b.add t) = some u) := Lib.hid (fun b hb t u hu => by
              have h1 := HOLD2.out b hb t u hu
              rw [← h1]
              exact cell_alloc_old (by rw [addr_add_block]; exact HBLK.out b hb))
            have HM3 : Hid (j + 1 ≤ maxLen) := Lib.hid (by unfold maxLen; omega)
            have HM4 : Hid ((j + 1) * 16 ≤ 140737488355328) := Lib.hid (by omega)
            have HFIN : Hid (j + 1 = ((onceL (lowL (r.take (k + 1)))).map arrB).length ∧ strCells ((O.take j).map arrB) ++ [Value.string y] = strCells ((onceL (lowL (r.take (k + 1)))).map arrB)) := Lib.hid (by
              have hd : O.drop j = [] := List.drop_of_length_le (by rw [HLN.out]; omega)
              rw [HNEW.out, hd]
              refine ⟨by rw [List.length_map, List.length_append, List.length_take, HLN.out]; simp; omega, ?_⟩
              simp [strCells, HYA.out])
            clear hjn hq
            go_region_law
              (first
                | (refine step_append_run (by rfl) (.tmp 59) (.tmp 62) 46 (by rfl) (.slice (some ⟨w2.heap.size, 0, none⟩) 1 1) (.slice bq 0 dq) (by rfl) (by rfl) (HRUN.out _) ?_)
                | (refine step_append_grows (by rfl) (.tmp 57) (.tmp 63) 46 (by rfl) 9 i0 _ 1 16 Tryz.underlying46 hi hz0 hz1 hz2 rfl (by decide) ao j j (strCells ((O.take j).map arrB)) (by rfl) HNO.out HTL.out HO8.out ⟨w2.heap.size, 0, none⟩ 1 1 [.string y] (by rfl) rfl HY1.out (by simp [Value.oneCell']) (Nat.lt_succ_self j) HM3.out HM4.out ?_
                   intro v9 w9 hr9 hg9
                   have HR9 := Lib.hid hr9
                   have HG9 := Lib.hid hg9
                   clear hr9 hg9))
            all_goals
              have HB9 := Lib.hid (HALL.out.drew.grown HG9.out HALL.out.size (fun g h => by cases h))
              have HW8 := Lib.hid HALL.out.size
              clear f57 f62
              go_wp2
              go_roundw
              case rel =>
                refine ⟨k + 1, _, by omega, by go_num, rfl, Lib.hid ?_, HNX2, HB9⟩
                have := Joins.ownsRow_le HR9.out HW8.out
                rw [HFIN.out.1, HFIN.out.2] at this
                exact this
              case measure => simp [intOf]; omega
    · have HE : Hid (varyL r = (onceL (lowL (r.take k))).map arrB ∧ starP r = false) := Lib.hid (by
        have hstar : starP r = false := star_miss (fun j hj => HN.out j hj (by omega))
        refine ⟨?_, hstar⟩
        unfold varyL
        rw [if_neg (by rw [hstar]; simp), List.take_of_length_le (by omega)])
      have HF := Lib.hid (HB1.out.trans (HB.out.mono HB1.out.size))
      obtain ⟨av, nv, cv, rfl, hnv, hin⟩ := own_in HO.out
      have HIN := Lib.hid hin
      have HNV := Lib.hid hnv
      clear hin hnv
      go_wp2
      go_ret2
      refine ⟨av, cv, ?_, ?_, HF.out⟩
      · rw [HE.out.2, HE.out.1, HNV.out]; rfl
      · rw [HE.out.1]; exact HIN.out
end Go.Proofs.YtgfinhkplijhbaaGreatDoor.VaryS
namespace Go.Proofs.YtgfinhkplijhbaaGreatDoor.VaryS
open CtrlS
open Go.RowKit HeadMath HeadS VaryMath Go.Sort

theorem resp_cells {w : World} {cs : Array Value} {t : TypeId} {v0 v1 v2 v3 : Value} (h : cs = #[v0, v1, v2, v3]) : (w.alloc (.cells cs t)).cell? ⟨w.heap.size, 0, none⟩ = some v0 ∧ (w.alloc (.cells cs t)).cell? ⟨w.heap.size, 1, none⟩ = some v1 ∧ (w.alloc (.cells cs t)).cell? ⟨w.heap.size, 2, none⟩ = some v2 ∧ (w.alloc (.cells cs t)).cell? ⟨w.heap.size, 3, none⟩ = some v3 := by
  subst h
  refine ⟨?_, ?_, ?_, ?_⟩ <;> (rw [Lib.cell_of_heap (heap_alloc_new w _)]; rfl)
end Go.Proofs.YtgfinhkplijhbaaGreatDoor.VaryS
namespace Go.Proofs.YtgfinhkplijhbaaGreatDoor
open Go.RowKit HeadMath HeadS CtrlS VaryS NormS

def hostN : ByteArray := ⟨#[72, 111, 115, 116]⟩
def getB : ByteArray := ⟨#[71, 69, 84]⟩
def lowB (s : ByteArray) : ByteArray := ⟨(lowF s.data.toList).toArray⟩
def hostF (fs : Fls) : ByteArray := (getF hostN fs).getD ⟨#[]⟩
def keyP (fs : Fls) (tg : ByteArray) : List ByteArray := [getB, lowB (hostF fs), tg]
def keyR (fs : Fls) (tg : ByteArray) : List UInt8 := shaF (keyText (keyP fs tg))
def KeyPost (fs : Fls) (tg : ByteArray) (w : World) (e : Ending) (w' : World) : Prop := e = .returned (.agg (bytesV (keyR fs tg))) ∧ Below w.heap.size w w'
def HostPost (fs : Fls) (w : World) (e : Ending) (w' : World) : Prop := ∃ ok, e = .returned (.tuple #[.string (hostF fs), .bool ok]) ∧ Below w.heap.size w w'
theorem host_of {fs : Fls} {w w' : World} {e : Ending} (h : GetPost hostN fs w e w') : HostPost fs w e w' := by
  obtain ⟨hb, ⟨h, rfl⟩ | ⟨v, h, rfl⟩⟩ := h
  · exact ⟨false, by unfold hostF; rw [h]; rfl, hb⟩
  · exact ⟨true, by unfold hostF; rw [h]; rfl, hb⟩
theorem host_size {fs : Fls} (hf : FewF fs) : (hostF fs).size ≤ 1000000 := by
  unfold hostF getF
  cases h : fs.find? (isNamed hostN) with
  | none => exact Nat.zero_le _
  | some f =>
    obtain ⟨j, hj, rfl⟩ := List.getElem_of_mem (List.mem_of_find?_eq_some h)
    exact (hf.2 j hj).2
theorem lowB_size (s : ByteArray) : (lowB s).size = s.size := by
  show (lowF s.data.toList).toArray.size = s.size
  unfold lowF
  rw [List.size_toArray, List.length_map]
  exact HeadS.size_list s
theorem key_len {fs : Fls} (hf : FewF fs) {tg : ByteArray} (ht : tg.size ≤ 1000000) : (keyText (keyP fs tg)).length ≤ 4294967295 := by
  have h1 := host_size hf
  have h2 := lowB_size (hostF fs)
  unfold keyText keyP
  simp only [List.flatMap_cons, List.flatMap_nil, List.length_append, List.length_nil, be4, List.length_cons, HeadS.size_list]
  have h3 : getB.size = 3 := rfl
  omega
theorem keyR_len (fs : Fls) (tg : ByteArray) : (keyR fs tg).length = 32 := by unfold keyR shaF; rw [← outK_all, outK_len 8 (by omega)]
theorem three_at {w : World} {g : Nat} {a b c : ByteArray} (h : w.heap[g]? = some (.cells #[.string a, .string b, .string c] 9 (0, 0))) : StrsAt w (some ⟨g, 0, none⟩) [a, b, c] := by
  intro j hj
  have hj2 : j < 3 := hj
  match j, hj2 with
  | 0, _ => exact ⟨_, 0, rfl, by rw [Lib.cell_of_heap h]; rfl⟩
  | 1, _ => exact ⟨_, 0, rfl, by rw [Lib.cell_of_heap h]; rfl⟩
  | 2, _ => exact ⟨_, 0, rfl, by rw [Lib.cell_of_heap h]; rfl⟩
abbrev zeroK : Obj := .cells (bytesV (List.replicate 32 0)) 41 (0, 0)
theorem key_stored {v : World} {g : Nat} {R : List UInt8} (hR : R.length = 32) (h : v.heap[g]? = some zeroK) : v.there g 0 (bytesV R).size ∧ (v.setCells g 0 (bytesV R).toList).heap[g]? = some (.cells (bytesV R) 41 (0, 0)) := by
  refine ⟨there_of h 0 _ (by rw [bytesV_size, bytesV_size, hR]; simp), ?_⟩
  have := heap_setCells (g := g) (t := 41) (Lib.byteCells R) [] (Lib.byteCells (List.replicate 32 0)) [] v (by rw [List.append_nil]; exact h) (by rw [byteCells_len, byteCells_len, hR]; simp)
  rw [List.append_nil] at this
  exact this
theorem below_set {F : Nat} {w w' : World} (h : Below w.heap.size w w') (hF : w.heap.size ≤ F) (l : List Value) : Below w.heap.size w (w'.setCells F 0 l) := by
  have : ∀ (l : List Value) (o : Nat) (y : World), Below w.heap.size w y → Below w.heap.size w (y.setCells F o l) := by
    intro l
    induction l with
    | nil => intro o y hy; exact hy
    | cons a r ih => intro o y hy; exact ih _ _ (below_cell hy hF _)
  exact this l 0 w' h
theorem cell_setCells_far {g b o : Nat} (l : List Value) : ∀ (k : Nat) (y : World), b ≠ g → (y.setCells g k l).cell? ⟨b, o, none⟩ = y.cell? ⟨b, o, none⟩ := by
  induction l with
  | nil => intro k y _; rfl
  | cons v r ih => intro k y hb; exact (ih (k + 1) _ hb).trans (World.cell?_setCell_far _ _ _ _ (fun h => hb h.symm))
set_option maxRecDepth 100000 in
set_option maxHeartbeats 8000000 in
theorem key_pol (w : World) (m tg : ByteArray) (fs : Fls) (fa : Option Addr) (fc : Nat) (ba : Option Addr) (bn bc : Nat) (hin : FieldsIn w.heap.size w fa fs) (hf : FewF fs) (ht : tg.size ≤ 1000000) :
    Calls Tryz.prog 18 #[.agg #[.string m, .string tg, .slice fa fs.length fc, .slice ba bn bc]] w (KeyPost fs tg w) := by
  obtain ⟨v, hv⟩ : ∃ v, (w.alloc (.cells #[.string m, .string tg, .slice fa fs.length fc, .slice ba bn bc] 25)).alloc (.cells (bytesV (List.replicate 32 0)) 41) = v := ⟨_, rfl⟩
  have hb : Below w.heap.size w v := by rw [← hv]; exact ((Below.refl _ _).alloc (Nat.le_refl _) _).alloc (by simp) _
  have hc := resp_cells (w := w) (t := 25) (cs := #[.string m, .string tg, .slice fa fs.length fc, .slice ba bn bc]) rfl
  have hz1 : (w.alloc (.cells #[.string m, .string tg, .slice fa fs.length fc, .slice ba bn bc] 25)).heap.size = w.heap.size + 1 := by simp
  have kt : v.cell? ⟨w.heap.size, 1, none⟩ = some (.string tg) := by rw [← hv, World.cell?_alloc_lt _ _ _ (by rw [hz1]; exact Nat.lt_succ_self _)]; exact hc.2.1
  have kf : v.cell? ⟨w.heap.size, 2, none⟩ = some (.slice fa fs.length fc) := by rw [← hv, World.cell?_alloc_lt _ _ _ (by rw [hz1]; exact Nat.lt_succ_self _)]; exact hc.2.2.1
  have hq : v.heap[w.heap.size + 1]? = some zeroK := by
    have e := heap_alloc_new (w.alloc (.cells #[.string m, .string tg, .slice fa fs.length fc, .slice ba bn bc] 25)) (.cells (bytesV (List.replicate 32 0)) 41)
    rw [hz1] at e
    rw [← hv]
    exact e
  have hlt := (Array.getElem?_eq_some_iff.1 hq).1
  have CG : Hid (Calls Tryz.prog 28 #[.slice fa fs.length fc, .string hostN] v (HostPost fs v)) := Lib.hid ((get_any fs hostN fa fc v (kin_in (w := w) ⟨v, hb⟩ hin) hf.small (by have := hf.1; omega) (by decide)).mono fun _ _ h => host_of h)
  obtain ⟨H, hH0⟩ : ∃ H, hostF fs = H := ⟨_, rfl⟩
  have hHs : H.size ≤ 1000000 := by rw [← hH0]; exact host_size hf
  have HKL : Hid ((keyText [getB, lowB H, tg]).length ≤ 4294967295) := Lib.hid (by rw [← hH0]; exact key_len hf ht)
  have HR : Hid (shaF (keyText [getB, lowB H, tg]) = keyR fs tg) := Lib.hid (by rw [← hH0]; rfl)
  have HRL := Lib.hid (keyR_len fs tg)
  unfold HostPost at CG
  rw [hH0] at CG
  unfold KeyPost
  obtain ⟨R, hR⟩ : ∃ R, keyR fs tg = R := ⟨_, rfl⟩
  rw [hR] at HR HRL ⊢
  obtain ⟨nf, hnf⟩ : ∃ m, fs.length = m := ⟨_, rfl⟩
  rw [hnf] at CG kf hv ⊢
  have CL : Hid (∀ x : World, Calls Tryz.prog 42 #[.string H] x fun e w' => e = .returned (.string (lowB H)) ∧ Below x.heap.size x w') := Lib.hid (fun x => lower_any H x (by omega))
  have CK : Hid (∀ (x : World) (g : Nat), x.heap[g]? = some (.cells #[.string getB, .string (lowB H), .string tg] 9 (0, 0)) → Calls Tryz.prog 41 #[.slice (some ⟨g, 0, none⟩) 3 3] x fun e w' => e = .returned (.agg (bytesV R)) ∧ Below x.heap.size x w') := Lib.hid (fun x g h => (key_any (some ⟨g, 0, none⟩) 3 3 [getB, lowB H, tg] x (three_at h) rfl (by have := HKL.out; omega) (by decide)).mono fun _ _ ⟨he, hs⟩ => ⟨by rw [he, HR.out], hs.below0⟩)
  have HV := Lib.hid hv
  have HB := Lib.hid hb
  have HQ : Hid (∀ x, Below v.heap.size v x → x.cell? ⟨w.heap.size, 1, none⟩ = some (.string tg) ∧ x.heap[w.heap.size + 1]? = some zeroK) := Lib.hid (fun x hx => ⟨(hx.cell (p := ⟨w.heap.size, 1, none⟩) (by show w.heap.size < v.heap.size; omega)).trans kt, (hx.block _ hlt).trans hq⟩)
  unfold getB at CK
  obtain ⟨lb, hlb⟩ : ∃ lb, lowB H = lb := ⟨_, rfl⟩
  rw [hlb] at CL CK
  unfold hostN at CG
  clear hin hf ht hc hz1 kt hq hlt hH0 hHs HR HKL hR hnf hb hv hlb
  go_enter Tryz.func18, Tryz.ntmps18
  go_upto_region 1 with (fail)
  change Code.wp _ _ _ _ ((w.alloc (.cells #[.string m, .string tg, .slice fa nf fc, .slice ba bn bc] 25)).alloc (.cells (bytesV (List.replicate 32 0)) 41))
  rw [HV.out]
  go_wp2_with fail
  refine CG.out.mono ?_
  rintro e w1 ⟨ok, rfl, hb1⟩
  have HB1 := Lib.hid hb1
  have kt := (HQ.out w1 hb1).1
  clear hb1 CG
  go_wp2_with fail
  refine wp_region_held_drew (S := fun x => x.cell? ⟨w.heap.size, 1, none⟩ = some (.string tg)) (by kernel_rfl) kt (fun hH => ?_)
  refine wpAnyH_takeTo (i := 0) (d := some 11) (v := .string H) rfl rfl (by kernel_rfl) (by kernel_rfl) (by kernel_rfl) (fun _ _ _ h => h) (Or.inl ⟨by rfl, fun x hx => ?_⟩) hH ?_
  · go_simp
  simp only [Act.put, List.setIfInBounds_toArray, List.set_cons_zero, List.set_cons_succ]
  refine wpAnyH_takeTo (i := 2) (d := some 13) (v := .pointer (some ⟨w.heap.size, 1, none⟩)) rfl rfl (by kernel_rfl) (by kernel_rfl) (by kernel_rfl) (fun _ _ _ h => h) (Or.inl ⟨by rfl, fun x hx => ?_⟩) hH ?_
  · go_simp
  simp only [Act.put, List.setIfInBounds_toArray, List.set_cons_zero, List.set_cons_succ]
  refine wpAnyH_takeTo (i := 3) (d := some 14) (v := .string tg) rfl rfl (by kernel_rfl) (by kernel_rfl) (by kernel_rfl) (fun _ _ _ h => h) (Or.inl ⟨by rfl, fun x hx => ?_⟩) hH ?_
  · go_simp
  simp only [Act.put, List.setIfInBounds_toArray, List.set_cons_zero, List.set_cons_succ]
  refine wpAnyH_stepTo (i := 1) (d := some 12) (by kernel_rfl) rfl rfl (by rfl) (fun u x => u = .string lb ∧ Below w1.drew.heap.size w1.drew x) (fun K hK => ?_) ?_
  · go_simp
    go_at_call 42
    refine Calls.mono (CL.out _) ?_
    rintro e x2 ⟨rfl, hb2⟩
    exact hK _ _ ⟨rfl, hb2⟩
  rintro _ x2 ⟨rfl, hb2⟩
  have hb2' : Below v.heap.size v x2 := HB1.out.trans (Below.mono (Below.trans ((Below.refl _ _).drew) hb2) HB1.out.size)
  have HB2 := Lib.hid hb2'
  refine ⟨(HQ.out _ hb2').1, ?_⟩
  clear hH
  have hH := (HQ.out _ hb2').1
  clear hb2 hb2'
  simp only [Act.put, List.setIfInBounds_toArray, List.set_cons_zero, List.set_cons_succ]
  refine wpAnyH_stepTo (i := 4) (d := some 15) (by kernel_rfl) rfl rfl (by rfl) (fun u x => u = .slice (some ⟨x2.heap.size, 0, none⟩) 3 3 ∧ x = x2.alloc (.cells #[.string ⟨#[71, 69, 84]⟩, .string lb, .string tg] 9)) (fun K hK => ?_) ?_
  · go_simp
    exact hK _ _ ⟨rfl, rfl⟩
  rintro _ x3 ⟨rfl, hx3⟩
  have hg3 : x3.heap[x2.heap.size]? = some (.cells #[.string ⟨#[71, 69, 84]⟩, .string lb, .string tg] 9 (0, 0)) := by rw [hx3]; exact heap_alloc_new _ _
  have hb3 : Below v.heap.size v x3 := by rw [hx3]; exact HB2.out.alloc HB2.out.size _
  have HB3 := Lib.hid hb3
  have CK3 := Lib.hid (CK.out x3 _ hg3)
  refine ⟨(HQ.out _ hb3).1, ?_⟩
  clear hH
  have hH := (HQ.out _ hb3).1
  clear hg3 hb3 hx3
  simp only [Act.put, List.setIfInBounds_toArray, List.set_cons_zero, List.set_cons_succ]
  refine wpAnyH_stepTo (i := 5) (d := some 16) (by kernel_rfl) rfl rfl (by rfl) (fun u x => u = .agg (bytesV R) ∧ Below x3.heap.size x3 x) (fun K hK => ?_) ?_
  · go_simp
    go_at_call 41
    refine Calls.mono CK3.out ?_
    rintro e x4 ⟨rfl, hb4⟩
    exact hK _ _ ⟨rfl, hb4⟩
  rintro _ x4 ⟨rfl, hb4⟩
  have hb4' : Below v.heap.size v x4 := HB3.out.trans (hb4.mono HB3.out.size)
  have HT := Lib.hid (key_stored HRL.out (HQ.out _ hb4').2)
  have HB4 := Lib.hid hb4'
  have hS4 := (HQ.out _ hb4').1
  refine ⟨hS4, ?_⟩
  clear hH hb4 hb4'
  simp only [Act.put, List.setIfInBounds_toArray, List.set_cons_zero, List.set_cons_succ]
  have HI2 : Hid ((Tryz.prog.info? 41).map (·.size) = some (bytesV R).size) := Lib.hid (by rw [bytesV_size, HRL.out]; exact infoKey)
  refine wpAnyH_storeTo (i := 6) (by kernel_rfl) rfl rfl (by rfl) 41 (.tmp 2) (.tmp 16) rfl (w.heap.size + 1) 0 (bytesV R) rfl rfl HT.out.1 HI2.out (bytesV_one _) ?_ ?_
  · show (World.setCells _ _ _ _).cell? _ = _
    rw [show ∀ (y : World) l, (y.setCells (w.heap.size + 1) 0 l).cell? ⟨w.heap.size, 1, none⟩ = y.cell? ⟨w.heap.size, 1, none⟩ from fun y l => cell_setCells_far l 0 y (by omega)]
    exact hS4
  refine wpAnyH_done (by kernel_rfl) ?_ _
  go_wp2_with fail
  exact bodyPost_ret (v := .agg (bytesV R)) (results_cell_row rfl _ _ (w.heap.size + 1) 41 (bytesV R) (0, 0) _ rfl HT.out.2 Tryz.underlying41 (by rfl) HI2.out) rfl ⟨rfl, below_set (HB.out.trans (HB4.out.mono HB.out.size)) (by omega) _⟩
set_option maxRecDepth 100000 in
set_option maxHeartbeats 8000000 in
theorem key_ref (w : World) (m tg : ByteArray) (fs : Fls) (fa : Option Addr) (fc : Nat) (ba : Option Addr) (bn bc : Nat) (hin : FieldsIn w.heap.size w fa fs) (hf : FewF fs) (ht : tg.size ≤ 1000000) :
    Calls Tryz.prog 19 #[.agg #[.string m, .string tg, .slice fa fs.length fc, .slice ba bn bc]] w (KeyPost fs tg w) := by
  obtain ⟨v, hv⟩ : ∃ v, (w.alloc (.cells #[.string m, .string tg, .slice fa fs.length fc, .slice ba bn bc] 25)).alloc (.cells (bytesV (List.replicate 32 0)) 41) = v := ⟨_, rfl⟩
  have hb : Below w.heap.size w v := by rw [← hv]; exact ((Below.refl _ _).alloc (Nat.le_refl _) _).alloc (by simp) _
  have hc := resp_cells (w := w) (t := 25) (cs := #[.string m, .string tg, .slice fa fs.length fc, .slice ba bn bc]) rfl
  have hz1 : (w.alloc (.cells #[.string m, .string tg, .slice fa fs.length fc, .slice ba bn bc] 25)).heap.size = w.heap.size + 1 := by simp
  have kt : v.cell? ⟨w.heap.size, 1, none⟩ = some (.string tg) := by rw [← hv, World.cell?_alloc_lt _ _ _ (by rw [hz1]; exact Nat.lt_succ_self _)]; exact hc.2.1
  have kf : v.cell? ⟨w.heap.size, 2, none⟩ = some (.slice fa fs.length fc) := by rw [← hv, World.cell?_alloc_lt _ _ _ (by rw [hz1]; exact Nat.lt_succ_self _)]; exact hc.2.2.1
  have hq : v.heap[w.heap.size + 1]? = some zeroK := by
    have e := heap_alloc_new (w.alloc (.cells #[.string m, .string tg, .slice fa fs.length fc, .slice ba bn bc] 25)) (.cells (bytesV (List.replicate 32 0)) 41)
    rw [hz1] at e
    rw [← hv]
    exact e
  have hlt := (Array.getElem?_eq_some_iff.1 hq).1
  have CG : Hid (Calls Tryz.prog 40 #[.slice fa fs.length fc, .string hostN] v (HostPost fs v)) := Lib.hid ((refGet_any fs hostN fa fc fs.length v (kin_in (w := w) ⟨v, hb⟩ hin) rfl hf.small (by have := hf.1; omega) (by decide)).mono fun _ _ h => host_of h)
  obtain ⟨H, hH0⟩ : ∃ H, hostF fs = H := ⟨_, rfl⟩
  have hHs : H.size ≤ 1000000 := by rw [← hH0]; exact host_size hf
  have HKL : Hid ((keyText [getB, lowB H, tg]).length ≤ 4294967295) := Lib.hid (by rw [← hH0]; exact key_len hf ht)
  have HR : Hid (shaF (keyText [getB, lowB H, tg]) = keyR fs tg) := Lib.hid (by rw [← hH0]; rfl)
  have HRL := Lib.hid (keyR_len fs tg)
  unfold HostPost at CG
  rw [hH0] at CG
  unfold KeyPost
  obtain ⟨R, hR⟩ : ∃ R, keyR fs tg = R := ⟨_, rfl⟩
  rw [hR] at HR HRL ⊢
  obtain ⟨nf, hnf⟩ : ∃ m, fs.length = m := ⟨_, rfl⟩
  rw [hnf] at CG kf hv ⊢
  have CL : Hid (∀ x : World, Calls Tryz.prog 44 #[.string H] x fun e w' => e = .returned (.string (lowB H)) ∧ Below x.heap.size x w') := Lib.hid (fun x => NormS.refLow_any H x (by omega))
  have CK : Hid (∀ (x : World) (g : Nat), x.heap[g]? = some (.cells #[.string getB, .string (lowB H), .string tg] 9 (0, 0)) → Calls Tryz.prog 43 #[.slice (some ⟨g, 0, none⟩) 3 3] x fun e w' => e = .returned (.agg (bytesV R)) ∧ Below x.heap.size x w') := Lib.hid (fun x g h => (refKey_any (some ⟨g, 0, none⟩) 3 3 [getB, lowB H, tg] x (three_at h) rfl (by have := HKL.out; omega) (by decide)).mono fun _ _ ⟨he, hs⟩ => ⟨by rw [he, HR.out], hs.below0⟩)
  have HV := Lib.hid hv
  have HB := Lib.hid hb
  have HQ : Hid (∀ x, Below v.heap.size v x → x.cell? ⟨w.heap.size, 1, none⟩ = some (.string tg) ∧ x.heap[w.heap.size + 1]? = some zeroK) := Lib.hid (fun x hx => ⟨(hx.cell (p := ⟨w.heap.size, 1, none⟩) (by show w.heap.size < v.heap.size; omega)).trans kt, (hx.block _ hlt).trans hq⟩)
  unfold getB at CK
  obtain ⟨lb, hlb⟩ : ∃ lb, lowB H = lb := ⟨_, rfl⟩
  rw [hlb] at CL CK
  unfold hostN at CG
  clear hin hf ht hc hz1 kt hq hlt hH0 hHs HR HKL hR hnf hb hv hlb
  go_enter Tryz.func19, Tryz.ntmps19
  go_upto_region 1 with (fail)
  change Code.wp _ _ _ _ ((w.alloc (.cells #[.string m, .string tg, .slice fa nf fc, .slice ba bn bc] 25)).alloc (.cells (bytesV (List.replicate 32 0)) 41))
  rw [HV.out]
  go_wp2_with fail
  refine CG.out.mono ?_
  rintro e w1 ⟨ok, rfl, hb1⟩
  have HB1 := Lib.hid hb1
  have kt := (HQ.out w1 hb1).1
  clear hb1 CG
  go_wp2_with fail
  refine wp_region_held_drew (S := fun x => x.cell? ⟨w.heap.size, 1, none⟩ = some (.string tg)) (by kernel_rfl) kt (fun hH => ?_)
  refine wpAnyH_takeTo (i := 0) (d := some 11) (v := .string H) rfl rfl (by kernel_rfl) (by kernel_rfl) (by kernel_rfl) (fun _ _ _ h => h) (Or.inl ⟨by rfl, fun x hx => ?_⟩) hH ?_
  · go_simp
  simp only [Act.put, List.setIfInBounds_toArray, List.set_cons_zero, List.set_cons_succ]
  refine wpAnyH_takeTo (i := 2) (d := some 13) (v := .pointer (some ⟨w.heap.size, 1, none⟩)) rfl rfl (by kernel_rfl) (by kernel_rfl) (by kernel_rfl) (fun _ _ _ h => h) (Or.inl ⟨by rfl, fun x hx => ?_⟩) hH ?_
  · go_simp
  simp only [Act.put, List.setIfInBounds_toArray, List.set_cons_zero, List.set_cons_succ]
  refine wpAnyH_takeTo (i := 3) (d := some 14) (v := .string tg) rfl rfl (by kernel_rfl) (by kernel_rfl) (by kernel_rfl) (fun _ _ _ h => h) (Or.inl ⟨by rfl, fun x hx => ?_⟩) hH ?_
  · go_simp
  simp only [Act.put, List.setIfInBounds_toArray, List.set_cons_zero, List.set_cons_succ]
  refine wpAnyH_stepTo (i := 1) (d := some 12) (by kernel_rfl) rfl rfl (by rfl) (fun u x => u = .string lb ∧ Below w1.drew.heap.size w1.drew x) (fun K hK => ?_) ?_
  · go_simp
    go_at_call 44
    refine Calls.mono (CL.out _) ?_
    rintro e x2 ⟨rfl, hb2⟩
    exact hK _ _ ⟨rfl, hb2⟩
  rintro _ x2 ⟨rfl, hb2⟩
  have hb2' : Below v.heap.size v x2 := HB1.out.trans (Below.mono (Below.trans ((Below.refl _ _).drew) hb2) HB1.out.size)
  have HB2 := Lib.hid hb2'
  refine ⟨(HQ.out _ hb2').1, ?_⟩
  clear hH
  have hH := (HQ.out _ hb2').1
  clear hb2 hb2'
  simp only [Act.put, List.setIfInBounds_toArray, List.set_cons_zero, List.set_cons_succ]
  refine wpAnyH_stepTo (i := 4) (d := some 15) (by kernel_rfl) rfl rfl (by rfl) (fun u x => u = .slice (some ⟨x2.heap.size, 0, none⟩) 3 3 ∧ x = x2.alloc (.cells #[.string ⟨#[71, 69, 84]⟩, .string lb, .string tg] 9)) (fun K hK => ?_) ?_
  · go_simp
    exact hK _ _ ⟨rfl, rfl⟩
  rintro _ x3 ⟨rfl, hx3⟩
  have hg3 : x3.heap[x2.heap.size]? = some (.cells #[.string ⟨#[71, 69, 84]⟩, .string lb, .string tg] 9 (0, 0)) := by rw [hx3]; exact heap_alloc_new _ _
  have hb3 : Below v.heap.size v x3 := by rw [hx3]; exact HB2.out.alloc HB2.out.size _
  have HB3 := Lib.hid hb3
  have CK3 := Lib.hid (CK.out x3 _ hg3)
  refine ⟨(HQ.out _ hb3).1, ?_⟩
  clear hH
  have hH := (HQ.out _ hb3).1
  clear hg3 hb3 hx3
  simp only [Act.put, List.setIfInBounds_toArray, List.set_cons_zero, List.set_cons_succ]
  refine wpAnyH_stepTo (i := 5) (d := some 16) (by kernel_rfl) rfl rfl (by rfl) (fun u x => u = .agg (bytesV R) ∧ Below x3.heap.size x3 x) (fun K hK => ?_) ?_
  · go_simp
    go_at_call 43
    refine Calls.mono CK3.out ?_
    rintro e x4 ⟨rfl, hb4⟩
    exact hK _ _ ⟨rfl, hb4⟩
  rintro _ x4 ⟨rfl, hb4⟩
  have hb4' : Below v.heap.size v x4 := HB3.out.trans (hb4.mono HB3.out.size)
  have HT := Lib.hid (key_stored HRL.out (HQ.out _ hb4').2)
  have HB4 := Lib.hid hb4'
  have hS4 := (HQ.out _ hb4').1
  refine ⟨hS4, ?_⟩
  clear hH hb4 hb4'
  simp only [Act.put, List.setIfInBounds_toArray, List.set_cons_zero, List.set_cons_succ]
  have HI2 : Hid ((Tryz.prog.info? 41).map (·.size) = some (bytesV R).size) := Lib.hid (by rw [bytesV_size, HRL.out]; exact infoKey)
  refine wpAnyH_storeTo (i := 6) (by kernel_rfl) rfl rfl (by rfl) 41 (.tmp 2) (.tmp 16) rfl (w.heap.size + 1) 0 (bytesV R) rfl rfl HT.out.1 HI2.out (bytesV_one _) ?_ ?_
  · show (World.setCells _ _ _ _).cell? _ = _
    rw [show ∀ (y : World) l, (y.setCells (w.heap.size + 1) 0 l).cell? ⟨w.heap.size, 1, none⟩ = y.cell? ⟨w.heap.size, 1, none⟩ from fun y l => cell_setCells_far l 0 y (by omega)]
    exact hS4
  refine wpAnyH_done (by kernel_rfl) ?_ _
  go_wp2_with fail
  exact bodyPost_ret (v := .agg (bytesV R)) (results_cell_row rfl _ _ (w.heap.size + 1) 41 (bytesV R) (0, 0) _ rfl HT.out.2 Tryz.underlying41 (by rfl) HI2.out) rfl ⟨rfl, below_set (HB.out.trans (HB4.out.mono HB.out.size)) (by omega) _⟩
end Go.Proofs.YtgfinhkplijhbaaGreatDoor
namespace Go.Proofs.YtgfinhkplijhbaaGreatDoor.VaryS
open CtrlS
open Go.RowKit HeadMath HeadS VaryMath Go.Sort

theorem few_lit {fs : List (ByteArray × ByteArray)} (h : (decide (fs.length ≤ 100000) && fs.all (fun f => decide (f.1.size ≤ 1000000) && decide (f.2.size ≤ 1000000))) = true) : FewF fs := by
  rw [Bool.and_eq_true] at h
  refine ⟨of_decide_eq_true h.1, fun j hj => ?_⟩
  have := List.all_eq_true.1 h.2 _ (List.getElem_mem hj)
  rw [Bool.and_eq_true] at this
  exact ⟨of_decide_eq_true this.1, of_decide_eq_true this.2⟩
theorem two_fields (w : World) (f g : ByteArray × ByteArray) : FieldsIn (w.heap.size + 1) (w.alloc (.cells #[.string f.1, .string f.2, .string g.1, .string g.2] 48)) (some ⟨w.heap.size, 0, none⟩) [f, g] := by
  intro j hj
  have hj2 : j < 2 := hj
  match j, hj2 with
  | 0, _ => exact ⟨_, 0, rfl, by omega, by simp [go_sem], by simp [go_sem]⟩
  | 1, _ => exact ⟨_, 0, rfl, by omega, by simp [go_sem], by simp [go_sem]⟩
end Go.Proofs.YtgfinhkplijhbaaGreatDoor.VaryS
namespace Go.Proofs.YtgfinhkplijhbaaGreatDoor.VaryS
open CtrlS
open Go.RowKit HeadMath HeadS VaryMath Go.Sort

def LightF (fs : List (ByteArray × ByteArray)) (m : Nat) : Prop := fs.length ≤ m ∧ ∀ j (h : j < fs.length), (fs[j]).1.size ≤ 300 ∧ (fs[j]).2.size ≤ 300
/-- Whatever came in as a slice of fields. -/
def WideF (fs : List (ByteArray × ByteArray)) : Prop := fs.length ≤ maxLen ∧ ∀ j (h : j < fs.length), (fs[j]).1.size ≤ maxLen ∧ (fs[j]).2.size ≤ maxLen
theorem lightW_any (fs : List (ByteArray × ByteArray)) (a : Option Addr) (c most : Nat) (w : World) (hat : FieldsIn w.heap.size w a fs) (hw : WideF fs) (hm : most < 1000) :
    Calls Tryz.prog 22 #[.slice a fs.length c, .int .i64 most] w fun e w' => ∃ b : Bool, e = .returned (.bool b) ∧ w = w' ∧ (b = true → LightF fs most) := by
  obtain ⟨h1, h2⟩ := hw
  unfold maxLen at h1 h2
  refine (light_any fs a c fs.length most w hat rfl (by omega) (by omega) h2).mono ?_
  rintro e w' ⟨b, he, hw', hb⟩
  exact ⟨b, he, hw'.symm, fun h => hb h⟩
def LightRPost (fs : List (ByteArray × ByteArray)) (w : World) (e : Ending) (w' : World) : Prop := ∃ b : Bool, e = .returned (.bool b) ∧ Below w.heap.size w w' ∧ (b = true → LightF fs 15)
set_option maxRecDepth 100000 in
set_option maxHeartbeats 4000000 in
theorem lightR_any (fs : List (ByteArray × ByteArray)) (st : Int) (rs : ByteArray) (fa ba : Option Addr) (fc bn bc : Nat) (w : World) (hin : FieldsIn w.heap.size w fa fs) (hw : WideF fs) (hrs : rs.size ≤ maxLen) (hbn : bn ≤ maxLen) :
    Calls Tryz.prog 11 #[.agg #[.int .i64 st, .string rs, .slice fa fs.length fc, .slice ba bn bc]] w (LightRPost fs w) := by
  unfold maxLen at hrs hbn
  obtain ⟨w0, hw0⟩ : ∃ w0, w.alloc (.cells #[.int .i64 st, .string rs, .slice fa fs.length fc, .slice ba bn bc] 27) = w0 := ⟨_, rfl⟩
  have hb0 : Below w.heap.size w w0 := by rw [← hw0]; exact (Below.refl _ _).alloc (Nat.le_refl _) _
  have hcs := resp_cells (w := w) (t := 27) (cs := #[.int .i64 st, .string rs, .slice fa fs.length fc, .slice ba bn bc]) rfl
  obtain ⟨c0, c1, c2, c3⟩ := hcs
  have cL := lightW_any fs fa fc 15 w0 (kin_in (w := w) ⟨w0, hb0⟩ hin) hw (by omega)
  have CL := Lib.hid cL
  have HW0 := Lib.hid hw0
  have HB0 := Lib.hid hb0
  clear cL hb0 hin hw hw0
  by_cases h1 : rs.size ≤ 100
  · have q1 : (rs.size : Int) ≤ 100 := by omega
    go_enter Tryz.func11, Tryz.ntmps11
    go_wp2_with fail
    change Calls _ _ _ (w.alloc (.cells #[.int .i64 st, .string rs, .slice fa fs.length fc, .slice ba bn bc] 27)) _
    rw [HW0.out]
    refine CL.out.mono ?_
    rintro e w1 ⟨b, rfl, rfl, hb⟩
    have HL := Lib.hid hb
    clear hb
    rw [HW0.out] at c0 c1 c2 c3
    cases b with
    | false =>
      go_wp2
      go_ret
      exact ⟨false, rfl, HB0.out, fun h => by cases h⟩
    | true =>
      by_cases h2 : bn ≤ 1000
      · have q2 : (bn : Int) ≤ 1000 := by omega
        go_wp2
        go_ret
        exact ⟨true, by simp, HB0.out, fun _ => HL.out trivial⟩
      · have q2 : ¬ (bn : Int) ≤ 1000 := by omega
        go_wp2
        go_ret
        exact ⟨false, by simp [q2], HB0.out, fun h => by cases h⟩
  · have q1 : ¬ (rs.size : Int) ≤ 100 := by omega
    go_enter Tryz.func11, Tryz.ntmps11
    go_wp2
    go_ret
    exact ⟨false, rfl, by rw [HW0.out]; exact HB0.out, fun h => by cases h⟩
end Go.Proofs.YtgfinhkplijhbaaGreatDoor.VaryS
namespace Go.Proofs.YtgfinhkplijhbaaGreatDoor.VaryS
open CtrlS
open Go.RowKit HeadMath HeadS VaryMath Go.Sort

/-- The same for whoever makes each run of blanks one space, whatever stands behind. -/
def SameB (u v : List UInt8) : Prop := ∀ p x, oneB p (u ++ x) = oneB p (v ++ x)
theorem SameB.refl (u : List UInt8) : SameB u u := fun _ _ => rfl
end Go.Proofs.YtgfinhkplijhbaaGreatDoor.VaryS
namespace Go.Proofs.YtgfinhkplijhbaaGreatDoor.VaryS
open CtrlS
open Go.RowKit HeadMath HeadS VaryMath Go.Sort

/-- A row that is only read. -/
def ReadRow (x : World) (v : Value) (n : Nat) (xs : List Value) : Prop :=
  xs.length = n * 2 ∧ ((v = .slice none 0 0 ∧ n = 0) ∨ ∃ g c, v = .slice (some ⟨g, 0, none⟩) n c ∧ ∀ j u, xs[j]? = some u → x.cell? ((⟨g, 0, none⟩ : Addr).add j) = some u)
theorem read_own {x : World} {B : Nat} {e : TypeId} {v : Value} {n : Nat} {xs : List Value} (h : x.ownsRow B e 2 v n xs) : ReadRow x v n xs := by
  refine ⟨h.1, ?_⟩
  rcases h.2 with h0 | ⟨g, cap, cur, rfl, hr⟩
  · exact .inl h0
  · exact .inr ⟨g, cap, rfl, fun j u hj => h.cells rfl j u hj⟩
theorem add_at (g k : Nat) : (⟨g, 0, none⟩ : Addr).add k = ⟨g, k, none⟩ := by
  rcases Nat.eq_zero_or_pos k with rfl | h
  · rfl
  · simp [Addr.add, Nat.ne_of_gt h]
theorem read_fields {x : World} {v : Value} {n : Nat} {l : List (ByteArray × ByteArray)} (h : ReadRow x v n (fieldCells l)) (hn : n = l.length) : ∃ a c, v = .slice a n c ∧ FieldsIn x.heap.size x a l := by
  rcases h.2 with ⟨rfl, h0⟩ | ⟨g, c, rfl, hc⟩
  · subst h0
    exact ⟨none, 0, rfl, fun j hj => absurd hj (by omega)⟩
  · refine ⟨_, c, rfl, fun j hj => ?_⟩
    have h1 := fieldCells_at l j hj
    have c1 := hc _ _ h1.1
    have c2 := hc _ _ h1.2
    rw [add_at] at c1 c2
    exact ⟨g, 0, rfl, cell_lt c1, by rw [Nat.zero_add]; exact c1, by rw [Nat.zero_add]; exact c2⟩
theorem read_new (w : World) (n x : ByteArray) : ReadRow (w.alloc (.cells #[.string n, .string x] 48)) (.slice (some ⟨w.heap.size, 0, none⟩) 1 1) 1 [.string n, .string x] := ⟨rfl, .inr ⟨_, _, rfl, field_new w n x⟩⟩
theorem below_al {v x : World} (h : Below v.heap.size v x) (o : Obj) : Below v.heap.size v (x.alloc o) := h.alloc h.size o
theorem grown_below {x y : World} (h : x.grownBy y none) : Below x.heap.size x y := (Below.refl _ _).grown h (Nat.le_refl _) (fun _ e => by cases e)
set_option maxHeartbeats 4000000 in
/-- Behind append(v, u...). -/
theorem step_copy {ops : Array Oper} {o : Oper} {a : Act} {x : World} {K : Act → World → Prop} {Q : Exit → Act → World → Prop} {E : Prop} (hw : Region.wanted o (yielded ops a.tmps) = true) (s u : Operand)
    (ho : o.op = .call { callee := .builtin .append, args := #[s, u], argTypes := #[22, 22] }) (B : Nat) (v vb : Value) (hs : a.eval s = v) (hu : a.eval u = vb)
    (n m : Nat) (xs news : List Value) (hown : x.ownsRow B 48 2 v n xs) (hrd : ReadRow x vb m news) (h1 : ∀ y ∈ news, y.oneCell' = true) (hnm : n + m ≤ 1000) (hB : B ≤ x.heap.size) (k : Nat) (ys : List Value) (hk : n + m = k) (hys : xs ++ news = ys)
    (h : ∀ v' w', Hid (w'.ownsRow B 48 2 v' k ys) → x.grownBy w' v.ownBlock → K (a.put o.dst v') w') : if Region.wanted o (yielded ops a.tmps) = true then Oper.wp Tryz.prog o a x K Q else E := by
  subst hk
  subst hys
  rw [if_pos hw]
  obtain ⟨i1, fi, fz0, fz1, fz2⟩ := infoField
  rcases hrd.2 with ⟨rfl, rfl⟩ | ⟨g, c, rfl, hc⟩
  · have hr := run_append_owned_none (P := Tryz.prog) (w := x) B 22 o.type 48 i1 2 Tryz.underlying22 fi v n xs hown
    have hz : news = [] := List.eq_nil_of_length_eq_zero (by have := hrd.1; omega)
    subst hz
    refine Lib.wp_append_run_sl x s u 22 ho v _ hs hu hr (h v x (Lib.hid ?_) ?_)
    · rw [List.append_nil]; exact hown
    · exact ⟨rfl, rfl, rfl, Nat.le_refl _, fun _ _ _ => rfl⟩
  · obtain ⟨v', w', hr, h2, h3, _, _⟩ := run_append_own_at (P := Tryz.prog) (w := x) B 22 o.type 48 i1 _ 2 32 Tryz.underlying22 fi fz0 fz1 fz2 rfl (by decide) v n xs hown ⟨g, 0, none⟩ m c news hrd.1 hc h1 (by unfold maxLen; omega) (by omega) hB
    exact Lib.wp_append_run_sl x s u 22 ho v _ hs hu hr (h v' w' (Lib.hid h2) h3)
/-- Only at an append. -/
theorem step_gate {ops : Array Oper} {o : Oper} {a : Act} {x : World} {K : Act → World → Prop} {Q : Exit → Act → World → Prop} {E : Prop} {s u : Operand}
    (_ : o.op = .call { callee := .builtin .append, args := #[s, u], argTypes := #[22, 22] }) (h : if Region.wanted o (yielded ops a.tmps) = true then Oper.wp Tryz.prog o a x K Q else E) : if Region.wanted o (yielded ops a.tmps) = true then Oper.wp Tryz.prog o a x K Q else E := h
theorem cells_one (l : List (ByteArray × ByteArray)) : ∀ y ∈ fieldCells l, y.oneCell' = true := by
  intro y hy
  obtain ⟨f, _, hf⟩ := List.mem_flatMap.1 hy
  rcases List.mem_cons.1 hf with rfl | hf
  · rfl
  · obtain rfl : y = .string f.2 := by simpa using hf
    rfl
theorem few_mem {l : List (ByteArray × ByteArray)} (hl : l.length ≤ 100000) (h : ∀ f ∈ l, f.1.size ≤ 1000000 ∧ f.2.size ≤ 1000000) : FewF l := ⟨hl, fun _ hj => h _ (List.getElem_mem hj)⟩
end Go.Proofs.YtgfinhkplijhbaaGreatDoor.VaryS
namespace Go.Proofs.YtgfinhkplijhbaaGreatDoor.VaryS
open CtrlS
open Go.ChangeShapes Go.WideShapes Go.ChangeAt Go.RowKit

section
variable {H : Type} {W : World} {enc : TypeId × Value → H}
set_option maxRecDepth 100000 in
theorem slice_lenV {t e : TypeId} {v : Value} {y : DataW H × List MemPlace} {fuel : Nat} (ht : Tryz.prog.underlying t = some (.slice e)) (hf : DataW.trod enc Tryz.prog W 0 (fun _ => true) true fuel t [v] = some y) :
    ∃ a n c, v = .slice a n c ∧ n ≤ 9223372036854775807 := by
  rcases Deep.open_slice ht hf with ⟨hcs, _⟩ | ⟨x, len', cap', m, n, D, Pl, hcs, _, h1, h2, _⟩
  · injection hcs with hcs; exact ⟨_, _, _, hcs, Nat.zero_le _⟩
  · injection hcs with hcs; exact ⟨_, _, _, hcs, Nat.le_trans h1 h2⟩
theorem fieldsAt_inV {w : World} {a : Option Addr} {fs : List (ByteArray × ByteArray)} (h : FieldsAt w a fs) : HeadS.FieldsIn w.heap.size w a fs := by
  intro j hj
  obtain ⟨b, off, h1, h2, h3⟩ := h j hj
  exact ⟨b, off, h1, cell_lt h2, h2, h3⟩
set_option maxRecDepth 100000 in
theorem response_open {v : Value} {d : DataW H} {p : List MemPlace} {r : Reach} {b0 : Nat} (hv : Value.okWide Tryz.prog W r b0 27 v) (h : DataW.Trod enc Tryz.prog W 0 (fun _ => true) true 27 v d p) :
    ∃ (st : Int) (rs : ByteArray) (fa : Option Addr) (fc : Nat) (fs : List (ByteArray × ByteArray)) (ba : Option Addr) (bn bc : Nat), v = .agg #[.int .i64 st, .string rs, .slice fa fs.length fc, .slice ba bn bc] ∧ HeadS.FieldsIn W.heap.size W fa fs ∧
      WideF fs ∧ rs.size ≤ maxLen ∧ bn ≤ maxLen := by
  obtain ⟨v0, v1, v2, v3, y0, y1, y2, y3, n, rfl, _, _, t0, t1, t2, t3⟩ := Joins.open_agg4 Tryz.underlying27 (by kernel_rfl) (by kernel_rfl) hv h
  obtain ⟨z0, e0, _, w0⟩ := DataW.trod_int Tryz.underlying3 t0
  obtain ⟨z1, e1, _, w1⟩ := DataW.trod_string Tryz.underlying9 t1
  obtain ⟨fs, fa, fc, rfl, hat, hl, _, _, hsz⟩ := fields_of_trod t2
  obtain ⟨ba, bn, bc, rfl, hb⟩ := slice_lenV Tryz.underlying23 t3
  injection e0 with e0; injection e1 with e1
  subst e0; subst e1
  have hmax : maxLen = 9223372036854775807 := rfl
  rw [← hmax] at hb
  exact ⟨z0, z1, fa, fc, fs, ba, bn, bc, rfl, fieldsAt_inV hat, ⟨hl, hsz⟩, w1, hb⟩
theorem fieldsV_open {d : DataW H} {p : List MemPlace} {fuel : Nat} {a : Option Addr} {len cap : Nat}
    (hf : DataW.trod enc Tryz.prog W 0 (fun _ => true) true fuel 22 (Value.slice a len cap).cells.toList = some (d, p)) :
    ∃ fs : List (ByteArray × ByteArray), fs.length = len ∧ HeadS.FieldsIn W.heap.size W a fs ∧ WideF fs := by
  obtain ⟨fs, h1, h2, h3, _, _, h4⟩ := fields_open hf
  exact ⟨fs, h1, fieldsAt_inV h2, by rw [h1]; exact h3, h4⟩
end
end Go.Proofs.YtgfinhkplijhbaaGreatDoor.VaryS
namespace Go.Proofs.YtgfinhkplijhbaaGreatDoor.VaryS
open CtrlS
open Go.RowKit Go.ChangeAt

theorem u8_open {x : Int} (h : (Lit.int .u8 x).wf = true) : ∃ t : Nat, x = (t : Int) ∧ t < 256 := by
  have hb : 0 ≤ x ∧ x ≤ 255 := by simpa [Lit.wf, IntKind.wrap, IntKind.bits, IntKind.signed] using bounds_u8 (by simpa [Lit.wf, IntKind.wrap, IntKind.bits, IntKind.signed] using h)
  exact ⟨x.toNat, by omega, by omega⟩
end Go.Proofs.YtgfinhkplijhbaaGreatDoor.VaryS
