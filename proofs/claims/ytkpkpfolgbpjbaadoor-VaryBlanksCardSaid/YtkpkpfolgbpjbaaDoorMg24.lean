/-
  The names that Vary has, in the reference: put in one by one.
  What Match and Keep say, of names.
  vary.Match, and the reference's.
  vary.Keep.
  The reference's Match.
  The reference's Keep.
  The law's own example.
  ambryhelp.LightR, and what the laws of vary share.
  VaryNames' walk.
  A response that came in by value, opened; slices of fields.
  What is kept of a request matches as the request does.
  VaryMatches' walk.
  VaryStar's walk.
  VaryStar's arguments.
  Blanks put in ahead of blanks say nothing; a value more does.
  Two rows of fields beside one another, of whatever names.
  A row read, a row copied and made longer, in a drawn region; Match at the worlds behind.
  VaryBlanks' walk.
-/
import Derived.Deep.RegionLawGrows
import Derived.Deep.AppendSrc
import Derived.Deep.Upon
import Derived.Lib.SlFresh
import Derived.OpenShut
import Derived.ProofKit
import Derived.Lib.SmallJoins
import Derived.Deep.RegionHeld3
import Derived.Laws.OwnMore
import Derived.Test.YtkpkpfolgbpjbaaDoorMg8
import Derived.Test.YtkpkpfolgbpjbaaDoorMg9
import Derived.Test.YtkpkpfolgbpjbaaDoorMg18
import Derived.Test.YtkpkpfolgbpjbaaDoorMg19
import Derived.Test.YtkpkpfolgbpjbaaDoorMg23
import Derived.Test.YtkpkpfolgbpjbaaDoorMg25
import Derived.Test.YtkpkpfolgbpjbaaDoorMg27
import Derived.Test.YtkpkpfolgbpjbaaDoorMg28
namespace Go.Proofs.YtkpkpfolgbpjbaaDoor
open Go.RowKit HeadMath HeadS VaryMath Go.Sort

theorem ins_same (n : Bs) : ∀ (out : List Bs) (k : Nat) (hk : k < out.length), (∀ j (hj : j < out.length), j < k → out[j] < n) → out[k] = n → insL n out = out
  | [], k, hk, _, _ => absurd hk (Nat.not_lt_zero _)
  | x :: r, 0, _, _, he => by
    have he' : x = n := he
    subst he'
    unfold insL
    rw [if_neg (List.lt_irrefl x), if_pos rfl]
  | x :: r, k + 1, hk, h, he => by
    have h0 : x < n := h 0 (by simp) (by omega)
    unfold insL
    rw [if_pos h0, ins_same n r k (by simpa using hk) (fun j hj hjk => h (j + 1) (by simpa using hj) (by omega)) he]
theorem ins_new (n : Bs) : ∀ (out : List Bs) (k : Nat), k ≤ out.length → (∀ j (hj : j < out.length), j < k → out[j] < n) → (∀ (hk : k < out.length), ¬ out[k] < n ∧ out[k] ≠ n) → insL n out = out.take k ++ n :: out.drop k
  | [], k, _, _, _ => by simp [insL]
  | x :: r, 0, _, _, he => by
    obtain ⟨h1, h2⟩ := he (by simp)
    have h1' : ¬ x < n := h1
    have h2' : x ≠ n := h2
    unfold insL
    rw [if_neg h1', if_neg h2']
    rfl
  | x :: r, k + 1, hk, h, he => by
    have h0 : x < n := h 0 (by simp) (by omega)
    unfold insL
    rw [if_pos h0, ins_new n r k (by simpa using hk) (fun j hj hjk => h (j + 1) (by simpa using hj) (by omega)) (fun hk => he (by simpa using hk))]
    rfl
theorem once_snoc (l : List ByteArray) (k : Nat) (h : k < l.length) : onceL (lowL (l.take (k + 1))) = insL (lowF l[k].data.toList) (onceL (lowL (l.take k))) := by
  unfold onceL lowL
  rw [List.take_succ_eq_append_getElem h, List.map_append, List.foldl_append]
  rfl
theorem step_append_run {P : Program} {ops : Array Oper} {o : Oper} {a : Act} {w : World} {K : Act → World → Prop} {Q : Exit → Act → World → Prop} {E : Prop} (hgd : o.guard = none) (s x : Operand) (t : TypeId)
    (ho : o.op = .call { callee := .builtin .append, args := #[s, x], argTypes := #[t, t] }) (v u : Value) (hs : a.eval s = v) (hx : a.eval x = u) {v' : Value} {w' : World}
    (hr : (Builtin.append_ #[t, t] o.type #[v, u]).run P w = .ok v' w') (h : K (a.put o.dst v') w') : if Region.wanted o (yielded ops a.tmps) = true then Oper.wp P o a w K Q else E := by
  have hw : Region.wanted o (yielded ops a.tmps) = true := by simp [Region.wanted, hgd]
  rw [if_pos hw]
  exact Lib.wp_append_run_sl w s x t ho v u hs hx hr h
theorem elemStr : Tryd.prog.underlying 33 = some (.slice (Tryd.prog.elem 33)) := by kernel_rfl
theorem sizeStr (w : World) : (sizeOf (Tryd.prog.elem 33)).run Tryd.prog w = .ok 1 w := by kernel_rfl
/-- out[:p:p] -/
theorem slice_upto (g n c p : Nat) (w : World) (h : p ≤ c) :
    (Instr.sliceAt 33 (.slice (some ⟨g, 0, none⟩) n c) none (some (.int .i64 (p : Int))) (some (.int .i64 (p : Int)))).run Tryd.prog w = .ok (.slice (some ⟨g, 0, none⟩) p p) w := by
  rw [run_sliceAt_slice w 33 _ _ _ _ elemStr, run_slice_hm w 33 _ n c elemStr .i64 .i64 (p : Int) (p : Int) (by omega) (by omega) (by omega), sizeStr]
  simp [Result.andThen, sliced, Addr.add]
/-- out[p:], where something is left. -/
theorem slice_from (g n c p : Nat) (w : World) (h : p < n) (h2 : n ≤ c) :
    (Instr.sliceAt 33 (.slice (some ⟨g, 0, none⟩) n c) (some (.int .i64 (p : Int))) none none).run Tryd.prog w = .ok (.slice (some ⟨g, p, none⟩) (n - p) (c - p)) w := by
  rw [run_sliceAt_slice w 33 _ _ _ _ elemStr, run_slice_l w 33 _ n c elemStr .i64 (p : Int) (by omega) (by omega), sizeStr]
  have : ¬ c = p := by omega
  by_cases h0 : p = 0
  · simp [Result.andThen, sliced, Addr.add, h0]
  · simp [Result.andThen, sliced, Addr.add, h0, this]
/-- out[p:], where nothing is left. -/
theorem slice_none (a : Option Addr) (n c : Nat) (w : World) :
    ∃ b d, (Instr.sliceAt 33 (.slice a n c) (some (.int .i64 (n : Int))) none none).run Tryd.prog w = .ok (.slice b 0 d) w := by
  rw [run_sliceAt_slice w 33 _ _ _ _ elemStr, run_slice_l w 33 _ n c elemStr .i64 (n : Int) (by omega) (by omega), sizeStr]
  exact ⟨_, c - n, by simp [Result.andThen, sliced]; rfl⟩
theorem cell_alloc_old {w : World} {o : Obj} {p : Addr} (h : p.block < w.heap.size) : (w.alloc o).cell? p = w.cell? p := World.cell?_of_block (Below.heap_alloc w o p.block h)
theorem addr_add_block (b : Addr) (t : Nat) : (b.add t).block = b.block := by unfold Addr.add; split <;> rfl
theorem slice_none' (a : Option Addr) (n c : Nat) :
    ∃ b d, ∀ w, (Instr.sliceAt 33 (.slice a n c) (some (.int .i64 (n : Int))) none none).run Tryd.prog w = .ok (.slice b 0 d) w := by
  refine ⟨if c = n then a else a.map (·.add (n * 1)), c - n, fun w => ?_⟩
  rw [run_sliceAt_slice w 33 _ _ _ _ elemStr, run_slice_l w 33 _ n c elemStr .i64 (n : Int) (by omega) (by omega), sizeStr]
  simp [Result.andThen, sliced]
theorem src_none (b : Option Addr) (d : Nat) (w : World) {i : TypeInfo} : Src Tryd.prog i.size 33 (.slice b 0 d) 0 [] w := by
  cases b with
  | none => exact Src.ofNil w Tryd.underlying33 d
  | some b =>
    refine ⟨.inl ⟨_, Tryd.underlying33⟩, fun w' => rfl, ?_, ?_, by simp, fun u hu => by cases hu⟩
    · simp [Builtin.firstCells, go_sem, loadCells]
    · simp [Builtin.firstCells, go_sem, loadCells]
theorem once_nil : onceL (lowL (([] : List ByteArray).take 0)) = [] := rfl
theorem less_fact (a b : ByteArray) : Op.bytesLess a.toList b.toList = decide (a.data.toList < b.data.toList) := by
  rw [Lib.toList_data, Lib.toList_data, bytesLess_eq]
set_option maxRecDepth 100000 in
set_option maxHeartbeats 32000000 in
theorem refNames_any (fs : List (ByteArray × ByteArray)) (st : Int) (rs : ByteArray) (fa ba : Option Addr) (fc bn bc : Nat) (w : World) (hin : FieldsIn w.heap.size w fa fs) (hf : FewF fs) :
    Calls Tryd.prog 22 #[.agg #[.int .i64 st, .string rs, .slice fa fs.length fc, .slice ba bn bc]] w (NamesPost (listF varyN fs) w) := by
  obtain ⟨w0, hw0⟩ : ∃ w0, w.alloc (.cells #[.int .i64 st, .string rs, .slice fa fs.length fc, .slice ba bn bc] 43) = w0 := ⟨_, rfl⟩
  have hb0 : Below w.heap.size w w0 := by rw [← hw0]; exact (Below.refl _ _).alloc (Nat.le_refl _) _
  have hc0 : w0.cell? ⟨w.heap.size, 2, none⟩ = some (.slice fa fs.length fc) := by
    rw [← hw0, Lib.cell_of_heap (heap_alloc_new w _)]
    rfl
  have cL := (refList_any fs varyN fa fc fs.length w0 (kin_in (w := w) ⟨w0, hb0⟩ hin) rfl hf.small hf.1 (fun j hj => (hf.2 j hj).2) (by decide)).mono fun _ _ h => row_b h
  unfold RowB at cL
  have hll := list_len hf varyN
  have hsz := list_size hf varyN
  obtain ⟨r, hr⟩ : ∃ r, listF varyN fs = r := ⟨_, rfl⟩
  rw [hr] at cL hll hsz ⊢
  have CL := Lib.hid cL
  have HW0 := Lib.hid hw0
  have HB0 := Lib.hid hb0
  have HSZ := Lib.hid hsz
  obtain ⟨i0, hi, hz0, hz1, hz2⟩ := info_parts strInfo
  clear cL hw0 hb0 hin hf hr hsz
  unfold NamesPost
  go_enter Tryd.func22, Tryd.ntmps22
  go_wp2_with fail
  change Calls _ _ _ (w.alloc (.cells #[.int .i64 st, .string rs, .slice fa fs.length fc, .slice ba bn bc] 43)) _
  rw [HW0.out]
  refine CL.out.mono ?_
  rintro e w1 ⟨a1, c1, rfl, hrow, hb1⟩
  have HROW := Lib.hid hrow
  have HB1 := Lib.hid (HB0.out.trans (hb1.mono HB0.out.size))
  clear hrow hb1 hc0
  go_wp2
  go_loopw [5, 6] (fun v i wr => ∃ (k : Nat) (v0 : Value), k ≤ r.length ∧ i = .int .i64 k ∧ v0 = v ∧ Hid (OwnStrs w1.heap.size wr v0 ((onceL (lowL (r.take k))).map arrB)) ∧ Hid (∀ j (hj : j < r.length), j < k → (r[j].data.toList == [42]) = false) ∧ Hid (Below w1.heap.size w1 wr)) (fun _ i _ => r.length - (intOf i).toNat)
  case atStart => exact ⟨0, _, Nat.zero_le _, rfl, rfl, Lib.hid (World.ownsRow_nil _ _ _ _), Lib.hid (fun _ _ h => absurd h (Nat.not_lt_zero _)), Lib.hid (Below.refl _ _)⟩
  case round =>
    obtain ⟨k, v0, hk, rfl, rfl, HO, HN, HB⟩ := hrel
    by_cases hkl : k < r.length
    · obtain ⟨b, rfl, _, hbl, hc1⟩ := HROW.out k hkl
      have x0 := (HB.out.cell (p := ⟨b, k, none⟩) hbl).trans hc1
      have hz := HSZ.out _ (List.getElem_mem hkl)
      have HTK := Lib.hid (once_snoc r k hkl)
      have HST := Lib.hid (fun h => star_hit hkl h)
      have HNX : Hid ((r[k].data.toList == [42]) = false → ∀ j (hj : j < r.length), j < k + 1 → (r[j].data.toList == [42]) = false) := Lib.hid (fun h j hj hjk => by
        rcases Nat.lt_or_ge j k with h1 | h1
        · exact HN.out j hj h1
        · obtain rfl : j = k := by omega
          exact h)
      obtain ⟨x, hx⟩ : ∃ x, r[k] = x := ⟨_, rfl⟩
      rw [hx] at x0 hz HTK HST HNX
      clear hx hc1 hbl
      have hol : (onceL (lowL (r.take k))).length ≤ 100000000000 := by
        have h1 := once_len (lowL (r.take k))
        have h2 : (lowL (r.take k)).length ≤ k := by unfold lowL; rw [List.length_map, List.length_take]; omega
        omega
      cases hs : x.data.toList == [42] with
      | true =>
        have HS := Lib.hid (HST.out hs)
        have g1 : (x.toList == [42]) = true := by rw [Lib.toList_data]; exact hs
        have HF := Lib.hid (HB1.out.trans (HB.out.mono HB1.out.size))
        clear hs hol
        go_wp2
        go_ret2
        have e : varyL r = [] := by unfold varyL; rw [if_pos HS.out]
        refine ⟨none, 0, ?_, ?_, HF.out⟩
        · rw [HS.out, e]; rfl
        · rw [e]; exact fun j hj => absurd hj (Nat.not_lt_zero _)
      | false =>
        have HNX2 := Lib.hid (HNX.out hs)
        have g1 : (x.toList == [42]) = false := by rw [Lib.toList_data]; exact hs
        have cW := fun w => refLow_any x w (by omega)
        obtain ⟨y, hy⟩ : ∃ y : ByteArray, (⟨(lowF x.data.toList).toArray⟩ : ByteArray) = y := ⟨_, rfl⟩
        have hyd : lowF x.data.toList = y.data.toList := by rw [← hy]
        rw [hyd] at HTK
        have HYA : Hid (arrB y.data.toList = y) := Lib.hid rfl
        simp only [hy] at cW
        have CW := Lib.hid cW
        obtain ⟨O, hO⟩ : ∃ O, onceL (lowL (r.take k)) = O := ⟨_, rfl⟩
        rw [hO] at HO HTK hol
        clear hs hy hyd cW hO
        go_wp2_with fail
        refine (CW.out _).mono ?_
        rintro e w2 ⟨rfl, hb2⟩
        have hO2 : OwnStrs w1.heap.size w2 v0 (O.map arrB) := (Below.spares (F := nowhere) hb2 (fun k hk => .inr hk)).own HO.out (fun _ _ h => h)
        have hbw : Below w1.heap.size w1 w2 := HB.out.trans (hb2.mono HB.out.size)
        obtain ⟨n, hn⟩ : ∃ n, O.length = n := ⟨_, rfl⟩
        have hmn : (O.map arrB).length = n := by rw [List.length_map]; exact hn
        have hform : ∃ ao c, v0 = .slice ao n c ∧ n ≤ c ∧ (ao = none → n = 0 ∧ c = 0) ∧ (∀ b, ao = some b → ∃ g, b = ⟨g, 0, none⟩) ∧ (∀ g, ao = some ⟨g, 0, none⟩ → ∀ j (h : j < O.length), w2.cell? ⟨g, j, none⟩ = some (.string (arrB O[j]))) := by
          rcases hO2.2 with ⟨rfl, h1⟩ | ⟨g, c, cur, rfl, _, hg, hc, _⟩
          · rw [hmn] at h1
            subst h1
            exact ⟨none, 0, rfl, Nat.le_refl _, fun _ => ⟨rfl, rfl⟩, (fun _ h => by cases h), (fun _ h => by cases h)⟩
          · refine ⟨some ⟨g, 0, none⟩, c, by rw [hmn], by rw [← hmn]; exact hc, (fun h => by cases h), (fun b h => by injection h with h; exact ⟨g, h.symm⟩), fun g' h j hj => ?_⟩
            injection h with h
            injection h with h
            subst h
            have hj' : j < (O.map arrB).length := by rw [List.length_map]; exact hj
            have := hO2.cells (g := g) rfl j _ (strCells_at hj')
            have e : (⟨g, 0, none⟩ : Addr).add j = ⟨g, j, none⟩ := by unfold Addr.add; by_cases h0 : j = 0 <;> simp [h0]
            rw [e, List.getElem_map] at this
            exact this
        obtain ⟨ao, c, rfl, hnc, hnone, hsome, hcell⟩ := hform
        have HNONE := Lib.hid hnone
        have HSOME := Lib.hid hsome
        have HCELL := Lib.hid hcell
        have HBW := Lib.hid hbw
        have HO2 := Lib.hid hO2
        have HLN := Lib.hid hn
        have hn1 : n ≤ 100000000000 := by omega
        clear hb2 hO2 hbw hn hmn hnone hsome hcell hol
        go_wp2
        go_loop [8] (fun i => ∃ j : Nat, j ≤ n ∧ i = .int .i64 j ∧ Hid (∀ t (ht : t < O.length), t < j → O[t] < y.data.toList)) (fun i => n - (intOf i).toNat)
        case atStart => exact ⟨0, Nat.zero_le _, rfl, Lib.hid (fun _ _ h => absurd h (Nat.not_lt_zero _))⟩
        case round =>
          obtain ⟨j, hj, rfl, HLT⟩ := hrel
          by_cases hjn : j < n
          · have hjo : j < O.length := by rw [HLN.out]; exact hjn
            obtain ⟨g, rfl⟩ : ∃ g, ao = some ⟨g, 0, none⟩ := by
              cases ao with
              | none => exact absurd (HNONE.out rfl).1 (by omega)
              | some b => obtain ⟨g, rfl⟩ := HSOME.out b rfl; exact ⟨g, rfl⟩
            have x1 := HCELL.out g rfl j hjo
            have HLF := Lib.hid (less_fact (arrB O[j]) y)
            have hzd : (arrB O[j]).data.toList = O[j] := by simp [arrB]
            have d1 : decide (j < n) = true := decide_eq_true hjn
            have d2 : decide ((j : Int) < (n : Int)) = true := by rw [decide_eq_true_iff]; omega
            have d3 : ((j : Int) == (n : Int)) = false := by rw [beq_eq_false_iff_ne]; omega
            obtain ⟨z, hz'⟩ : ∃ z, arrB O[j] = z := ⟨_, rfl⟩
            rw [hz'] at x1 HLF hzd
            have HZD := Lib.hid hzd
            clear hz' hzd
            by_cases hlt : O[j] < y.data.toList
            · have g2 : Op.bytesLess z.toList y.toList = true := by rw [HLF.out, HZD.out]; exact decide_eq_true hlt
              have HLT2 : Hid (∀ t (ht : t < O.length), t < j + 1 → O[t] < y.data.toList) := Lib.hid (fun t ht htj => by
                rcases Nat.lt_or_ge t j with h1 | h1
                · exact HLT.out t ht h1
                · obtain rfl : t = j := by omega
                  exact hlt)
              clear hlt
              go_wp2
              go_round
              case rel => exact ⟨j + 1, by omega, by go_num, HLT2⟩
              case measure => simp [intOf]; omega
            · have g2 : Op.bytesLess z.toList y.toList = false := by rw [HLF.out, HZD.out]; exact decide_eq_false hlt
              by_cases he : O[j] = y.data.toList
              · have g3 : (z.toList == y.toList) = true := by rw [Lib.toList_data, Lib.toList_data, HZD.out, he]; exact beq_self_eq_true _
                have HSAME : Hid (onceL (lowL (r.take (k + 1))) = O) := Lib.hid (by rw [HTK.out]; exact ins_same _ O j hjo HLT.out he)
                clear he hlt
                go_wp2
                go_roundw
                case rel => exact ⟨k + 1, _, by omega, by go_num, rfl, Lib.hid (by rw [HSAME.out]; have := HO2.out; exact this), HNX2, HBW⟩
                case measure => simp [intOf]; omega
              · have g3 : (z.toList == y.toList) = false := by rw [Lib.toList_data, Lib.toList_data, HZD.out]; exact beq_eq_false_iff_ne.2 he
                have HEX : Hid (∀ (hk : j < O.length), ¬ O[j] < y.data.toList ∧ O[j] ≠ y.data.toList) := Lib.hid (fun _ => ⟨hlt, he⟩)
                clear he hlt
                go_wp2
                clear g2 g3 d1 d2 d3 x1
                have HNEW : Hid (onceL (lowL (r.take (k + 1))) = O.take j ++ y.data.toList :: O.drop j) := Lib.hid (by rw [HTK.out]; exact ins_new _ O j (by rw [HLN.out]; omega) HLT.out HEX.out)
                have HF57 : Hid (∀ w, (Instr.sliceAt 33 (.slice (some (⟨g, 0, none⟩ : Addr)) n c) none (some (.int .i64 (j : Int))) (some (.int .i64 (j : Int)))).run Tryd.prog w = .ok (.slice (some (⟨g, 0, none⟩ : Addr)) j j) w) := Lib.hid (fun w => by
                  exact slice_upto g n c j w (by omega))
                have HOLD2 : Hid (∀ b, (some (⟨g, 0, none⟩ : Addr)) = some b → ∀ t u, (strCells ((O.take j).map arrB))[t]? = some u → w2.cell? (b.add t) = some u) := Lib.hid (fun b hb t u hu => by
                  obtain ⟨g, rfl⟩ := HSOME.out b hb
                  unfold strCells at hu
                  rw [List.getElem?_map] at hu
                  obtain ⟨q, hq, rfl⟩ := Option.map_eq_some_iff.1 hu
                  obtain ⟨ht, hq⟩ := List.getElem?_eq_some_iff.1 hq
                  have ht2 : t < O.length := by rw [List.length_map, List.length_take] at ht; omega
                  rw [List.getElem_map, List.getElem_take] at hq
                  have e : (⟨g, 0, none⟩ : Addr).add t = ⟨g, t, none⟩ := by unfold Addr.add; by_cases h0 : t = 0 <;> simp [h0]
                  rw [e, HCELL.out g hb t ht2, hq])
                have HBLK : Hid (∀ b, (some (⟨g, 0, none⟩ : Addr)) = some b → b.block < w2.heap.size) := Lib.hid (fun b hb => by
                  obtain ⟨g, rfl⟩ := HSOME.out b hb
                  exact (World.ownsRow.lt HO2.out g (by rw [hb]; rfl)).2)
                have HTL : Hid ((strCells ((O.take j).map arrB)).length = j * 1) := Lib.hid (by unfold strCells; rw [List.length_map, List.length_map, List.length_take, HLN.out]; omega)
                have HNO : Hid ((some (⟨g, 0, none⟩ : Addr)) = none → j = 0 ∧ j = 0) := Lib.hid (fun h => by have := (HNONE.out h).1; omega)
                have HALL : Hid (Below w1.heap.size w1 (w2.alloc (.cells #[.string y] 9))) := Lib.hid (HBW.out.alloc HBW.out.size _)
                have f57 := HF57.out
                have f62 := fun w => slice_from g n c j w hjn hnc
                have HDR : Hid (∀ t u, (strCells ((O.drop j).map arrB))[t]? = some u → (w2.alloc (.cells #[.string y] 9)).cell? ((⟨g, j, none⟩ : Addr).add t) = some u) := Lib.hid (fun t u hu => by
                  unfold strCells at hu
                  rw [List.getElem?_map] at hu
                  obtain ⟨q, hq, rfl⟩ := Option.map_eq_some_iff.1 hu
                  obtain ⟨ht, hq⟩ := List.getElem?_eq_some_iff.1 hq
                  have ht2 : j + t < O.length := by rw [List.length_map, List.length_drop] at ht; omega
                  rw [List.getElem_map, List.getElem_drop] at hq
                  have e : (⟨g, j, none⟩ : Addr).add t = ⟨g, j + t, none⟩ := Addr.add_lit ..
                  rw [e, cell_alloc_old (p := ⟨g, j + t, none⟩) (HBLK.out ⟨g, 0, none⟩ rfl), HCELL.out g rfl (j + t) ht2, hq])
                have HDL : Hid ((strCells ((O.drop j).map arrB)).length = (n - j) * 1) := Lib.hid (by unfold strCells; rw [List.length_map, List.length_map, List.length_drop, HLN.out]; omega)
                have HY1 : Hid (∀ b, some (⟨w2.heap.size, 0, none⟩ : Addr) = some b → ∀ t u, [Value.string y][t]? = some u → (w2.alloc (.cells #[.string y] 9)).cell? (b.add t) = some u) := Lib.hid (fun b hb t u hu => by
                  injection hb with hb
                  subst hb
                  exact new_str w2 y t u hu)
                have HM1 : Hid (1 + (n - j) ≤ maxLen) := Lib.hid (by unfold maxLen; omega)
                have HM2 : Hid ((1 + (n - j)) * 16 ≤ 140737488355328) := Lib.hid (by omega)
                have HM3 : Hid (j + (1 + (n - j)) ≤ maxLen) := Lib.hid (by unfold maxLen; omega)
                have HM4 : Hid ((j + (1 + (n - j))) * 16 ≤ 140737488355328) := Lib.hid (by omega)
                have HFU1 : Hid (1 < 1 + (n - j)) := Lib.hid (by omega)
                have HFU2 : Hid (j < j + (1 + (n - j))) := Lib.hid (by omega)
                have HFIN : Hid (j + (1 + (n - j)) = ((onceL (lowL (r.take (k + 1)))).map arrB).length ∧ strCells ((O.take j).map arrB) ++ ([Value.string y] ++ strCells ((O.drop j).map arrB)) = strCells ((onceL (lowL (r.take (k + 1)))).map arrB)) := Lib.hid (by
                  rw [HNEW.out]
                  refine ⟨by rw [List.length_map, List.length_append, List.length_take, List.length_cons, List.length_drop, HLN.out]; omega, ?_⟩
                  simp [strCells, HYA.out])
                have HL8 : Hid (([Value.string y] ++ strCells ((O.drop j).map arrB)).length = (1 + (n - j)) * 1) := Lib.hid (by rw [List.length_append, HDL.out]; simp)
                have HONE : Hid (∀ u ∈ [Value.string y] ++ strCells ((O.drop j).map arrB), u.oneCell' = true) := Lib.hid (fun u hu => by
                  rcases List.mem_append.1 hu with h | h
                  · obtain rfl : u = .string y := by simpa using h
                    rfl
                  · exact strCells_one _ u h)
                clear hjn f57
                have f57 := HF57.out
                go_region_law
                  (first
                    | (refine step_append_grows (by rfl) (.tmp 59) (.tmp 62) 33 (by rfl) 9 i0 _ 1 16 Tryd.underlying33 hi hz0 hz1 hz2 rfl (by decide) (some ⟨w2.heap.size, 0, none⟩) 1 1 [.string y] (by rfl) (fun e => by cases e) rfl HY1.out ⟨g, j, none⟩ (n - j) (c - j) (strCells ((O.drop j).map arrB)) (by rfl) HDL.out HDR.out (strCells_one _) HFU1.out HM1.out HM2.out ?_
                       intro v8 w8 hr8 hg8
                       obtain ⟨g8, c8, rfl, hge8, _⟩ := hr8.form (by omega)
                       have HR8 := Lib.hid hr8
                       have HG8 := Lib.hid hg8
                       have HC8 : Hid (∀ t u, ([Value.string y] ++ strCells ((O.drop j).map arrB))[t]? = some u → w8.cell? ((⟨g8, 0, none⟩ : Addr).add t) = some u) := Lib.hid (hr8.cells (g := g8) rfl)
                       have HO8 : Hid (∀ b, (some (⟨g, 0, none⟩ : Addr)) = some b → ∀ t u, (strCells ((O.take j).map arrB))[t]? = some u → w8.cell? (b.add t) = some u) := Lib.hid (fun b hb t u hu => by
                         have h1 := HOLD2.out b hb t u hu
                         have h2 := HBLK.out b hb
                         rw [← h1]
                         refine (Spares.cell (F := nowhere) ((((Spares.refl nowhere w2).alloc (.cells #[.string y] 9)).drew).grown hg8 (fun k hk => by cases hk)) ?_ (fun h => h))
                         rw [addr_add_block]; exact h2)
                       clear hr8 hg8 hge8)
                    | (refine step_append_grows (by rfl) (.tmp 57) (.tmp 63) 33 (by rfl) 9 i0 _ 1 16 Tryd.underlying33 hi hz0 hz1 hz2 rfl (by decide) (some (⟨g, 0, none⟩ : Addr)) j j (strCells ((O.take j).map arrB)) (by rfl) HNO.out HTL.out HO8.out ⟨g8, 0, none⟩ (1 + (n - j)) c8 ([.string y] ++ strCells ((O.drop j).map arrB)) (by rfl) HL8.out HC8.out HONE.out HFU2.out HM3.out HM4.out ?_
                       intro v9 w9 hr9 hg9
                       have HR9 := Lib.hid hr9
                       have HG9 := Lib.hid hg9
                       clear hr9 hg9))
                all_goals
                  have hb9 : Below w1.heap.size w1 w9 := (HALL.out.drew.grown HG8.out HALL.out.size (fun g h => by cases h)).grown HG9.out (HALL.out.drew.grown HG8.out HALL.out.size (fun g h => by cases h)).size (fun g h => by cases h)
                  have HB9 := Lib.hid hb9
                  have HW8 : Hid (w1.heap.size ≤ w8.heap.size) := Lib.hid (HALL.out.drew.grown HG8.out HALL.out.size (fun g h => by cases h)).size
                  clear hb9 f57 f62
                  go_wp2
                  go_roundw
                  case rel =>
                    refine ⟨k + 1, _, by omega, by go_num, rfl, Lib.hid ?_, HNX2, HB9⟩
                    have := Joins.ownsRow_le HR9.out HW8.out
                    rw [HFIN.out.1, HFIN.out.2] at this
                    exact this
                  case measure => simp [intOf]; omega
          · have hjn' : j = n := by omega
            have d1 : decide (j < n) = false := decide_eq_false hjn
            have d2 : decide ((j : Int) < (n : Int)) = false := by rw [decide_eq_false_iff_not]; omega
            have d3 : ((j : Int) == (n : Int)) = true := by rw [beq_iff_eq]; omega
            have HEX : Hid (∀ (hk : j < O.length), ¬ O[j] < y.data.toList ∧ O[j] ≠ y.data.toList) := Lib.hid (fun h => absurd h (by rw [HLN.out]; omega))
            have HJN := Lib.hid hjn'
            clear hjn hjn'
            go_wp2
            clear d1 d2 d3
            have hjn := HJN.out
            have HNEW : Hid (onceL (lowL (r.take (k + 1))) = O.take j ++ y.data.toList :: O.drop j) := Lib.hid (by rw [HTK.out]; exact ins_new _ O j (by rw [HLN.out]; omega) HLT.out HEX.out)
            have HF57 : Hid (∀ w, (Instr.sliceAt 33 (.slice ao n c) none (some (.int .i64 (j : Int))) (some (.int .i64 (j : Int)))).run Tryd.prog w = .ok (.slice ao j j) w) := Lib.hid (fun w => by
              cases ao with
              | none =>
                obtain ⟨h1, h2⟩ := HNONE.out rfl
                have h3 : j = 0 := by omega
                subst h3
                rw [run_sliceAt_slice w 33 _ _ _ _ elemStr, run_slice_hm w 33 _ n c elemStr .i64 .i64 ((0 : Nat) : Int) ((0 : Nat) : Int) (by omega) (by omega) (by omega), sizeStr]
                simp [Result.andThen, sliced]
              | some b =>
                obtain ⟨g, rfl⟩ := HSOME.out b rfl
                exact slice_upto g n c j w (by omega))
            have HOLD2 : Hid (∀ b, ao = some b → ∀ t u, (strCells ((O.take j).map arrB))[t]? = some u → w2.cell? (b.add t) = some u) := Lib.hid (fun b hb t u hu => by
              obtain ⟨g, rfl⟩ := HSOME.out b hb
              unfold strCells at hu
              rw [List.getElem?_map] at hu
              obtain ⟨q, hq, rfl⟩ := Option.map_eq_some_iff.1 hu
              obtain ⟨ht, hq⟩ := List.getElem?_eq_some_iff.1 hq
              have ht2 : t < O.length := by rw [List.length_map, List.length_take] at ht; omega
              rw [List.getElem_map, List.getElem_take] at hq
              have e : (⟨g, 0, none⟩ : Addr).add t = ⟨g, t, none⟩ := by unfold Addr.add; by_cases h0 : t = 0 <;> simp [h0]
              rw [e, HCELL.out g hb t ht2, hq])
            have HBLK : Hid (∀ b, ao = some b → b.block < w2.heap.size) := Lib.hid (fun b hb => by
              obtain ⟨g, rfl⟩ := HSOME.out b hb
              exact (World.ownsRow.lt HO2.out g (by rw [hb]; rfl)).2)
            have HTL : Hid ((strCells ((O.take j).map arrB)).length = j * 1) := Lib.hid (by unfold strCells; rw [List.length_map, List.length_map, List.length_take, HLN.out]; omega)
            have HNO : Hid (ao = none → j = 0 ∧ j = 0) := Lib.hid (fun h => by have := (HNONE.out h).1; omega)
            have HALL : Hid (Below w1.heap.size w1 (w2.alloc (.cells #[.string y] 9))) := Lib.hid (HBW.out.alloc HBW.out.size _)
            have f57 := HF57.out
            obtain ⟨bq, dq, hq⟩ : ∃ b d, ∀ w, (Instr.sliceAt 33 (.slice ao n c) (some (.int .i64 (j : Int))) none none).run Tryd.prog w = .ok (.slice b 0 d) w := by
              rw [hjn]
              exact slice_none' ao n c
            have f62 := hq
            have HRUN : Hid (∀ w, (Builtin.append_ #[33, 33] 33 #[.slice (some ⟨w2.heap.size, 0, none⟩) 1 1, .slice bq 0 dq]).run Tryd.prog w = .ok (.slice (some ⟨w2.heap.size, 0, none⟩) 1 1) w) := Lib.hid (fun w => run_append_nothing w 33 33 33 9 i0 Tryd.underlying33 hi (some ⟨w2.heap.size, 0, none⟩) 1 1 (Nat.le_refl _) (.slice bq 0 dq) (src_none bq dq w))
            have HY1 : Hid (∀ t u, [Value.string y][t]? = some u → (w2.alloc (.cells #[.string y] 9)).cell? ((⟨w2.heap.size, 0, none⟩ : Addr).add t) = some u) := Lib.hid (new_str w2 y)
            have HO8 : Hid (∀ b, ao = some b → ∀ t u, (strCells ((O.take j).map arrB))[t]? = some u → (w2.alloc (.cells #[.string y] 9)).cell? (b.add t) = some u) := Lib.hid (fun b hb t u hu => by
              have h1 := HOLD2.out b hb t u hu
              rw [← h1]
              exact cell_alloc_old (by rw [addr_add_block]; exact HBLK.out b hb))
            have HM3 : Hid (j + 1 ≤ maxLen) := Lib.hid (by unfold maxLen; omega)
            have HM4 : Hid ((j + 1) * 16 ≤ 140737488355328) := Lib.hid (by omega)
            have HFIN : Hid (j + 1 = ((onceL (lowL (r.take (k + 1)))).map arrB).length ∧ strCells ((O.take j).map arrB) ++ [Value.string y] = strCells ((onceL (lowL (r.take (k + 1)))).map arrB)) := Lib.hid (by
              have hd : O.drop j = [] := List.drop_of_length_le (by rw [HLN.out]; omega)
              rw [HNEW.out, hd]
              refine ⟨by rw [List.length_map, List.length_append, List.length_take, HLN.out]; simp; omega, ?_⟩
              simp [strCells, HYA.out])
            clear hjn hq
            go_region_law
              (first
                | (refine step_append_run (by rfl) (.tmp 59) (.tmp 62) 33 (by rfl) (.slice (some ⟨w2.heap.size, 0, none⟩) 1 1) (.slice bq 0 dq) (by rfl) (by rfl) (HRUN.out _) ?_)
                | (refine step_append_grows (by rfl) (.tmp 57) (.tmp 63) 33 (by rfl) 9 i0 _ 1 16 Tryd.underlying33 hi hz0 hz1 hz2 rfl (by decide) ao j j (strCells ((O.take j).map arrB)) (by rfl) HNO.out HTL.out HO8.out ⟨w2.heap.size, 0, none⟩ 1 1 [.string y] (by rfl) rfl HY1.out (by simp [Value.oneCell']) (Nat.lt_succ_self j) HM3.out HM4.out ?_
                   intro v9 w9 hr9 hg9
                   have HR9 := Lib.hid hr9
                   have HG9 := Lib.hid hg9
                   clear hr9 hg9))
            all_goals
              have HB9 := Lib.hid (HALL.out.drew.grown HG9.out HALL.out.size (fun g h => by cases h))
              have HW8 := Lib.hid HALL.out.size
              clear f57 f62
              go_wp2
              go_roundw
              case rel =>
                refine ⟨k + 1, _, by omega, by go_num, rfl, Lib.hid ?_, HNX2, HB9⟩
                have := Joins.ownsRow_le HR9.out HW8.out
                rw [HFIN.out.1, HFIN.out.2] at this
                exact this
              case measure => simp [intOf]; omega
    · have HE : Hid (varyL r = (onceL (lowL (r.take k))).map arrB ∧ starP r = false) := Lib.hid (by
        have hstar : starP r = false := star_miss (fun j hj => HN.out j hj (by omega))
        refine ⟨?_, hstar⟩
        unfold varyL
        rw [if_neg (by rw [hstar]; simp), List.take_of_length_le (by omega)])
      have HF := Lib.hid (HB1.out.trans (HB.out.mono HB1.out.size))
      obtain ⟨av, nv, cv, rfl, hnv, hin⟩ := own_in HO.out
      have HIN := Lib.hid hin
      have HNV := Lib.hid hnv
      clear hin hnv
      go_wp2
      go_ret2
      refine ⟨av, cv, ?_, ?_, HF.out⟩
      · rw [HE.out.2, HE.out.1, HNV.out]; rfl
      · rw [HE.out.1]; exact HIN.out
end Go.Proofs.YtkpkpfolgbpjbaaDoor
namespace Go.Proofs.YtkpkpfolgbpjbaaDoor
open Go.RowKit HeadMath HeadS VaryMath Go.Sort

def sameN (A B : List (ByteArray × ByteArray)) (n : ByteArray) : Bool := (normF n A == normF n B) && (hasF n A == hasF n B)
def matchF (r : List ByteArray) (A B : List (ByteArray × ByteArray)) : Bool := !starP r && (varyL r).all (sameN A B)
def keepL (A : List (ByteArray × ByteArray)) (l : List ByteArray) : List (ByteArray × ByteArray) := (l.filter fun n => hasF n A).map fun n => (n, arrB (normF n A))
def keepF (r : List ByteArray) (A : List (ByteArray × ByteArray)) : List (ByteArray × ByteArray) := keepL A (varyL r)
theorem names_size {r : List ByteArray} (h : ∀ p ∈ r, p.size ≤ 1000000) : ∀ x ∈ varyL r, x.size ≤ 1000000 := by
  intro x hx
  unfold varyL at hx
  split at hx
  · cases hx
  · obtain ⟨b, hb, rfl⟩ := List.mem_map.1 hx
    have hb2 := (once_mem _ _).1 hb
    unfold lowL at hb2
    obtain ⟨p, hp, rfl⟩ := List.mem_map.1 hb2
    have h1 := h p hp
    have h2 : (arrB (lowF p.data.toList)).size = p.size := by
      show (lowF p.data.toList).toArray.size = p.size
      unfold lowF
      rw [List.size_toArray, List.length_map]
      exact size_list p
    omega
theorem match_yes {N : List ByteArray} {A B : List (ByteArray × ByteArray)} (h : ∀ j (hj : j < N.length), sameN A B N[j] = true) : N.all (sameN A B) = true := by
  rw [List.all_eq_true]
  intro x hx
  obtain ⟨j, hj, rfl⟩ := List.getElem_of_mem hx
  exact h j hj
theorem match_no {N : List ByteArray} {A B : List (ByteArray × ByteArray)} {k : Nat} (hk : k < N.length) (h : sameN A B N[k] = false) : N.all (sameN A B) = false := by
  rw [List.all_eq_false]
  exact ⟨N[k], List.getElem_mem hk, by rw [h]; simp⟩
theorem keep_snoc (A : List (ByteArray × ByteArray)) (N : List ByteArray) (k : Nat) (h : k < N.length) : keepL A (N.take (k + 1)) = keepL A (N.take k) ++ (if hasF N[k] A then [(N[k], arrB (normF N[k] A))] else []) := by
  unfold keepL
  rw [List.take_succ_eq_append_getElem h, List.filter_append, List.map_append]
  congr 1
  cases hh : hasF N[k] A <;> simp [hh]
theorem keep_len (A : List (ByteArray × ByteArray)) (l : List ByteArray) : (keepL A l).length ≤ l.length := by
  unfold keepL
  rw [List.length_map]
  exact List.length_filter_le _ _
theorem resp_cells {w : World} {cs : Array Value} {t : TypeId} {v0 v1 v2 v3 : Value} (h : cs = #[v0, v1, v2, v3]) : (w.alloc (.cells cs t)).cell? ⟨w.heap.size, 0, none⟩ = some v0 ∧ (w.alloc (.cells cs t)).cell? ⟨w.heap.size, 1, none⟩ = some v1 ∧ (w.alloc (.cells cs t)).cell? ⟨w.heap.size, 2, none⟩ = some v2 ∧ (w.alloc (.cells cs t)).cell? ⟨w.heap.size, 3, none⟩ = some v3 := by
  subst h
  refine ⟨?_, ?_, ?_, ?_⟩ <;> (rw [Lib.cell_of_heap (heap_alloc_new w _)]; rfl)
def KeepPost (r : List ByteArray) (A : List (ByteArray × ByteArray)) (w : World) (e : Ending) (w' : World) : Prop :=
  ∃ a c, e = .returned (.slice a (keepF r A).length c) ∧ FieldsIn w'.heap.size w' a (keepF r A) ∧ Below w.heap.size w w'
end Go.Proofs.YtkpkpfolgbpjbaaDoor
namespace Go.Proofs.YtkpkpfolgbpjbaaDoor
open Go.RowKit HeadMath HeadS VaryMath Go.Sort

set_option maxRecDepth 100000 in
set_option maxHeartbeats 16000000 in
theorem match_any (fs A B : List (ByteArray × ByteArray)) (st : Int) (rs : ByteArray) (fa ba aA aB : Option Addr) (fc bn bc cA cB : Nat) (w : World) (hin : FieldsIn w.heap.size w fa fs) (hA : FieldsIn w.heap.size w aA A) (hB : FieldsIn w.heap.size w aB B) (hf : FewF fs) (hfA : FewF A) (hfB : FewF B) :
    Calls Tryd.prog 27 #[.agg #[.int .i64 st, .string rs, .slice fa fs.length fc, .slice ba bn bc], .slice aA A.length cA, .slice aB B.length cB] w fun e w' => e = .returned (.bool (matchF (listF varyN fs) A B)) ∧ Below w.heap.size w w' := by
  obtain ⟨w0, hw0⟩ : ∃ w0, w.alloc (.cells #[.int .i64 st, .string rs, .slice fa fs.length fc, .slice ba bn bc] 43) = w0 := ⟨_, rfl⟩
  have hb0 : Below w.heap.size w w0 := by rw [← hw0]; exact (Below.refl _ _).alloc (Nat.le_refl _) _
  obtain ⟨c0, c1, c2, c3⟩ := (by have h := resp_cells (w := w) (t := 43) (cs := #[.int .i64 st, .string rs, .slice fa fs.length fc, .slice ba bn bc]) rfl; rw [hw0] at h; exact h : w0.cell? ⟨w.heap.size, 0, none⟩ = some (.int .i64 st) ∧ w0.cell? ⟨w.heap.size, 1, none⟩ = some (.string rs) ∧ w0.cell? ⟨w.heap.size, 2, none⟩ = some (.slice fa fs.length fc) ∧ w0.cell? ⟨w.heap.size, 3, none⟩ = some (.slice ba bn bc))
  have cN := names_any fs st rs fa ba fc bn bc w0 (kin_in (w := w) ⟨w0, hb0⟩ hin) hf
  unfold NamesPost at cN
  have HFA : Hid (∀ x, Below w.heap.size w x → FieldsIn x.heap.size x aA A) := Lib.hid (fun x hx => kin_in (w := w) ⟨x, hx⟩ hA)
  have HFB : Hid (∀ x, Below w.heap.size w x → FieldsIn x.heap.size x aB B) := Lib.hid (fun x hx => kin_in (w := w) ⟨x, hx⟩ hB)
  have hns := names_size (list_size hf varyN)
  have hnl := Nat.le_trans (names_len (listF varyN fs)) (list_len hf varyN)
  have HMF : Hid (matchF (listF varyN fs) A B = (!starP (listF varyN fs) && (varyL (listF varyN fs)).all (sameN A B))) := Lib.hid rfl
  have hst : starP (listF varyN fs) = true → varyL (listF varyN fs) = [] := fun h => by unfold varyL; rw [if_pos h]
  obtain ⟨N, hN⟩ : ∃ N, varyL (listF varyN fs) = N := ⟨_, rfl⟩
  obtain ⟨s, hs⟩ : ∃ s, starP (listF varyN fs) = s := ⟨_, rfl⟩
  rw [hN] at cN hns hnl HMF hst
  rw [hs] at cN HMF hst
  have HST := Lib.hid hst
  have HNS := Lib.hid hns
  have CN := Lib.hid cN
  have HW0 := Lib.hid hw0
  have HB0 := Lib.hid hb0
  have HfA := Lib.hid hfA
  have HfB := Lib.hid hfB
  clear hN hs cN hns hw0 hb0 hin hA hB hf hfA hfB hst
  go_enter Tryd.func27, Tryd.ntmps27
  go_wp2_with fail
  change Calls _ _ _ (w.alloc (.cells #[.int .i64 st, .string rs, .slice fa fs.length fc, .slice ba bn bc] 43)) _
  rw [HW0.out]
  refine CN.out.mono ?_
  rintro e w1 ⟨a1, d1, rfl, hrow, hb1⟩
  have HROW := Lib.hid hrow
  have HB1 := Lib.hid (HB0.out.trans (hb1.mono HB0.out.size))
  clear hrow hb1 c0 c1 c2 c3
  cases s with
  | true =>
    have HK : Hid (matchF (listF varyN fs) A B = false) := Lib.hid (by rw [HMF.out]; rfl)
    go_wp2
    go_ret
    exact ⟨by rw [HK.out]; rfl, HB1.out⟩
  | false =>
    go_wp2
    go_loopw [23] (fun i wr => ∃ k : Nat, k ≤ N.length ∧ i = .int .i64 k ∧ Hid (∀ j (hj : j < N.length), j < k → sameN A B N[j] = true) ∧ Hid (Below w1.heap.size w1 wr)) (fun i _ => N.length - (intOf i).toNat)
    case atStart => exact ⟨0, Nat.zero_le _, rfl, Lib.hid (fun _ _ h => absurd h (Nat.not_lt_zero _)), Lib.hid (Below.refl _ _)⟩
    case round =>
      obtain ⟨k, hk, rfl, HS, HB⟩ := hrel
      by_cases hkl : k < N.length
      · obtain ⟨b, off, rfl, hbl, hc1⟩ := HROW.out k hkl
        have x0 := (HB.out.cell (p := ⟨b, off + k, none⟩) hbl).trans hc1
        have hz := HNS.out _ (List.getElem_mem hkl)
        have HNEXT : Hid (sameN A B N[k] = true → ∀ j (hj : j < N.length), j < k + 1 → sameN A B N[j] = true) := Lib.hid (fun h j hj hjk => by
          rcases Nat.lt_or_ge j k with h1 | h1
          · exact HS.out j hj h1
          · obtain rfl : j = k := by omega
            exact h)
        have HNO : Hid (sameN A B N[k] = false → N.all (sameN A B) = false) := Lib.hid (fun h => match_no hkl h)
        have HSN : Hid (sameN A B N[k] = ((normF N[k] A == normF N[k] B) && (hasF N[k] A == hasF N[k] B))) := Lib.hid rfl
        obtain ⟨n, hn⟩ : ∃ n, N[k] = n := ⟨_, rfl⟩
        rw [hn] at x0 hz HNEXT HNO HSN
        have cA := fun x hx => normal_any A n aA cA x (HFA.out x hx) HfA.out hz
        have cB := fun x hx => normal_any B n aB cB x (HFB.out x hx) HfB.out hz
        unfold NormPost at cA cB
        obtain ⟨sA, hsA⟩ : ∃ sA : ByteArray, (⟨(normF n A).toArray⟩ : ByteArray) = sA := ⟨_, rfl⟩
        obtain ⟨sB, hsB⟩ : ∃ sB : ByteArray, (⟨(normF n B).toArray⟩ : ByteArray) = sB := ⟨_, rfl⟩
        obtain ⟨hA, hhA⟩ : ∃ hA, hasF n A = hA := ⟨_, rfl⟩
        obtain ⟨hB, hhB⟩ : ∃ hB, hasF n B = hB := ⟨_, rfl⟩
        have eA : normF n A = sA.data.toList := by rw [← hsA]
        have eB : normF n B = sB.data.toList := by rw [← hsB]
        simp only [hsA, hhA] at cA
        simp only [hsB, hhB] at cB
        rw [hhA, hhB, eA, eB] at HSN
        have CA := Lib.hid cA
        have CB := Lib.hid cB
        have HBR := Lib.hid (HB1.out.trans (HB.out.mono HB1.out.size))
        clear hn hc1 hbl cA cB hsA hsB hhA hhB eA eB
        go_wp2_with fail
        refine (CA.out _ HBR.out).mono ?_
        rintro e w2 ⟨rfl, hb2⟩
        have HBR2 := Lib.hid (HBR.out.trans (hb2.mono HBR.out.size))
        have HB2 := Lib.hid (HB.out.trans (hb2.mono HB.out.size))
        have x2 : w2.cell? ⟨b, off + k, none⟩ = some (.string n) := (Kin.cell ⟨w2, hb2⟩ x0)
        clear hb2 x0
        go_wp2_with fail
        refine (CB.out _ HBR2.out).mono ?_
        rintro e w3 ⟨rfl, hb3⟩
        have HBR3 := Lib.hid (HBR2.out.trans (hb3.mono HBR2.out.size))
        have HB3 := Lib.hid (HB2.out.trans (hb3.mono HB2.out.size))
        clear hb3 x2
        cases hq : (sA.data.toList == sB.data.toList) && (hA == hB) with
        | true =>
          have HK := Lib.hid (HNEXT.out (by rw [HSN.out]; exact hq))
          rw [Bool.and_eq_true] at hq
          have g1 : (sA.toList == sB.toList) = true := by rw [Lib.toList_data, Lib.toList_data]; exact hq.1
          obtain rfl : hA = hB := by simpa using hq.2
          clear hq
          cases hA with
          | true =>
            go_wp2
            go_roundw
            case rel => exact ⟨k + 1, by omega, by go_num, HK, HB3⟩
            case measure => simp [intOf]; omega
          | false =>
            go_wp2
            go_roundw
            case rel => exact ⟨k + 1, by omega, by go_num, HK, HB3⟩
            case measure => simp [intOf]; omega
        | false =>
          have HK : Hid (matchF (listF varyN fs) A B = false) := Lib.hid (by rw [HMF.out, HNO.out (by rw [HSN.out]; exact hq)]; rfl)
          rw [Bool.and_eq_false_iff] at hq
          have hg1 : (sA.toList == sB.toList) = true ∨ (sA.toList == sB.toList) = false := by cases sA.toList == sB.toList <;> simp
          have HQ := Lib.hid hq
          clear hq
          rcases hg1 with g1 | g1
          · have hne : (hA == hB) = false := by
              rcases HQ.out with h | h
              · rw [Lib.toList_data, Lib.toList_data, h] at g1; cases g1
              · exact h
            cases hA <;> cases hB
            · cases hne
            · clear hne
              go_wp2
              go_ret
              exact ⟨by rw [HK.out]; rfl, HBR3.out⟩
            · clear hne
              go_wp2
              go_ret
              exact ⟨by rw [HK.out]; rfl, HBR3.out⟩
            · cases hne
          · cases hA <;> cases hB
            all_goals
              go_wp2
              go_ret
              exact ⟨by rw [HK.out]; rfl, HBR3.out⟩
      · have HY : Hid (matchF (listF varyN fs) A B = true) := Lib.hid (by rw [HMF.out, match_yes (fun j hj => HS.out j hj (by omega))]; rfl)
        have HBR := Lib.hid (HB1.out.trans (HB.out.mono HB1.out.size))
        go_wp2
        go_ret
        exact ⟨by rw [HY.out]; rfl, HBR.out⟩
end Go.Proofs.YtkpkpfolgbpjbaaDoor
namespace Go.Proofs.YtkpkpfolgbpjbaaDoor
open Go.RowKit HeadMath HeadS VaryMath Go.Sort

set_option maxRecDepth 100000 in
set_option maxHeartbeats 16000000 in
theorem keep_any (fs A : List (ByteArray × ByteArray)) (st : Int) (rs : ByteArray) (fa ba aA : Option Addr) (fc bn bc cA : Nat) (w : World) (hin : FieldsIn w.heap.size w fa fs) (hA : FieldsIn w.heap.size w aA A) (hf : FewF fs) (hfA : FewF A) :
    Calls Tryd.prog 26 #[.agg #[.int .i64 st, .string rs, .slice fa fs.length fc, .slice ba bn bc], .slice aA A.length cA] w (KeepPost (listF varyN fs) A w) := by
  obtain ⟨w0, hw0⟩ : ∃ w0, w.alloc (.cells #[.int .i64 st, .string rs, .slice fa fs.length fc, .slice ba bn bc] 43) = w0 := ⟨_, rfl⟩
  have hb0 : Below w.heap.size w w0 := by rw [← hw0]; exact (Below.refl _ _).alloc (Nat.le_refl _) _
  obtain ⟨c0, c1, c2, c3⟩ := (by have h := resp_cells (w := w) (t := 43) (cs := #[.int .i64 st, .string rs, .slice fa fs.length fc, .slice ba bn bc]) rfl; rw [hw0] at h; exact h : w0.cell? ⟨w.heap.size, 0, none⟩ = some (.int .i64 st) ∧ w0.cell? ⟨w.heap.size, 1, none⟩ = some (.string rs) ∧ w0.cell? ⟨w.heap.size, 2, none⟩ = some (.slice fa fs.length fc) ∧ w0.cell? ⟨w.heap.size, 3, none⟩ = some (.slice ba bn bc))
  have cN := names_any fs st rs fa ba fc bn bc w0 (kin_in (w := w) ⟨w0, hb0⟩ hin) hf
  unfold NamesPost at cN
  have HFA : Hid (∀ x, Below w.heap.size w x → FieldsIn x.heap.size x aA A) := Lib.hid (fun x hx => kin_in (w := w) ⟨x, hx⟩ hA)
  have hns := names_size (list_size hf varyN)
  have hnl := Nat.le_trans (names_len (listF varyN fs)) (list_len hf varyN)
  have HKF : Hid (keepF (listF varyN fs) A = keepL A (varyL (listF varyN fs))) := Lib.hid rfl
  obtain ⟨N, hN⟩ : ∃ N, varyL (listF varyN fs) = N := ⟨_, rfl⟩
  obtain ⟨s, hs⟩ : ∃ s, starP (listF varyN fs) = s := ⟨_, rfl⟩
  rw [hN] at cN hns hnl HKF
  rw [hs] at cN
  have HNS := Lib.hid hns
  have CN := Lib.hid cN
  have HW0 := Lib.hid hw0
  have HB0 := Lib.hid hb0
  have HfA := Lib.hid hfA
  obtain ⟨i1, fi, fz0, fz1, fz2⟩ := infoField
  clear hN hs cN hns hw0 hb0 hin hA hf hfA
  unfold KeepPost
  go_enter Tryd.func26, Tryd.ntmps26
  go_wp2_with fail
  change Calls _ _ _ (w.alloc (.cells #[.int .i64 st, .string rs, .slice fa fs.length fc, .slice ba bn bc] 43)) _
  rw [HW0.out]
  refine CN.out.mono ?_
  rintro e w1 ⟨a1, d1, rfl, hrow, hb1⟩
  have HROW := Lib.hid hrow
  have HB1 := Lib.hid (HB0.out.trans (hb1.mono HB0.out.size))
  clear hrow hb1 c0 c1 c2 c3
  go_wp2
  go_loopw [7, 19] (fun v i wr => ∃ (k : Nat) (v0 : Value), k ≤ N.length ∧ i = .int .i64 k ∧ v0 = v ∧ Hid (wr.ownsRow w1.heap.size 29 2 v0 (keepL A (N.take k)).length (fieldCells (keepL A (N.take k)))) ∧ Hid (Below w1.heap.size w1 wr)) (fun _ i _ => N.length - (intOf i).toNat)
  case atStart => exact ⟨0, _, Nat.zero_le _, rfl, rfl, Lib.hid (World.ownsRow_nil _ _ _ _), Lib.hid (Below.refl _ _)⟩
  case round =>
    obtain ⟨k, v0, hk, rfl, rfl, HO, HB⟩ := hrel
    by_cases hkl : k < N.length
    · obtain ⟨b, off, rfl, hbl, hc1⟩ := HROW.out k hkl
      have x0 := (HB.out.cell (p := ⟨b, off + k, none⟩) hbl).trans hc1
      have hz := HNS.out _ (List.getElem_mem hkl)
      have HTK := Lib.hid (keep_snoc A N k hkl)
      have hkk := Nat.le_trans (keep_len A (N.take k)) (List.length_take_le k N)
      obtain ⟨n, hn⟩ : ∃ n, N[k] = n := ⟨_, rfl⟩
      rw [hn] at x0 hz HTK
      have cA := fun x hx => normal_any A n aA cA x (HFA.out x hx) HfA.out hz
      unfold NormPost at cA
      have harr : arrB (normF n A) = ⟨(normF n A).toArray⟩ := rfl
      obtain ⟨sA, hsA⟩ : ∃ sA : ByteArray, (⟨(normF n A).toArray⟩ : ByteArray) = sA := ⟨_, rfl⟩
      obtain ⟨hA, hhA⟩ : ∃ hA, hasF n A = hA := ⟨_, rfl⟩
      simp only [hsA, hhA] at cA
      rw [hhA, harr, hsA] at HTK
      obtain ⟨K, hK⟩ : ∃ K, keepL A (N.take k) = K := ⟨_, rfl⟩
      rw [hK] at HO HTK hkk
      have CA := Lib.hid cA
      have HBR := Lib.hid (HB1.out.trans (HB.out.mono HB1.out.size))
      clear hn hc1 hbl cA hsA hhA harr hK
      go_wp2_with fail
      refine (CA.out _ HBR.out).mono ?_
      rintro e w2 ⟨rfl, hb2⟩
      have HB2 := Lib.hid (HB.out.trans (hb2.mono HB.out.size))
      have hO2 := (Below.spares (F := nowhere) hb2 (fun k hk => .inr hk)).own HO.out (fun _ _ h => h)
      have x2 : w2.cell? ⟨b, off + k, none⟩ = some (.string n) := (Kin.cell ⟨w2, hb2⟩ x0)
      have HO2 := Lib.hid hO2
      clear hb2 x0 hO2
      cases hA with
      | false =>
        have HT2 : Hid (keepL A (N.take (k + 1)) = K) := Lib.hid (by rw [HTK.out]; simp)
        go_wp2
        go_roundw
        case rel => exact ⟨k + 1, _, by omega, by go_num, rfl, Lib.hid (by rw [HT2.out]; exact HO2.out), HB2⟩
        case measure => simp [intOf]; omega
      | true =>
        have HT2 : Hid (keepL A (N.take (k + 1)) = K ++ [(n, sA)]) := Lib.hid (by rw [HTK.out]; simp)
        have HFC : Hid (fieldCells (K ++ [(n, sA)]) = fieldCells K ++ [.string n, .string sA] ∧ (K ++ [(n, sA)]).length = K.length + 1) := Lib.hid (by simp [fieldCells])
        have HOW := Lib.hid (World.ownsRow.alloc HO2.out (.cells #[.string n, .string sA] 29))
        have HC9 : Hid (∀ j u, [Value.string n, Value.string sA][j]? = some u → (w2.alloc (.cells #[.string n, .string sA] 29)).cell? ((⟨w2.heap.size, 0, none⟩ : Addr).add j) = some u) := Lib.hid (by
          intro j u hj
          match j, hj with
          | 0, hj => injection hj with hj; subst hj; simp [go_sem, Addr.add]
          | 1, hj => injection hj with hj; subst hj; simp [go_sem, Addr.add])
        have HBW := Lib.hid (HB2.out.alloc HB2.out.size (.cells #[.string n, .string sA] 29))
        have HSB := Lib.hid HBW.out.size
        have HX1 : Hid (K.length + 1 ≤ maxLen) := Lib.hid (by unfold maxLen; omega)
        have HX2 : Hid ((K.length + 1) * 32 ≤ 140737488355328) := Lib.hid (by omega)
        go_wp2_with ((with_reducible show wpList _ _ _ (⟨some 35, _, _, _, _, _⟩ :: _) _ _); refine wpList_append_own _ rfl _ _ 30 rfl w1.heap.size 29 i1 _ 2 32 Tryd.underlying30 fi fz0 fz1 fz2 rfl (by decide) v0 K.length _ rfl HOW.out ⟨w2.heap.size, 0, none⟩ 1 1 [.string n, .string sA] rfl rfl HC9.out (by simp [Value.oneCell']) HX1.out HX2.out HSB.out ?_; intro v4 w4 ho hg _; have HO4 := Lib.hid ho; have HB4 := Lib.hid (HBW.out.grown hg HSB.out (fun g h => (World.ownsRow.lt HOW.out g h).1)); clear ho hg)
        go_roundw
        case rel => exact ⟨k + 1, _, by omega, by go_num, rfl, Lib.hid (by rw [HT2.out, HFC.out.1, HFC.out.2]; exact HO4.out), HB4⟩
        case measure => simp [intOf]; omega
    · have HE : Hid (keepF (listF varyN fs) A = keepL A (N.take k)) := Lib.hid (by rw [HKF.out, List.take_of_length_le (by omega)])
      have HBR := Lib.hid (HB1.out.trans (HB.out.mono HB1.out.size))
      obtain ⟨av, cv, rfl, hin⟩ := own_fieldsIn rfl HO.out
      have HIN := Lib.hid hin
      clear hin
      go_wp2
      go_ret
      exact ⟨av, cv, by rw [HE.out]; rfl, by rw [HE.out]; exact HIN.out, HBR.out⟩
end Go.Proofs.YtkpkpfolgbpjbaaDoor
namespace Go.Proofs.YtkpkpfolgbpjbaaDoor
open Go.RowKit HeadMath HeadS VaryMath Go.Sort

set_option maxRecDepth 100000 in
set_option maxHeartbeats 16000000 in
theorem refMatch_any (fs A B : List (ByteArray × ByteArray)) (st : Int) (rs : ByteArray) (fa ba aA aB : Option Addr) (fc bn bc cA cB : Nat) (w : World) (hin : FieldsIn w.heap.size w fa fs) (hA : FieldsIn w.heap.size w aA A) (hB : FieldsIn w.heap.size w aB B) (hf : FewF fs) (hfA : FewF A) (hfB : FewF B) :
    Calls Tryd.prog 28 #[.agg #[.int .i64 st, .string rs, .slice fa fs.length fc, .slice ba bn bc], .slice aA A.length cA, .slice aB B.length cB] w fun e w' => e = .returned (.bool (matchF (listF varyN fs) A B)) ∧ Below w.heap.size w w' := by
  obtain ⟨w0, hw0⟩ : ∃ w0, w.alloc (.cells #[.int .i64 st, .string rs, .slice fa fs.length fc, .slice ba bn bc] 43) = w0 := ⟨_, rfl⟩
  have hb0 : Below w.heap.size w w0 := by rw [← hw0]; exact (Below.refl _ _).alloc (Nat.le_refl _) _
  obtain ⟨c0, c1, c2, c3⟩ := (by have h := resp_cells (w := w) (t := 43) (cs := #[.int .i64 st, .string rs, .slice fa fs.length fc, .slice ba bn bc]) rfl; rw [hw0] at h; exact h : w0.cell? ⟨w.heap.size, 0, none⟩ = some (.int .i64 st) ∧ w0.cell? ⟨w.heap.size, 1, none⟩ = some (.string rs) ∧ w0.cell? ⟨w.heap.size, 2, none⟩ = some (.slice fa fs.length fc) ∧ w0.cell? ⟨w.heap.size, 3, none⟩ = some (.slice ba bn bc))
  have cN := refNames_any fs st rs fa ba fc bn bc w0 (kin_in (w := w) ⟨w0, hb0⟩ hin) hf
  unfold NamesPost at cN
  have HFA : Hid (∀ x, Below w.heap.size w x → FieldsIn x.heap.size x aA A) := Lib.hid (fun x hx => kin_in (w := w) ⟨x, hx⟩ hA)
  have HFB : Hid (∀ x, Below w.heap.size w x → FieldsIn x.heap.size x aB B) := Lib.hid (fun x hx => kin_in (w := w) ⟨x, hx⟩ hB)
  have hns := names_size (list_size hf varyN)
  have hnl := Nat.le_trans (names_len (listF varyN fs)) (list_len hf varyN)
  have HMF : Hid (matchF (listF varyN fs) A B = (!starP (listF varyN fs) && (varyL (listF varyN fs)).all (sameN A B))) := Lib.hid rfl
  have hst : starP (listF varyN fs) = true → varyL (listF varyN fs) = [] := fun h => by unfold varyL; rw [if_pos h]
  obtain ⟨N, hN⟩ : ∃ N, varyL (listF varyN fs) = N := ⟨_, rfl⟩
  obtain ⟨s, hs⟩ : ∃ s, starP (listF varyN fs) = s := ⟨_, rfl⟩
  rw [hN] at cN hns hnl HMF hst
  rw [hs] at cN HMF hst
  have HST := Lib.hid hst
  have HNS := Lib.hid hns
  have CN := Lib.hid cN
  have HW0 := Lib.hid hw0
  have HB0 := Lib.hid hb0
  have HfA := Lib.hid hfA
  have HfB := Lib.hid hfB
  clear hN hs cN hns hw0 hb0 hin hA hB hf hfA hfB hst
  go_enter Tryd.func28, Tryd.ntmps28
  go_wp2_with fail
  change Calls _ _ _ (w.alloc (.cells #[.int .i64 st, .string rs, .slice fa fs.length fc, .slice ba bn bc] 43)) _
  rw [HW0.out]
  refine CN.out.mono ?_
  rintro e w1 ⟨a1, d1, rfl, hrow, hb1⟩
  have HROW := Lib.hid hrow
  have HB1 := Lib.hid (HB0.out.trans (hb1.mono HB0.out.size))
  clear hrow hb1 c0 c1 c2 c3
  cases s with
  | true =>
    have HK : Hid (matchF (listF varyN fs) A B = false) := Lib.hid (by rw [HMF.out]; rfl)
    obtain rfl := HST.out rfl
    go_wp2
    refine wp_loop_rounds 1 ?_
    rw [rounds_succ]
    go_wp2
    go_ret
    exact ⟨by rw [HK.out]; rfl, HB1.out⟩
  | false =>
    go_wp2
    go_loopw [9] (fun i wr => ∃ k : Nat, k ≤ N.length ∧ i = .int .i64 k ∧ Hid (∀ j (hj : j < N.length), j < k → sameN A B N[j] = true) ∧ Hid (Below w1.heap.size w1 wr)) (fun i _ => N.length - (intOf i).toNat)
    case atStart => exact ⟨0, Nat.zero_le _, rfl, Lib.hid (fun _ _ h => absurd h (Nat.not_lt_zero _)), Lib.hid (Below.refl _ _)⟩
    case round =>
      obtain ⟨k, hk, rfl, HS, HB⟩ := hrel
      by_cases hkl : k < N.length
      · obtain ⟨b, off, rfl, hbl, hc1⟩ := HROW.out k hkl
        have x0 := (HB.out.cell (p := ⟨b, off + k, none⟩) hbl).trans hc1
        have hz := HNS.out _ (List.getElem_mem hkl)
        have HNEXT : Hid (sameN A B N[k] = true → ∀ j (hj : j < N.length), j < k + 1 → sameN A B N[j] = true) := Lib.hid (fun h j hj hjk => by
          rcases Nat.lt_or_ge j k with h1 | h1
          · exact HS.out j hj h1
          · obtain rfl : j = k := by omega
            exact h)
        have HNO : Hid (sameN A B N[k] = false → N.all (sameN A B) = false) := Lib.hid (fun h => match_no hkl h)
        have HSN : Hid (sameN A B N[k] = ((normF N[k] A == normF N[k] B) && (hasF N[k] A == hasF N[k] B))) := Lib.hid rfl
        obtain ⟨n, hn⟩ : ∃ n, N[k] = n := ⟨_, rfl⟩
        rw [hn] at x0 hz HNEXT HNO HSN
        have cA := fun x hx => refNormal_any A n aA cA x (HFA.out x hx) HfA.out hz
        have cB := fun x hx => refNormal_any B n aB cB x (HFB.out x hx) HfB.out hz
        unfold NormPost at cA cB
        obtain ⟨sA, hsA⟩ : ∃ sA : ByteArray, (⟨(normF n A).toArray⟩ : ByteArray) = sA := ⟨_, rfl⟩
        obtain ⟨sB, hsB⟩ : ∃ sB : ByteArray, (⟨(normF n B).toArray⟩ : ByteArray) = sB := ⟨_, rfl⟩
        obtain ⟨hA, hhA⟩ : ∃ hA, hasF n A = hA := ⟨_, rfl⟩
        obtain ⟨hB, hhB⟩ : ∃ hB, hasF n B = hB := ⟨_, rfl⟩
        have eA : normF n A = sA.data.toList := by rw [← hsA]
        have eB : normF n B = sB.data.toList := by rw [← hsB]
        simp only [hsA, hhA] at cA
        simp only [hsB, hhB] at cB
        rw [hhA, hhB, eA, eB] at HSN
        have CA := Lib.hid cA
        have CB := Lib.hid cB
        have HBR := Lib.hid (HB1.out.trans (HB.out.mono HB1.out.size))
        clear hn hc1 hbl cA cB hsA hsB hhA hhB eA eB
        go_wp2_with fail
        refine (CA.out _ HBR.out).mono ?_
        rintro e w2 ⟨rfl, hb2⟩
        have HBR2 := Lib.hid (HBR.out.trans (hb2.mono HBR.out.size))
        have HB2 := Lib.hid (HB.out.trans (hb2.mono HB.out.size))
        have x2 : w2.cell? ⟨b, off + k, none⟩ = some (.string n) := (Kin.cell ⟨w2, hb2⟩ x0)
        clear hb2 x0
        go_wp2_with fail
        refine (CB.out _ HBR2.out).mono ?_
        rintro e w3 ⟨rfl, hb3⟩
        have HBR3 := Lib.hid (HBR2.out.trans (hb3.mono HBR2.out.size))
        have HB3 := Lib.hid (HB2.out.trans (hb3.mono HB2.out.size))
        clear hb3 x2
        cases hq : (sA.data.toList == sB.data.toList) && (hA == hB) with
        | true =>
          have HK := Lib.hid (HNEXT.out (by rw [HSN.out]; exact hq))
          rw [Bool.and_eq_true] at hq
          have g1 : (sA.toList == sB.toList) = true := by rw [Lib.toList_data, Lib.toList_data]; exact hq.1
          obtain rfl : hA = hB := by simpa using hq.2
          clear hq
          cases hA with
          | true =>
            go_wp2
            go_roundw
            case rel => exact ⟨k + 1, by omega, by go_num, HK, HB3⟩
            case measure => simp [intOf]; omega
          | false =>
            go_wp2
            go_roundw
            case rel => exact ⟨k + 1, by omega, by go_num, HK, HB3⟩
            case measure => simp [intOf]; omega
        | false =>
          have HK : Hid (matchF (listF varyN fs) A B = false) := Lib.hid (by rw [HMF.out, HNO.out (by rw [HSN.out]; exact hq)]; rfl)
          rw [Bool.and_eq_false_iff] at hq
          have hg1 : (sA.toList == sB.toList) = true ∨ (sA.toList == sB.toList) = false := by cases sA.toList == sB.toList <;> simp
          have HQ := Lib.hid hq
          clear hq
          rcases hg1 with g1 | g1
          · have hne : (hA == hB) = false := by
              rcases HQ.out with h | h
              · rw [Lib.toList_data, Lib.toList_data, h] at g1; cases g1
              · exact h
            cases hA <;> cases hB
            · cases hne
            · clear hne
              go_wp2
              go_ret
              exact ⟨by rw [HK.out]; rfl, HBR3.out⟩
            · clear hne
              go_wp2
              go_ret
              exact ⟨by rw [HK.out]; rfl, HBR3.out⟩
            · cases hne
          · cases hA <;> cases hB
            all_goals
              go_wp2
              go_ret
              exact ⟨by rw [HK.out]; rfl, HBR3.out⟩
      · have HY : Hid (matchF (listF varyN fs) A B = true) := Lib.hid (by rw [HMF.out, match_yes (fun j hj => HS.out j hj (by omega))]; rfl)
        have HBR := Lib.hid (HB1.out.trans (HB.out.mono HB1.out.size))
        go_wp2
        go_ret
        exact ⟨by rw [HY.out]; rfl, HBR.out⟩
end Go.Proofs.YtkpkpfolgbpjbaaDoor
namespace Go.Proofs.YtkpkpfolgbpjbaaDoor
open Go.RowKit HeadMath HeadS VaryMath Go.Sort

set_option maxRecDepth 100000 in
set_option maxHeartbeats 16000000 in
theorem refKeep_any (fs A : List (ByteArray × ByteArray)) (st : Int) (rs : ByteArray) (fa ba aA : Option Addr) (fc bn bc cA : Nat) (w : World) (hin : FieldsIn w.heap.size w fa fs) (hA : FieldsIn w.heap.size w aA A) (hf : FewF fs) (hfA : FewF A) :
    Calls Tryd.prog 30 #[.agg #[.int .i64 st, .string rs, .slice fa fs.length fc, .slice ba bn bc], .slice aA A.length cA] w (KeepPost (listF varyN fs) A w) := by
  obtain ⟨w0, hw0⟩ : ∃ w0, w.alloc (.cells #[.int .i64 st, .string rs, .slice fa fs.length fc, .slice ba bn bc] 43) = w0 := ⟨_, rfl⟩
  have hb0 : Below w.heap.size w w0 := by rw [← hw0]; exact (Below.refl _ _).alloc (Nat.le_refl _) _
  obtain ⟨c0, c1, c2, c3⟩ := (by have h := resp_cells (w := w) (t := 43) (cs := #[.int .i64 st, .string rs, .slice fa fs.length fc, .slice ba bn bc]) rfl; rw [hw0] at h; exact h : w0.cell? ⟨w.heap.size, 0, none⟩ = some (.int .i64 st) ∧ w0.cell? ⟨w.heap.size, 1, none⟩ = some (.string rs) ∧ w0.cell? ⟨w.heap.size, 2, none⟩ = some (.slice fa fs.length fc) ∧ w0.cell? ⟨w.heap.size, 3, none⟩ = some (.slice ba bn bc))
  have cN := refNames_any fs st rs fa ba fc bn bc w0 (kin_in (w := w) ⟨w0, hb0⟩ hin) hf
  unfold NamesPost at cN
  have HFA : Hid (∀ x, Below w.heap.size w x → FieldsIn x.heap.size x aA A) := Lib.hid (fun x hx => kin_in (w := w) ⟨x, hx⟩ hA)
  have hns := names_size (list_size hf varyN)
  have hnl := Nat.le_trans (names_len (listF varyN fs)) (list_len hf varyN)
  have HKF : Hid (keepF (listF varyN fs) A = keepL A (varyL (listF varyN fs))) := Lib.hid rfl
  obtain ⟨N, hN⟩ : ∃ N, varyL (listF varyN fs) = N := ⟨_, rfl⟩
  obtain ⟨s, hs⟩ : ∃ s, starP (listF varyN fs) = s := ⟨_, rfl⟩
  rw [hN] at cN hns hnl HKF
  rw [hs] at cN
  have HNS := Lib.hid hns
  have CN := Lib.hid cN
  have HW0 := Lib.hid hw0
  have HB0 := Lib.hid hb0
  have HfA := Lib.hid hfA
  obtain ⟨i1, fi, fz0, fz1, fz2⟩ := infoField
  clear hN hs cN hns hw0 hb0 hin hA hf hfA
  unfold KeepPost
  go_enter Tryd.func30, Tryd.ntmps30
  go_wp2_with fail
  change Calls _ _ _ (w.alloc (.cells #[.int .i64 st, .string rs, .slice fa fs.length fc, .slice ba bn bc] 43)) _
  rw [HW0.out]
  refine CN.out.mono ?_
  rintro e w1 ⟨a1, d1, rfl, hrow, hb1⟩
  have HROW := Lib.hid hrow
  have HB1 := Lib.hid (HB0.out.trans (hb1.mono HB0.out.size))
  clear hrow hb1 c0 c1 c2 c3
  go_wp2
  go_loopw [7, 8] (fun v i wr => ∃ (k : Nat) (v0 : Value), k ≤ N.length ∧ i = .int .i64 k ∧ v0 = v ∧ Hid (wr.ownsRow w1.heap.size 29 2 v0 (keepL A (N.take k)).length (fieldCells (keepL A (N.take k)))) ∧ Hid (Below w1.heap.size w1 wr)) (fun _ i _ => N.length - (intOf i).toNat)
  case atStart => exact ⟨0, _, Nat.zero_le _, rfl, rfl, Lib.hid (World.ownsRow_nil _ _ _ _), Lib.hid (Below.refl _ _)⟩
  case round =>
    obtain ⟨k, v0, hk, rfl, rfl, HO, HB⟩ := hrel
    by_cases hkl : k < N.length
    · obtain ⟨b, off, rfl, hbl, hc1⟩ := HROW.out k hkl
      have x0 := (HB.out.cell (p := ⟨b, off + k, none⟩) hbl).trans hc1
      have hz := HNS.out _ (List.getElem_mem hkl)
      have HTK := Lib.hid (keep_snoc A N k hkl)
      have hkk := Nat.le_trans (keep_len A (N.take k)) (List.length_take_le k N)
      obtain ⟨n, hn⟩ : ∃ n, N[k] = n := ⟨_, rfl⟩
      rw [hn] at x0 hz HTK
      have cA := fun x hx => refNormal_any A n aA cA x (HFA.out x hx) HfA.out hz
      unfold NormPost at cA
      have harr : arrB (normF n A) = ⟨(normF n A).toArray⟩ := rfl
      obtain ⟨sA, hsA⟩ : ∃ sA : ByteArray, (⟨(normF n A).toArray⟩ : ByteArray) = sA := ⟨_, rfl⟩
      obtain ⟨hA, hhA⟩ : ∃ hA, hasF n A = hA := ⟨_, rfl⟩
      simp only [hsA, hhA] at cA
      rw [hhA, harr, hsA] at HTK
      obtain ⟨K, hK⟩ : ∃ K, keepL A (N.take k) = K := ⟨_, rfl⟩
      rw [hK] at HO HTK hkk
      have CA := Lib.hid cA
      have HBR := Lib.hid (HB1.out.trans (HB.out.mono HB1.out.size))
      clear hn hc1 hbl cA hsA hhA harr hK
      go_wp2_with fail
      refine (CA.out _ HBR.out).mono ?_
      rintro e w2 ⟨rfl, hb2⟩
      have HB2 := Lib.hid (HB.out.trans (hb2.mono HB.out.size))
      have hO2 := (Below.spares (F := nowhere) hb2 (fun k hk => .inr hk)).own HO.out (fun _ _ h => h)
      have x2 : w2.cell? ⟨b, off + k, none⟩ = some (.string n) := (Kin.cell ⟨w2, hb2⟩ x0)
      have HO2 := Lib.hid hO2
      clear hb2 x0 hO2
      cases hA with
      | false =>
        have HT2 : Hid (keepL A (N.take (k + 1)) = K) := Lib.hid (by rw [HTK.out]; simp)
        go_wp2
        go_roundw
        case rel => exact ⟨k + 1, _, by omega, by go_num, rfl, Lib.hid (by rw [HT2.out]; exact HO2.out), HB2⟩
        case measure => simp [intOf]; omega
      | true =>
        have HT2 : Hid (keepL A (N.take (k + 1)) = K ++ [(n, sA)]) := Lib.hid (by rw [HTK.out]; simp)
        have HFC : Hid (fieldCells (K ++ [(n, sA)]) = fieldCells K ++ [.string n, .string sA] ∧ (K ++ [(n, sA)]).length = K.length + 1) := Lib.hid (by simp [fieldCells])
        have HOW := Lib.hid (World.ownsRow.alloc HO2.out (.cells #[.string n, .string sA] 29))
        have HC9 : Hid (∀ j u, [Value.string n, Value.string sA][j]? = some u → (w2.alloc (.cells #[.string n, .string sA] 29)).cell? ((⟨w2.heap.size, 0, none⟩ : Addr).add j) = some u) := Lib.hid (by
          intro j u hj
          match j, hj with
          | 0, hj => injection hj with hj; subst hj; simp [go_sem, Addr.add]
          | 1, hj => injection hj with hj; subst hj; simp [go_sem, Addr.add])
        have HBW := Lib.hid (HB2.out.alloc HB2.out.size (.cells #[.string n, .string sA] 29))
        have HSB := Lib.hid HBW.out.size
        have HX1 : Hid (K.length + 1 ≤ maxLen) := Lib.hid (by unfold maxLen; omega)
        have HX2 : Hid ((K.length + 1) * 32 ≤ 140737488355328) := Lib.hid (by omega)
        go_wp2_with ((with_reducible show wpList _ _ _ (⟨some 40, _, _, _, _, _⟩ :: _) _ _); refine wpList_append_own _ rfl _ _ 30 rfl w1.heap.size 29 i1 _ 2 32 Tryd.underlying30 fi fz0 fz1 fz2 rfl (by decide) v0 K.length _ rfl HOW.out ⟨w2.heap.size, 0, none⟩ 1 1 [.string n, .string sA] rfl rfl HC9.out (by simp [Value.oneCell']) HX1.out HX2.out HSB.out ?_; intro v4 w4 ho hg _; have HO4 := Lib.hid ho; have HB4 := Lib.hid (HBW.out.grown hg HSB.out (fun g h => (World.ownsRow.lt HOW.out g h).1)); clear ho hg)
        go_roundw
        case rel => exact ⟨k + 1, _, by omega, by go_num, rfl, Lib.hid (by rw [HT2.out, HFC.out.1, HFC.out.2]; exact HO4.out), HB4⟩
        case measure => simp [intOf]; omega
    · have HE : Hid (keepF (listF varyN fs) A = keepL A (N.take k)) := Lib.hid (by rw [HKF.out, List.take_of_length_le (by omega)])
      have HBR := Lib.hid (HB1.out.trans (HB.out.mono HB1.out.size))
      obtain ⟨av, cv, rfl, hin⟩ := own_fieldsIn rfl HO.out
      have HIN := Lib.hid hin
      clear hin
      go_wp2
      go_ret
      exact ⟨av, cv, by rw [HE.out]; rfl, by rw [HE.out]; exact HIN.out, HBR.out⟩
end Go.Proofs.YtkpkpfolgbpjbaaDoor
namespace Go.Proofs.YtkpkpfolgbpjbaaDoor
open Go.RowKit HeadMath HeadS VaryMath Go.Sort

def vVal : ByteArray := ⟨#[76, 97, 110, 103, 44, 32, 65, 99, 99, 101, 112, 116, 44, 32, 108, 97, 110, 103]⟩
def vFs : List (ByteArray × ByteArray) := [(varyN, vVal)]
def twoN : List ByteArray := [⟨#[97, 99, 99, 101, 112, 116]⟩, ⟨#[108, 97, 110, 103]⟩]
def azFs : List (ByteArray × ByteArray) := [(⟨#[65]⟩, ⟨#[120, 32, 9, 32, 121]⟩), (⟨#[97]⟩, ⟨#[122]⟩)]
def accFs : List (ByteArray × ByteArray) := [(⟨#[97, 99, 99, 101, 112, 116]⟩, ⟨#[113]⟩)]
theorem vList : listF varyN vFs = [⟨#[76, 97, 110, 103]⟩, ⟨#[65, 99, 99, 101, 112, 116]⟩, ⟨#[108, 97, 110, 103]⟩] := by
  have ha : allF varyN vFs = [vVal] := by kernel_rfl
  unfold listF
  rw [ha]
  show partsF vVal ++ [] = _
  rw [List.append_nil]
  have := parts_join [⟨#[76, 97, 110, 103]⟩, ⟨#[65, 99, 99, 101, 112, 116]⟩, ⟨#[108, 97, 110, 103]⟩] (by
    intro y hy
    simp only [List.mem_cons, List.not_mem_nil, or_false] at hy
    rcases hy with rfl | rfl | rfl
    · exact item_lit rfl
    · exact item_lit rfl
    · exact item_lit rfl)
  rw [← this]
  rfl
theorem vNames : varyL (listF varyN vFs) = twoN := by rw [vList]; decide +kernel
theorem vStar : starP (listF varyN vFs) = false := by rw [vList]; decide +kernel
theorem vNorm : normF ⟨#[65]⟩ azFs = (⟨#[120, 32, 121, 44, 32, 122]⟩ : ByteArray).data.toList ∧ hasF ⟨#[65]⟩ azFs = true := by decide +kernel
theorem vMatch1 : matchF (listF varyN vFs) [] [] = true := by
  unfold matchF
  rw [vNames, vStar]
  decide +kernel
theorem vMatch2 : matchF (listF varyN vFs) [] accFs = false := by
  unfold matchF
  rw [vNames, vStar]
  decide +kernel
theorem few_lit {fs : List (ByteArray × ByteArray)} (h : (decide (fs.length ≤ 100000) && fs.all (fun f => decide (f.1.size ≤ 1000000) && decide (f.2.size ≤ 1000000))) = true) : FewF fs := by
  rw [Bool.and_eq_true] at h
  refine ⟨of_decide_eq_true h.1, fun j hj => ?_⟩
  have := List.all_eq_true.1 h.2 _ (List.getElem_mem hj)
  rw [Bool.and_eq_true] at this
  exact ⟨of_decide_eq_true this.1, of_decide_eq_true this.2⟩
theorem two_fields (w : World) (f g : ByteArray × ByteArray) : FieldsIn (w.heap.size + 1) (w.alloc (.cells #[.string f.1, .string f.2, .string g.1, .string g.2] 29)) (some ⟨w.heap.size, 0, none⟩) [f, g] := by
  intro j hj
  have hj2 : j < 2 := hj
  match j, hj2 with
  | 0, _ => exact ⟨_, 0, rfl, by omega, by simp [go_sem], by simp [go_sem]⟩
  | 1, _ => exact ⟨_, 0, rfl, by omega, by simp [go_sem], by simp [go_sem]⟩
theorem two_strs (w : World) (x y : ByteArray) : StrsIn (w.heap.size + 1) (w.alloc (.cells #[.string x, .string y] 9)) (some ⟨w.heap.size, 0, none⟩) [x, y] := by
  intro j hj
  have hj2 : j < 2 := hj
  match j, hj2 with
  | 0, _ => exact ⟨_, 0, rfl, by omega, by simp [go_sem]⟩
  | 1, _ => exact ⟨_, 0, rfl, by omega, by simp [go_sem]⟩
theorem strs_kin {w : World} {a : Option Addr} {l : List ByteArray} (y : Kin w) (h : StrsIn w.heap.size w a l) : StrsIn y.wd.heap.size y.wd a l := fun j hj => by
  obtain ⟨b, off, h1, h2, h3⟩ := h j hj
  exact ⟨b, off, h1, Nat.lt_of_lt_of_le h2 y.below.size, (y.below.cell (p := ⟨b, off + j, none⟩) h2).trans h3⟩
set_option maxRecDepth 100000 in
set_option maxHeartbeats 16000000 in
theorem vknown_any (w : World) : Calls Tryd.prog 19 #[] w (Yes w) := by
  obtain ⟨w0, hw0⟩ : ∃ w0, (w.alloc (.cells #[.string varyN, .string vVal] 29)).alloc (.cells #[.int .i64 0, .string ⟨#[]⟩, .slice (some ⟨w.heap.size, 0, none⟩) 1 1, .slice none 0 0] 43) = w0 := ⟨_, rfl⟩
  have hb0 : Below w.heap.size w w0 := by rw [← hw0]; exact (((Spares.refl nowhere w).alloc _).alloc _).below0
  have hsz1 : (w.alloc (.cells #[.string varyN, .string vVal] 29)).heap.size = w.heap.size + 1 := by simp
  obtain ⟨c0, c1, c2, c3⟩ := (by have h := resp_cells (w := w.alloc (.cells #[.string varyN, .string vVal] 29)) (t := 43) (cs := #[.int .i64 0, .string ⟨#[]⟩, .slice (some ⟨w.heap.size, 0, none⟩) 1 1, .slice none 0 0]) rfl; rw [hw0, hsz1] at h; exact h : w0.cell? ⟨w.heap.size + 1, 0, none⟩ = some (.int .i64 0) ∧ w0.cell? ⟨w.heap.size + 1, 1, none⟩ = some (.string ⟨#[]⟩) ∧ w0.cell? ⟨w.heap.size + 1, 2, none⟩ = some (.slice (some ⟨w.heap.size, 0, none⟩) 1 1) ∧ w0.cell? ⟨w.heap.size + 1, 3, none⟩ = some (.slice none 0 0))
  have hfi : FieldsIn w0.heap.size w0 (some ⟨w.heap.size, 0, none⟩) vFs := by
    have h := k_fields w varyN vVal
    rw [← hsz1] at h
    have h2 := kin_in (w := w.alloc (.cells #[.string varyN, .string vVal] 29)) ⟨(w.alloc (.cells #[.string varyN, .string vVal] 29)).alloc (.cells #[.int .i64 0, .string ⟨#[]⟩, .slice (some ⟨w.heap.size, 0, none⟩) 1 1, .slice none 0 0] 43), (Below.refl _ _).alloc (Nat.le_refl _) _⟩ h
    rw [← hw0]
    exact h2
  have hlt : w.heap.size + 1 < w0.heap.size := by rw [← hw0]; simp
  have HSEE : Hid (∀ x, Below w0.heap.size w0 x → x.cell? ⟨w.heap.size + 1, 0, none⟩ = some (.int .i64 0) ∧ x.cell? ⟨w.heap.size + 1, 1, none⟩ = some (.string ⟨#[]⟩) ∧ x.cell? ⟨w.heap.size + 1, 2, none⟩ = some (.slice (some ⟨w.heap.size, 0, none⟩) 1 1) ∧ x.cell? ⟨w.heap.size + 1, 3, none⟩ = some (.slice none 0 0)) := Lib.hid (fun x hx =>
    ⟨(hx.cell (p := ⟨w.heap.size + 1, 0, none⟩) hlt).trans c0, (hx.cell (p := ⟨w.heap.size + 1, 1, none⟩) hlt).trans c1, (hx.cell (p := ⟨w.heap.size + 1, 2, none⟩) hlt).trans c2, (hx.cell (p := ⟨w.heap.size + 1, 3, none⟩) hlt).trans c3⟩)
  have HFI : Hid (∀ x, Below w0.heap.size w0 x → FieldsIn x.heap.size x (some ⟨w.heap.size, 0, none⟩) vFs) := Lib.hid (fun x hx => kin_in (w := w0) ⟨x, hx⟩ hfi)
  have cN := names_any vFs 0 ⟨#[]⟩ (some ⟨w.heap.size, 0, none⟩) none 1 0 0 w0 hfi (few_lit rfl)
  unfold NamesPost at cN
  rw [vNames, vStar] at cN
  have CN := Lib.hid cN
  have HW0 := Lib.hid hw0
  have HB0 := Lib.hid hb0
  clear cN hw0 hb0 hfi hsz1
  unfold Yes
  go_enter Tryd.func19, Tryd.ntmps19
  go_wp2_with fail
  change Calls _ _ _ ((w.alloc (.cells #[.string varyN, .string vVal] 29)).alloc (.cells #[.int .i64 0, .string ⟨#[]⟩, .slice (some ⟨w.heap.size, 0, none⟩) 1 1, .slice none 0 0] 43)) _
  rw [HW0.out]
  refine CN.out.mono ?_
  rintro e w1 ⟨a1, d1, rfl, hrow, hb1⟩
  have HROW := Lib.hid hrow
  have HB1 := Lib.hid hb1
  clear hrow hb1 c0 c1 c2 c3
  obtain ⟨v1, hv1⟩ : ∃ v1, w1.alloc (.cells #[.string ⟨#[65]⟩, .string ⟨#[120, 32, 9, 32, 121]⟩, .string ⟨#[97]⟩, .string ⟨#[122]⟩] 29) = v1 := ⟨_, rfl⟩
  have hbv1 : Below w0.heap.size w0 v1 := by rw [← hv1]; exact HB1.out.alloc HB1.out.size _
  have hz1 : FieldsIn v1.heap.size v1 (some ⟨w1.heap.size, 0, none⟩) azFs := by
    have h := two_fields w1 (⟨#[65]⟩, ⟨#[120, 32, 9, 32, 121]⟩) (⟨#[97]⟩, ⟨#[122]⟩)
    have hs : w1.heap.size + 1 = v1.heap.size := by rw [← hv1]; simp
    rw [hs] at h
    rw [← hv1] at h ⊢
    exact h
  have cZ := normal_any azFs ⟨#[65]⟩ (some ⟨w1.heap.size, 0, none⟩) 2 v1 hz1 (few_lit rfl) (by decide)
  unfold NormPost at cZ
  rw [vNorm.1, vNorm.2] at cZ
  have e1 : (⟨(⟨#[120, 32, 121, 44, 32, 122]⟩ : ByteArray).data.toList.toArray⟩ : ByteArray) = ⟨#[120, 32, 121, 44, 32, 122]⟩ := rfl
  rw [e1] at cZ
  have CZ := Lib.hid cZ
  have HV1 := Lib.hid hv1
  have HBV1 := Lib.hid hbv1
  clear cZ hv1 hbv1 hz1 e1
  go_wp2_with fail
  change Calls _ _ _ (w1.alloc (.cells #[.string ⟨#[65]⟩, .string ⟨#[120, 32, 9, 32, 121]⟩, .string ⟨#[97]⟩, .string ⟨#[122]⟩] 29)) _
  rw [HV1.out]
  refine CZ.out.mono ?_
  rintro e w2 ⟨rfl, hb2⟩
  have HB2 := Lib.hid (HBV1.out.trans (hb2.mono HBV1.out.size))
  obtain ⟨v2, hv2⟩ : ∃ v2, w2.alloc (.cells #[.string ⟨#[97, 99, 99, 101, 112, 116]⟩, .string ⟨#[108, 97, 110, 103]⟩] 9) = v2 := ⟨_, rfl⟩
  have hbv2 : Below w0.heap.size w0 v2 := by rw [← hv2]; exact HB2.out.alloc HB2.out.size _
  have hs2 : StrsIn v2.heap.size v2 (some ⟨w2.heap.size, 0, none⟩) twoN := by
    have h := two_strs w2 ⟨#[97, 99, 99, 101, 112, 116]⟩ ⟨#[108, 97, 110, 103]⟩
    have hs : w2.heap.size + 1 = v2.heap.size := by rw [← hv2]; simp
    rw [hs] at h
    rw [← hv2] at h ⊢
    exact h
  have hw1v : Below w1.heap.size w1 v2 := by
    have h1 : Below w1.heap.size w1 v1 := by rw [← HV1.out]; exact (Below.refl _ _).alloc (Nat.le_refl _) _
    have h2 := h1.trans (hb2.mono h1.size)
    rw [← hv2]
    exact h2.alloc h2.size _
  have cS := strings_any twoN twoN a1 (some ⟨w2.heap.size, 0, none⟩) d1 2 v2 (strs_kin (w := w1) ⟨v2, hw1v⟩ HROW.out) hs2 (by decide) (by decide)
  rw [show rowsEq twoN twoN = true by decide +kernel] at cS
  unfold DrewPost at cS
  have CS := Lib.hid cS
  have HV2 := Lib.hid hv2
  have HBV2 := Lib.hid hbv2
  clear hb2 hv2 hbv2 hs2 hw1v cS
  go_wp2_with fail
  change Calls _ _ _ (w2.alloc (.cells #[.string ⟨#[97, 99, 99, 101, 112, 116]⟩, .string ⟨#[108, 97, 110, 103]⟩] 9)) _
  rw [HV2.out]
  refine CS.out.mono ?_
  rintro e w3 ⟨m3, rfl, rfl⟩
  have HB3 := Lib.hid (below_drewN HBV2.out m3)
  obtain ⟨w3, hw3⟩ : ∃ w3, v2.drewN m3 = w3 := ⟨_, rfl⟩
  rw [hw3] at HB3 ⊢
  have s3 := HSEE.out w3 HB3.out
  obtain ⟨c0, c1, c2, c3⟩ := s3
  have cM := match_any vFs [] [] 0 ⟨#[]⟩ (some ⟨w.heap.size, 0, none⟩) none none none 1 0 0 0 0 w3 (HFI.out w3 HB3.out) (nil_in _ _ _) (nil_in _ _ _) (few_lit rfl) nilFew nilFew
  rw [vMatch1] at cM
  have CM := Lib.hid cM
  clear hw3 cM
  go_wp2_with fail
  refine CM.out.mono ?_
  rintro e w4 ⟨rfl, hb4⟩
  have HB4 := Lib.hid (HB3.out.trans (hb4.mono HB3.out.size))
  clear hb4 c0 c1 c2 c3
  obtain ⟨v4, hv4⟩ : ∃ v4, w4.alloc (.cells #[.string ⟨#[97, 99, 99, 101, 112, 116]⟩, .string ⟨#[113]⟩] 29) = v4 := ⟨_, rfl⟩
  have hbv4 : Below w0.heap.size w0 v4 := by rw [← hv4]; exact HB4.out.alloc HB4.out.size _
  have hz4 : FieldsIn v4.heap.size v4 (some ⟨w4.heap.size, 0, none⟩) accFs := by
    have h := k_fields w4 ⟨#[97, 99, 99, 101, 112, 116]⟩ ⟨#[113]⟩
    have hs : w4.heap.size + 1 = v4.heap.size := by rw [← hv4]; simp
    rw [hs] at h
    rw [← hv4] at h ⊢
    exact h
  obtain ⟨c0, c1, c2, c3⟩ := HSEE.out w4 HB4.out
  have cM2 := match_any vFs [] accFs 0 ⟨#[]⟩ (some ⟨w.heap.size, 0, none⟩) none none (some ⟨w4.heap.size, 0, none⟩) 1 0 0 0 1 v4 (HFI.out v4 hbv4) (nil_in _ _ _) hz4 (few_lit rfl) nilFew (few_lit rfl)
  rw [vMatch2] at cM2
  have CM2 := Lib.hid cM2
  have HV4 := Lib.hid hv4
  have HBV4 := Lib.hid hbv4
  clear hv4 hbv4 hz4 cM2
  go_wp2_with fail
  change Calls _ _ _ (w4.alloc (.cells #[.string ⟨#[97, 99, 99, 101, 112, 116]⟩, .string ⟨#[113]⟩] 29)) _
  rw [HV4.out]
  refine CM2.out.mono ?_
  rintro e w5 ⟨rfl, hb5⟩
  have HF := Lib.hid (HB0.out.trans ((HBV4.out.trans (hb5.mono HBV4.out.size)).mono HB0.out.size))
  clear hb5 c0 c1 c2 c3
  go_wp2
  go_ret
  exact ⟨rfl, HF.out⟩
end Go.Proofs.YtkpkpfolgbpjbaaDoor
namespace Go.Proofs.YtkpkpfolgbpjbaaDoor
open Go.RowKit HeadMath HeadS VaryMath Go.Sort

def LightF (fs : List (ByteArray × ByteArray)) (m : Nat) : Prop := fs.length ≤ m ∧ ∀ j (h : j < fs.length), (fs[j]).1.size ≤ 300 ∧ (fs[j]).2.size ≤ 300
theorem LightF.few {fs : List (ByteArray × ByteArray)} {m : Nat} (h : LightF fs m) (hm : m ≤ 1000) : FewF fs := ⟨by have := h.1; omega, fun j hj => by have := h.2 j hj; omega⟩
/-- Whatever came in as a slice of fields. -/
def WideF (fs : List (ByteArray × ByteArray)) : Prop := fs.length ≤ maxLen ∧ ∀ j (h : j < fs.length), (fs[j]).1.size ≤ maxLen ∧ (fs[j]).2.size ≤ maxLen
theorem lightW_any (fs : List (ByteArray × ByteArray)) (a : Option Addr) (c most : Nat) (w : World) (hat : FieldsIn w.heap.size w a fs) (hw : WideF fs) (hm : most < 1000) :
    Calls Tryd.prog 17 #[.slice a fs.length c, .int .i64 most] w fun e w' => ∃ b : Bool, e = .returned (.bool b) ∧ w = w' ∧ (b = true → LightF fs most) := by
  obtain ⟨h1, h2⟩ := hw
  unfold maxLen at h1 h2
  refine (light_any fs a c fs.length most w hat rfl (by omega) (by omega) h2).mono ?_
  rintro e w' ⟨b, he, hw', hb⟩
  exact ⟨b, he, hw'.symm, fun h => hb h⟩
def LightRPost (fs : List (ByteArray × ByteArray)) (w : World) (e : Ending) (w' : World) : Prop := ∃ b : Bool, e = .returned (.bool b) ∧ Below w.heap.size w w' ∧ (b = true → LightF fs 15)
set_option maxRecDepth 100000 in
set_option maxHeartbeats 4000000 in
theorem lightR_any (fs : List (ByteArray × ByteArray)) (st : Int) (rs : ByteArray) (fa ba : Option Addr) (fc bn bc : Nat) (w : World) (hin : FieldsIn w.heap.size w fa fs) (hw : WideF fs) (hrs : rs.size ≤ maxLen) (hbn : bn ≤ maxLen) :
    Calls Tryd.prog 20 #[.agg #[.int .i64 st, .string rs, .slice fa fs.length fc, .slice ba bn bc]] w (LightRPost fs w) := by
  unfold maxLen at hrs hbn
  obtain ⟨w0, hw0⟩ : ∃ w0, w.alloc (.cells #[.int .i64 st, .string rs, .slice fa fs.length fc, .slice ba bn bc] 43) = w0 := ⟨_, rfl⟩
  have hb0 : Below w.heap.size w w0 := by rw [← hw0]; exact (Below.refl _ _).alloc (Nat.le_refl _) _
  have hcs := resp_cells (w := w) (t := 43) (cs := #[.int .i64 st, .string rs, .slice fa fs.length fc, .slice ba bn bc]) rfl
  obtain ⟨c0, c1, c2, c3⟩ := hcs
  have cL := lightW_any fs fa fc 15 w0 (kin_in (w := w) ⟨w0, hb0⟩ hin) hw (by omega)
  have CL := Lib.hid cL
  have HW0 := Lib.hid hw0
  have HB0 := Lib.hid hb0
  clear cL hb0 hin hw hw0
  by_cases h1 : rs.size ≤ 100
  · have q1 : (rs.size : Int) ≤ 100 := by omega
    go_enter Tryd.func20, Tryd.ntmps20
    go_wp2_with fail
    change Calls _ _ _ (w.alloc (.cells #[.int .i64 st, .string rs, .slice fa fs.length fc, .slice ba bn bc] 43)) _
    rw [HW0.out]
    refine CL.out.mono ?_
    rintro e w1 ⟨b, rfl, rfl, hb⟩
    have HL := Lib.hid hb
    clear hb
    rw [HW0.out] at c0 c1 c2 c3
    cases b with
    | false =>
      go_wp2
      go_ret
      exact ⟨false, rfl, HB0.out, fun h => by cases h⟩
    | true =>
      by_cases h2 : bn ≤ 1000
      · have q2 : (bn : Int) ≤ 1000 := by omega
        go_wp2
        go_ret
        exact ⟨true, by simp [q2], HB0.out, fun _ => HL.out trivial⟩
      · have q2 : ¬ (bn : Int) ≤ 1000 := by omega
        go_wp2
        go_ret
        exact ⟨false, by simp [q2], HB0.out, fun h => by cases h⟩
  · have q1 : ¬ (rs.size : Int) ≤ 100 := by omega
    go_enter Tryd.func20, Tryd.ntmps20
    go_wp2
    go_ret
    exact ⟨false, rfl, by rw [HW0.out]; exact HB0.out, fun h => by cases h⟩
end Go.Proofs.YtkpkpfolgbpjbaaDoor
namespace Go.Proofs.YtkpkpfolgbpjbaaDoor
open Go.RowKit HeadMath HeadS VaryMath Go.Sort

theorem rowsEq_self (x : List ByteArray) : rowsEq x x = true := (rowsEq_iff x x).2 rfl
set_option maxRecDepth 100000 in
set_option maxHeartbeats 16000000 in
theorem lawNames_any (fs : List (ByteArray × ByteArray)) (st : Int) (rs : ByteArray) (fa ba : Option Addr) (fc bn bc : Nat) (l : List (ByteArray × ByteArray)) (al : Option Addr) (cl : Nat) (name : ByteArray) (w : World) (hin : FieldsIn w.heap.size w fa fs) (hil : FieldsIn w.heap.size w al l) (hw : WideF fs) (hwl : WideF l) (hrs : rs.size ≤ maxLen) (hbn : bn ≤ maxLen) (hnm : name.size ≤ 140737488351232) :
    Calls Tryd.prog 6 #[.agg #[.int .i64 st, .string rs, .slice fa fs.length fc, .slice ba bn bc], .slice al l.length cl, .string name] w (Yes w) := by
  obtain ⟨w0, hw0⟩ : ∃ w0, w.alloc (.cells #[.int .i64 st, .string rs, .slice fa fs.length fc, .slice ba bn bc] 43) = w0 := ⟨_, rfl⟩
  have hb0 : Below w.heap.size w w0 := by rw [← hw0]; exact (Below.refl _ _).alloc (Nat.le_refl _) _
  obtain ⟨c0, c1, c2, c3⟩ := (by have h := resp_cells (w := w) (t := 43) (cs := #[.int .i64 st, .string rs, .slice fa fs.length fc, .slice ba bn bc]) rfl; rw [hw0] at h; exact h : w0.cell? ⟨w.heap.size, 0, none⟩ = some (.int .i64 st) ∧ w0.cell? ⟨w.heap.size, 1, none⟩ = some (.string rs) ∧ w0.cell? ⟨w.heap.size, 2, none⟩ = some (.slice fa fs.length fc) ∧ w0.cell? ⟨w.heap.size, 3, none⟩ = some (.slice ba bn bc))
  have hlt : w.heap.size < w0.heap.size := by rw [← hw0]; simp
  have HSEE : Hid (∀ x, Below w0.heap.size w0 x → x.cell? ⟨w.heap.size, 0, none⟩ = some (.int .i64 st) ∧ x.cell? ⟨w.heap.size, 1, none⟩ = some (.string rs) ∧ x.cell? ⟨w.heap.size, 2, none⟩ = some (.slice fa fs.length fc) ∧ x.cell? ⟨w.heap.size, 3, none⟩ = some (.slice ba bn bc)) := Lib.hid (fun x hx =>
    ⟨(hx.cell (p := ⟨w.heap.size, 0, none⟩) hlt).trans c0, (hx.cell (p := ⟨w.heap.size, 1, none⟩) hlt).trans c1, (hx.cell (p := ⟨w.heap.size, 2, none⟩) hlt).trans c2, (hx.cell (p := ⟨w.heap.size, 3, none⟩) hlt).trans c3⟩)
  have HFI : Hid (∀ x, Below w0.heap.size w0 x → FieldsIn x.heap.size x fa fs ∧ FieldsIn x.heap.size x al l) := Lib.hid (fun x hx =>
    ⟨kin_in (w := w) ⟨x, hb0.trans (hx.mono hb0.size)⟩ hin, kin_in (w := w) ⟨x, hb0.trans (hx.mono hb0.size)⟩ hil⟩)
  have HW0 := Lib.hid hw0
  have HB0 := Lib.hid hb0
  have HWF := Lib.hid hw
  have HWL := Lib.hid hwl
  have HRS := Lib.hid hrs
  have HBN := Lib.hid hbn
  clear hw0 hb0 hin hil hw hwl hrs hbn hlt c0 c1 c2 c3
  unfold Yes
  go_enter Tryd.func6, Tryd.ntmps6
  go_wp2_with fail
  change Calls _ _ _ (w.alloc (.cells #[.int .i64 st, .string rs, .slice fa fs.length fc, .slice ba bn bc] 43)) _
  rw [HW0.out]
  refine (vknown_any w0).mono ?_
  rintro e w1 ⟨rfl, hb1⟩
  have HB1 := Lib.hid hb1
  clear hb1
  obtain ⟨c0, c1, c2, c3⟩ := HSEE.out w1 HB1.out
  go_wp2_with fail
  refine (lightR_any fs st rs fa ba fc bn bc w1 (HFI.out w1 HB1.out).1 HWF.out HRS.out HBN.out).mono ?_
  rintro e w2 ⟨lit, rfl, hb2, hlit⟩
  have HB2 := Lib.hid (HB1.out.trans (hb2.mono HB1.out.size))
  have HEND := Lib.hid (HB0.out.trans (HB2.out.mono HB0.out.size))
  clear hb2 c0 c1 c2 c3
  cases lit with
  | false =>
    clear hlit
    go_wp2
    go_ret
    exact ⟨rfl, HEND.out⟩
  | true =>
  have HLF := Lib.hid (hlit rfl)
  clear hlit
  go_wp2_with fail
  refine (lightW_any l al cl 20 w2 (HFI.out w2 HB2.out).2 HWL.out (by omega)).mono ?_
  rintro e w3 ⟨lit2, rfl, rfl, hlit⟩
  cases lit2 with
  | false =>
    clear hlit
    go_wp2
    go_ret
    exact ⟨rfl, HEND.out⟩
  | true =>
  have HLL := Lib.hid (hlit rfl)
  clear hlit
  by_cases h100 : (100 : Int) < name.size
  · go_wp2
    go_ret
    exact ⟨rfl, HEND.out⟩
  have hn6 : name.size ≤ 1000000 := by omega
  have HFF := Lib.hid (HLF.out.few (by omega))
  have HFL := Lib.hid (HLL.out.few (by omega))
  obtain ⟨N, hN⟩ : ∃ N, varyL (listF varyN fs) = N := ⟨_, rfl⟩
  obtain ⟨s, hs⟩ : ∃ s, starP (listF varyN fs) = s := ⟨_, rfl⟩
  obtain ⟨V, hV⟩ : ∃ V : ByteArray, (⟨(normF name l).toArray⟩ : ByteArray) = V := ⟨_, rfl⟩
  obtain ⟨ok, hok⟩ : ∃ ok, hasF name l = ok := ⟨_, rfl⟩
  have hnl : N.length ≤ 100000000000 := by rw [← hN]; exact Nat.le_trans (names_len _) (list_len HFF.out varyN)
  have cN := fun x hx => names_any fs st rs fa ba fc bn bc x (HFI.out x hx).1 HFF.out
  have cR := fun x hx => refNames_any fs st rs fa ba fc bn bc x (HFI.out x hx).1 HFF.out
  have cP := fun x hx => normal_any l name al cl x (HFI.out x hx).2 HFL.out hn6
  have cQ := fun x hx => refNormal_any l name al cl x (HFI.out x hx).2 HFL.out hn6
  unfold NamesPost at cN cR
  unfold NormPost at cP cQ
  simp only [hN, hs] at cN cR
  simp only [hV, hok] at cP cQ
  have CN := Lib.hid cN
  have CR := Lib.hid cR
  have CP := Lib.hid cP
  have CQ := Lib.hid cQ
  clear hN hs hV hok cN cR cP cQ
  obtain ⟨c0, c1, c2, c3⟩ := HSEE.out w2 HB2.out
  go_wp2_with fail
  refine (CN.out _ HB2.out).mono ?_
  rintro e w4 ⟨a4, d4, rfl, hr4, hb4⟩
  have HB4 := Lib.hid (HB2.out.trans (hb4.mono HB2.out.size))
  have HR4 := Lib.hid hr4
  clear hb4 hr4 c0 c1 c2 c3
  obtain ⟨c0, c1, c2, c3⟩ := HSEE.out w4 HB4.out
  go_wp2_with fail
  refine (CR.out _ HB4.out).mono ?_
  rintro e w5 ⟨a5, d5, rfl, hr5, hb5⟩
  have HB5 := Lib.hid (HB4.out.trans (hb5.mono HB4.out.size))
  have HR5 := Lib.hid hr5
  have H45 := Lib.hid hb5
  clear hb5 hr5 c0 c1 c2 c3
  go_wp2_with fail
  refine (CP.out _ HB5.out).mono ?_
  rintro e w6 ⟨rfl, hb6⟩
  have HB6 := Lib.hid (HB5.out.trans (hb6.mono HB5.out.size))
  have H56 := Lib.hid hb6
  clear hb6
  go_wp2_with fail
  refine (CQ.out _ HB6.out).mono ?_
  rintro e w7 ⟨rfl, hb7⟩
  have HB7 := Lib.hid (HB6.out.trans (hb7.mono HB6.out.size))
  have H57 := Lib.hid (H56.out.trans (hb7.mono H56.out.size))
  have H47 := Lib.hid (H45.out.trans (H57.out.mono H45.out.size))
  clear hb7
  have cS := strings_any N N a4 a5 d4 d5 w7 (strs_kin (w := w4) ⟨w7, H47.out⟩ HR4.out) (strs_kin (w := w5) ⟨w7, H57.out⟩ HR5.out) (by omega) (by omega)
  rw [rowsEq_self] at cS
  unfold DrewPost at cS
  have CS := Lib.hid cS
  clear cS
  go_wp2_with fail
  refine CS.out.mono ?_
  rintro e w8 ⟨m, rfl, rfl⟩
  have HF := Lib.hid (HB0.out.trans ((below_drewN HB7.out m).mono HB0.out.size))
  have hself : (V.toList == V.toList) = true := beq_self_eq_true _
  cases s <;> cases ok
  all_goals
    go_wp2
    go_ret
    exact ⟨rfl, HF.out⟩
end Go.Proofs.YtkpkpfolgbpjbaaDoor
namespace Go.Proofs.YtkpkpfolgbpjbaaDoor
open Go.ChangeShapes Go.WideShapes Go.ChangeAt Go.RowKit

section
variable {H : Type} {W : World} {enc : TypeId × Value → H}
set_option maxRecDepth 100000 in
theorem slice_lenV {t e : TypeId} {v : Value} {y : DataW H × List MemPlace} {fuel : Nat} (ht : Tryd.prog.underlying t = some (.slice e)) (hf : DataW.trod enc Tryd.prog W 0 (fun _ => true) true fuel t [v] = some y) :
    ∃ a n c, v = .slice a n c ∧ n ≤ 9223372036854775807 := by
  rcases Deep.open_slice ht hf with ⟨hcs, _⟩ | ⟨x, len', cap', m, n, D, Pl, hcs, _, h1, h2, _⟩
  · injection hcs with hcs; exact ⟨_, _, _, hcs, Nat.zero_le _⟩
  · injection hcs with hcs; exact ⟨_, _, _, hcs, Nat.le_trans h1 h2⟩
theorem fieldsAt_inV {w : World} {a : Option Addr} {fs : List (ByteArray × ByteArray)} (h : FieldsAt w a fs) : HeadS.FieldsIn w.heap.size w a fs := by
  intro j hj
  obtain ⟨b, off, h1, h2, h3⟩ := h j hj
  exact ⟨b, off, h1, cell_lt h2, h2, h3⟩
set_option maxRecDepth 100000 in
theorem response_open {v : Value} {d : DataW H} {p : List MemPlace} {r : Reach} {b0 : Nat} (hv : Value.okWide Tryd.prog W r b0 43 v) (h : DataW.Trod enc Tryd.prog W 0 (fun _ => true) true 43 v d p) :
    ∃ (st : Int) (rs : ByteArray) (fa : Option Addr) (fc : Nat) (fs : List (ByteArray × ByteArray)) (ba : Option Addr) (bn bc : Nat), v = .agg #[.int .i64 st, .string rs, .slice fa fs.length fc, .slice ba bn bc] ∧ HeadS.FieldsIn W.heap.size W fa fs ∧
      WideF fs ∧ rs.size ≤ maxLen ∧ bn ≤ maxLen := by
  obtain ⟨v0, v1, v2, v3, y0, y1, y2, y3, n, rfl, _, _, t0, t1, t2, t3⟩ := Joins.open_agg4 Tryd.underlying43 (by kernel_rfl) (by kernel_rfl) hv h
  obtain ⟨z0, e0, _, w0⟩ := DataW.trod_int Tryd.underlying3 t0
  obtain ⟨z1, e1, _, w1⟩ := DataW.trod_string Tryd.underlying9 t1
  obtain ⟨fs, fa, fc, rfl, hat, hl, _, _, hsz⟩ := fields_of_trod t2
  obtain ⟨ba, bn, bc, rfl, hb⟩ := slice_lenV Tryd.underlying38 t3
  injection e0 with e0; injection e1 with e1
  subst e0; subst e1
  have hmax : maxLen = 9223372036854775807 := rfl
  rw [← hmax] at hb
  exact ⟨z0, z1, fa, fc, fs, ba, bn, bc, rfl, fieldsAt_inV hat, ⟨hl, hsz⟩, w1, hb⟩
theorem fieldsV_open {d : DataW H} {p : List MemPlace} {fuel : Nat} {a : Option Addr} {len cap : Nat}
    (hf : DataW.trod enc Tryd.prog W 0 (fun _ => true) true fuel 30 (Value.slice a len cap).cells.toList = some (d, p)) :
    ∃ fs : List (ByteArray × ByteArray), fs.length = len ∧ HeadS.FieldsIn W.heap.size W a fs ∧ WideF fs := by
  obtain ⟨fs, h1, h2, h3, _, _, h4⟩ := fields_open hf
  exact ⟨fs, h1, fieldsAt_inV h2, by rw [h1]; exact h3, h4⟩
end
end Go.Proofs.YtkpkpfolgbpjbaaDoor
namespace Go.Proofs.YtkpkpfolgbpjbaaDoor
open Go.RowKit HeadMath HeadS VaryMath Go.Sort

theorem oneB_twice : ∀ (p : Bool) (l : List UInt8), oneB p (oneB p l) = oneB p l
  | _, [] => rfl
  | p, c :: r => by
    have h1 := oneB_twice true r
    have h2 := oneB_twice false r
    cases hb : blankB c with
    | true =>
      cases p with
      | true =>
        have e : oneB true (c :: r) = oneB true r := by simp [oneB, hb]
        rw [e, h1]
      | false =>
        have e : oneB false (c :: r) = 32 :: oneB true r := by simp [oneB, hb]
        rw [e]
        have hs : blankB 32 = true := rfl
        simp [oneB, hs, h1]
    | false =>
      have e : oneB p (c :: r) = c :: oneB false r := by simp [oneB, hb]
      rw [e]
      simp [oneB, hb, h2]
/-- Names in small letters, no two the same. -/
def Fine (N : List ByteArray) : Prop := N.Nodup ∧ ∀ n ∈ N, lowF n.data.toList = n.data.toList
theorem arrB_data (l : Bs) : (arrB l).data.toList = l := by simp [arrB]
theorem arrB_inj {a b : Bs} (h : arrB a = arrB b) : a = b := by
  have := congrArg (fun x : ByteArray => x.data.toList) h
  simpa [arrB] using this
theorem names_fine (r : List ByteArray) : Fine (varyL r) := by
  unfold varyL
  split
  · exact ⟨List.nodup_nil, fun n h => by cases h⟩
  · refine ⟨?_, fun n hn => ?_⟩
    · have h := once_asc (lowL r)
      unfold List.Nodup
      rw [List.pairwise_map]
      exact h.imp fun {a b} hab e => by
        have := arrB_inj e
        subst this
        exact List.lt_irrefl a hab
    · obtain ⟨b, hb, rfl⟩ := List.mem_map.1 hn
      have hb2 := (once_mem _ _).1 hb
      unfold lowL at hb2
      obtain ⟨p, _, rfl⟩ := List.mem_map.1 hb2
      rw [arrB_data, lowF_twice]
theorem same_fine {N : List ByteArray} (h : Fine N) {m n : ByteArray} (hm : m ∈ N) (hn : n ∈ N) : sameF m.data.toList n.data.toList = decide (m = n) := by
  unfold sameF
  rw [h.2 m hm, h.2 n hn]
  by_cases e : m = n
  · subst e; simp
  · rw [decide_eq_false e]
    rw [beq_eq_false_iff_ne]
    intro h2
    exact e (list_inj h2)
theorem allF_cons (n : ByteArray) (f : ByteArray × ByteArray) (l : List (ByteArray × ByteArray)) : allF n (f :: l) = (if isNamed n f then [f.2] else []) ++ allF n l := by
  unfold allF
  rw [List.filter_cons]
  split <;> simp_all
theorem keep_cons (A : List (ByteArray × ByteArray)) (m : ByteArray) (N : List ByteArray) : keepL A (m :: N) = (if hasF m A then [(m, arrB (normF m A))] else []) ++ keepL A N := by
  unfold keepL
  rw [List.filter_cons]
  cases h : hasF m A <;> simp [h]
open Classical in
theorem all_keep (A : List (ByteArray × ByteArray)) : ∀ (N : List ByteArray), Fine N → ∀ n, (∀ m ∈ N, sameF m.data.toList n.data.toList = decide (m = n)) → allF n (keepL A N) = if (n ∈ N ∧ hasF n A = true) then [arrB (normF n A)] else []
  | [], _, n, _ => by simp [keepL, allF]
  | m :: N, hf, n, hs => by
    obtain ⟨hd, hl⟩ := hf
    obtain ⟨hmn, hd2⟩ := List.nodup_cons.1 hd
    have ih := all_keep A N ⟨hd2, fun x hx => hl x (List.mem_cons_of_mem _ hx)⟩ n (fun x hx => hs x (List.mem_cons_of_mem _ hx))
    have hsm := hs m (by simp)
    rw [keep_cons]
    by_cases e : m = n
    · subst e
      have hno : allF m (keepL A N) = [] := by rw [ih, if_neg (fun h => hmn h.1)]
      cases hh : hasF m A with
      | true =>
        have hnm : isNamed m (m, arrB (normF m A)) = true := by unfold isNamed; rw [hsm]; simp
        rw [if_pos rfl, List.singleton_append, allF_cons, hnm, hno]
        simp
      | false =>
        rw [if_neg (by simp), List.nil_append, hno]
        simp
    · have hnm : ∀ v, isNamed n (m, v) = false := fun v => by unfold isNamed; rw [hsm]; exact decide_eq_false e
      have hmem : (n ∈ m :: N ∧ hasF n A = true) ↔ (n ∈ N ∧ hasF n A = true) := by
        rw [List.mem_cons]
        constructor
        · rintro ⟨h | h, h2⟩
          · exact absurd h.symm e
          · exact ⟨h, h2⟩
        · rintro ⟨h, h2⟩
          exact ⟨.inr h, h2⟩
      cases hh : hasF m A with
      | true =>
        rw [if_pos rfl, List.singleton_append, allF_cons, hnm, if_neg (by simp), List.nil_append, ih]
        by_cases hq : n ∈ N ∧ hasF n A = true
        · rw [if_pos hq, if_pos (hmem.2 hq)]
        · rw [if_neg hq, if_neg (fun h => hq (hmem.1 h))]
      | false =>
        rw [if_neg (by simp), List.nil_append, ih]
        by_cases hq : n ∈ N ∧ hasF n A = true
        · rw [if_pos hq, if_pos (hmem.2 hq)]
        · rw [if_neg hq, if_neg (fun h => hq (hmem.1 h))]
open Classical in
theorem norm_keep (r : List ByteArray) (A : List (ByteArray × ByteArray)) {n : ByteArray} (hn : n ∈ varyL r) : normF n (keepF r A) = normF n A ∧ hasF n (keepF r A) = hasF n A := by
  have hf := names_fine r
  have ha := all_keep A (varyL r) hf n (fun m hm => same_fine hf hm hn)
  cases hh : hasF n A with
  | true =>
    rw [if_pos ⟨hn, hh⟩] at ha
    have h1 : hasF n (keepF r A) = true := by unfold hasF keepF; rw [ha]; rfl
    refine ⟨?_, h1⟩
    have h2 : joinF n (keepF r A) = normF n A := by
      unfold joinF keepF
      rw [ha]
      simp [Lib.join_one, arrB_data]
    unfold normF at h2 ⊢
    rw [h2, oneB_twice]
  | false =>
    rw [if_neg (fun h => by rw [hh] at h; cases h.2)] at ha
    have h1 : hasF n (keepF r A) = false := by unfold hasF keepF; rw [ha]; rfl
    refine ⟨?_, h1⟩
    have h3 : allF n A = [] := by
      unfold hasF at hh
      cases h : allF n A with
      | nil => rfl
      | cons x y => rw [h] at hh; cases hh
    have h4 : joinF n (keepF r A) = joinF n A := by
      unfold joinF keepF
      rw [ha, h3]
    unfold normF
    rw [h4]
theorem same_keep (r : List ByteArray) (A B : List (ByteArray × ByteArray)) {n : ByteArray} (hn : n ∈ varyL r) : sameN (keepF r A) B n = sameN A B n := by
  unfold sameN
  rw [(norm_keep r A hn).1, (norm_keep r A hn).2]
theorem match_keep (r : List ByteArray) (A B : List (ByteArray × ByteArray)) : matchF r (keepF r A) B = matchF r A B := by
  unfold matchF
  congr 1
  rw [Bool.eq_iff_iff, List.all_eq_true, List.all_eq_true]
  constructor
  · intro h x hx; rw [← same_keep r A B hx]; exact h x hx
  · intro h x hx; rw [same_keep r A B hx]; exact h x hx
theorem match_self (r : List ByteArray) (A : List (ByteArray × ByteArray)) : matchF r A A = !starP r := by
  unfold matchF
  have : (varyL r).all (sameN A A) = true := by
    rw [List.all_eq_true]
    intro x _
    unfold sameN
    simp
  rw [this, Bool.and_true]
theorem match_kept (r : List ByteArray) (A : List (ByteArray × ByteArray)) : matchF r (keepF r A) A = !starP r := by rw [match_keep, match_self]
theorem keep_few {r : List ByteArray} {A : List (ByteArray × ByteArray)} (hr : ∀ p ∈ r, p.size ≤ 1000000) (hl : r.length ≤ 100000) (hs : ∀ n, (normF n A).length ≤ 1000000) : FewF (keepF r A) := by
  refine ⟨Nat.le_trans (keep_len A _) (Nat.le_trans (names_len r) hl), fun j hj => ?_⟩
  have hm : (keepF r A)[j] ∈ keepF r A := List.getElem_mem hj
  obtain ⟨f, hf⟩ : ∃ f, (keepF r A)[j] = f := ⟨_, rfl⟩
  rw [hf] at hm ⊢
  unfold keepF keepL at hm
  obtain ⟨n, hn, e⟩ := List.mem_map.1 hm
  have hn2 := (List.mem_filter.1 hn).1
  have h1 := names_size hr n hn2
  have h2 : (arrB (normF n A)).size ≤ 1000000 := by
    show (normF n A).toArray.size ≤ _
    simpa using hs n
  rw [← e]
  exact ⟨h1, h2⟩
theorem list_lenL {fs : List (ByteArray × ByteArray)} (h : LightF fs 15) (n : ByteArray) : (listF n fs).length ≤ 100000 := by
  have h1 := flat_len (l := allF n fs) (f := partsF) (m := 300) (fun v hv => Nat.le_trans (parts_len v v.size (Nat.le_refl _)) (all_size (fun j hj => (h.2 j hj).2) n v hv))
  have h2 := Nat.le_trans (all_len n fs) h.1
  unfold listF
  omega
theorem normF_lenL {fs : List (ByteArray × ByteArray)} (h : LightF fs 15) (n : ByteArray) : (normF n fs).length ≤ 1000000 := by
  obtain ⟨m, hm⟩ : ∃ m, m = 300 := ⟨_, rfl⟩
  have h1 := join_len ((allF n fs).map (·.data.toList)) m (fun x hx => by
    obtain ⟨y, hy, rfl⟩ := List.mem_map.1 hx
    rw [size_list, hm]
    exact all_size (fun j hj => (h.2 j hj).2) n y hy)
  rw [List.length_map] at h1
  have h2 := Nat.le_trans (all_len n fs) h.1
  have h3 : (allF n fs).length * (m + 2) ≤ 15 * (m + 2) := Nat.mul_le_mul_right (m + 2) h2
  have h4 := oneB_len false (joinF n fs)
  have h5 : (joinF n fs).length ≤ (allF n fs).length * (m + 2) := h1
  unfold normF
  omega
end Go.Proofs.YtkpkpfolgbpjbaaDoor
namespace Go.Proofs.YtkpkpfolgbpjbaaDoor
open Go.RowKit HeadMath HeadS VaryMath Go.Sort

theorem below_next {v x w' : World} (h : Below v.heap.size v x) (hb : Below x.heap.size x w') : Below v.heap.size v w' := h.trans (hb.mono h.size)
set_option maxRecDepth 100000 in
set_option maxHeartbeats 32000000 in
theorem lawMatches_any (fs : List (ByteArray × ByteArray)) (st : Int) (rs : ByteArray) (fa ba : Option Addr) (fc bn bc : Nat) (A B : List (ByteArray × ByteArray)) (aA aB : Option Addr) (cA cB : Nat) (w : World) (hin : FieldsIn w.heap.size w fa fs) (hA : FieldsIn w.heap.size w aA A) (hB : FieldsIn w.heap.size w aB B) (hw : WideF fs) (hwA : WideF A) (hwB : WideF B) (hrs : rs.size ≤ maxLen) (hbn : bn ≤ maxLen) :
    Calls Tryd.prog 7 #[.agg #[.int .i64 st, .string rs, .slice fa fs.length fc, .slice ba bn bc], .slice aA A.length cA, .slice aB B.length cB] w (Yes w) := by
  obtain ⟨w0, hw0⟩ : ∃ w0, w.alloc (.cells #[.int .i64 st, .string rs, .slice fa fs.length fc, .slice ba bn bc] 43) = w0 := ⟨_, rfl⟩
  have hb0 : Below w.heap.size w w0 := by rw [← hw0]; exact (Below.refl _ _).alloc (Nat.le_refl _) _
  obtain ⟨c0, c1, c2, c3⟩ := (by have h := resp_cells (w := w) (t := 43) (cs := #[.int .i64 st, .string rs, .slice fa fs.length fc, .slice ba bn bc]) rfl; rw [hw0] at h; exact h : w0.cell? ⟨w.heap.size, 0, none⟩ = some (.int .i64 st) ∧ w0.cell? ⟨w.heap.size, 1, none⟩ = some (.string rs) ∧ w0.cell? ⟨w.heap.size, 2, none⟩ = some (.slice fa fs.length fc) ∧ w0.cell? ⟨w.heap.size, 3, none⟩ = some (.slice ba bn bc))
  have hlt : w.heap.size < w0.heap.size := by rw [← hw0]; simp
  have HSEE : Hid (∀ x, Below w0.heap.size w0 x → x.cell? ⟨w.heap.size, 0, none⟩ = some (.int .i64 st) ∧ x.cell? ⟨w.heap.size, 1, none⟩ = some (.string rs) ∧ x.cell? ⟨w.heap.size, 2, none⟩ = some (.slice fa fs.length fc) ∧ x.cell? ⟨w.heap.size, 3, none⟩ = some (.slice ba bn bc)) := Lib.hid (fun x hx =>
    ⟨(hx.cell (p := ⟨w.heap.size, 0, none⟩) hlt).trans c0, (hx.cell (p := ⟨w.heap.size, 1, none⟩) hlt).trans c1, (hx.cell (p := ⟨w.heap.size, 2, none⟩) hlt).trans c2, (hx.cell (p := ⟨w.heap.size, 3, none⟩) hlt).trans c3⟩)
  have HFI : Hid (∀ x, Below w0.heap.size w0 x → FieldsIn x.heap.size x fa fs ∧ FieldsIn x.heap.size x aA A ∧ FieldsIn x.heap.size x aB B) := Lib.hid (fun x hx =>
    ⟨kin_in (w := w) ⟨x, hb0.trans (hx.mono hb0.size)⟩ hin, kin_in (w := w) ⟨x, hb0.trans (hx.mono hb0.size)⟩ hA, kin_in (w := w) ⟨x, hb0.trans (hx.mono hb0.size)⟩ hB⟩)
  have HW0 := Lib.hid hw0
  have HB0 := Lib.hid hb0
  have HWF := Lib.hid hw
  have HWA := Lib.hid hwA
  have HWB := Lib.hid hwB
  have HRS := Lib.hid hrs
  have HBN := Lib.hid hbn
  clear hw0 hb0 hin hA hB hw hwA hwB hrs hbn hlt c0 c1 c2 c3
  unfold Yes
  go_enter Tryd.func7, Tryd.ntmps7
  go_wp2_with fail
  change Calls _ _ _ (w.alloc (.cells #[.int .i64 st, .string rs, .slice fa fs.length fc, .slice ba bn bc] 43)) _
  rw [HW0.out]
  refine (vknown_any w0).mono ?_
  rintro e w1 ⟨rfl, hb1⟩
  have HB1 := Lib.hid hb1
  clear hb1
  obtain ⟨c0, c1, c2, c3⟩ := HSEE.out w1 HB1.out
  go_wp2_with fail
  refine (lightR_any fs st rs fa ba fc bn bc w1 (HFI.out w1 HB1.out).1 HWF.out HRS.out HBN.out).mono ?_
  rintro e w2 ⟨lit, rfl, hb2, hlit⟩
  have HB2 := Lib.hid (HB1.out.trans (hb2.mono HB1.out.size))
  have HEND := Lib.hid (HB0.out.trans (HB2.out.mono HB0.out.size))
  clear hb2 c0 c1 c2 c3
  cases lit with
  | false =>
    clear hlit
    go_wp2
    go_ret
    exact ⟨rfl, HEND.out⟩
  | true =>
  have HLF := Lib.hid (hlit rfl)
  clear hlit
  go_wp2_with fail
  refine (lightW_any A aA cA 15 w2 (HFI.out w2 HB2.out).2.1 HWA.out (by omega)).mono ?_
  rintro e w3 ⟨lit2, rfl, rfl, hlit⟩
  cases lit2 with
  | false =>
    clear hlit
    go_wp2
    go_ret
    exact ⟨rfl, HEND.out⟩
  | true =>
  have HLA := Lib.hid (hlit rfl)
  clear hlit
  go_wp2_with fail
  refine (lightW_any B aB cB 15 w2 (HFI.out w2 HB2.out).2.2 HWB.out (by omega)).mono ?_
  rintro e w3 ⟨lit3, rfl, rfl, hlit⟩
  cases lit3 with
  | false =>
    clear hlit
    go_wp2
    go_ret
    exact ⟨rfl, HEND.out⟩
  | true =>
  have HLB := Lib.hid (hlit rfl)
  clear hlit
  have HFF := Lib.hid (HLF.out.few (by omega))
  have HFA := Lib.hid (HLA.out.few (by omega))
  have HFB := Lib.hid (HLB.out.few (by omega))
  have HKF : Hid (FewF (keepF (listF varyN fs) A)) := Lib.hid (keep_few (list_size HFF.out varyN) (list_lenL HLF.out varyN) (normF_lenL HLA.out))
  have hkl := HKF.out.1
  have HM1 : Hid (matchF (listF varyN fs) (keepF (listF varyN fs) A) B = matchF (listF varyN fs) A B) := Lib.hid (match_keep _ A B)
  have HM2 : Hid (matchF (listF varyN fs) (keepF (listF varyN fs) A) A = !starP (listF varyN fs)) := Lib.hid (match_kept _ A)
  obtain ⟨K, hK⟩ : ∃ K, keepF (listF varyN fs) A = K := ⟨_, rfl⟩
  obtain ⟨s, hs⟩ : ∃ s, starP (listF varyN fs) = s := ⟨_, rfl⟩
  obtain ⟨m, hm⟩ : ∃ m, matchF (listF varyN fs) A B = m := ⟨_, rfl⟩
  rw [hK] at HKF HM1 HM2 hkl
  rw [hm] at HM1
  rw [hs] at HM2
  have cK := fun x hx => keep_any fs A st rs fa ba aA fc bn bc cA x (HFI.out x hx).1 (HFI.out x hx).2.1 HFF.out HFA.out
  have cQ := fun x hx => refKeep_any fs A st rs fa ba aA fc bn bc cA x (HFI.out x hx).1 (HFI.out x hx).2.1 HFF.out HFA.out
  have cN := fun x hx => refNames_any fs st rs fa ba fc bn bc x (HFI.out x hx).1 HFF.out
  have cM := fun x hx => match_any fs A B st rs fa ba aA aB fc bn bc cA cB x (HFI.out x hx).1 (HFI.out x hx).2.1 (HFI.out x hx).2.2 HFF.out HFA.out HFB.out
  have cR := fun x hx => refMatch_any fs A B st rs fa ba aA aB fc bn bc cA cB x (HFI.out x hx).1 (HFI.out x hx).2.1 (HFI.out x hx).2.2 HFF.out HFA.out HFB.out
  have cKA := fun x hx (ak : Option Addr) (ck : Nat) (hk : FieldsIn x.heap.size x ak K) => match_any fs K A st rs fa ba ak aA fc bn bc ck cA x (HFI.out x hx).1 hk (HFI.out x hx).2.1 HFF.out HKF.out HFA.out
  have cKB := fun x hx (ak : Option Addr) (ck : Nat) (hk : FieldsIn x.heap.size x ak K) => match_any fs K B st rs fa ba ak aB fc bn bc ck cB x (HFI.out x hx).1 hk (HFI.out x hx).2.2 HFF.out HKF.out HFB.out
  unfold KeepPost at cK cQ
  unfold NamesPost at cN
  simp only [hK] at cK cQ
  simp only [hs] at cN
  simp only [hm] at cM cR
  simp only [HM2.out] at cKA
  simp only [HM1.out] at cKB
  have CK := Lib.hid cK
  have CQ := Lib.hid cQ
  have CN := Lib.hid cN
  have CM := Lib.hid cM
  have CR := Lib.hid cR
  have CKA := Lib.hid cKA
  have CKB := Lib.hid cKB
  clear hK hs hm cK cQ cN cM cR cKA cKB
  obtain ⟨c0, c1, c2, c3⟩ := HSEE.out w2 HB2.out
  go_wp2_with fail
  refine (CK.out _ HB2.out).mono ?_
  rintro e w4 ⟨a4, d4, rfl, hr4, hb4⟩
  have HB4 := Lib.hid (HB2.out.trans (hb4.mono HB2.out.size))
  have HR4 := Lib.hid hr4
  clear hb4 hr4 c0 c1 c2 c3
  obtain ⟨c0, c1, c2, c3⟩ := HSEE.out w4 HB4.out
  go_wp2_with fail
  refine (CN.out _ HB4.out).mono ?_
  rintro e w5 ⟨a5, d5, rfl, _, hb5⟩
  have HB5 := Lib.hid (HB4.out.trans (hb5.mono HB4.out.size))
  have HR5 : Hid (FieldsIn w5.heap.size w5 a4 K) := Lib.hid (kin_in (w := w4) ⟨w5, hb5⟩ HR4.out)
  clear hb5 c0 c1 c2 c3
  -- the last region: everything at worlds above w5
  have HSEE5 : Hid (∀ x, Below w5.heap.size w5 x → x.cell? ⟨w.heap.size, 0, none⟩ = some (.int .i64 st) ∧ x.cell? ⟨w.heap.size, 1, none⟩ = some (.string rs) ∧ x.cell? ⟨w.heap.size, 2, none⟩ = some (.slice fa fs.length fc) ∧ x.cell? ⟨w.heap.size, 3, none⟩ = some (.slice ba bn bc)) := Lib.hid (fun x hx => HSEE.out x (below_next HB5.out hx))
  have HK5 : Hid (∀ x, Below w5.heap.size w5 x → FieldsIn x.heap.size x a4 K) := Lib.hid (fun x hx => kin_in (w := w5) ⟨x, hx⟩ HR5.out)
  have HFIN : Hid (∀ x, Below w5.heap.size w5 x → Below w.heap.size w x) := Lib.hid (fun x hx => below_next HB0.out (below_next HB5.out hx))
  have CM5 : Hid (∀ x, Below w5.heap.size w5 x → Calls Tryd.prog 27 #[.agg #[.int .i64 st, .string rs, .slice fa fs.length fc, .slice ba bn bc], .slice aA A.length cA, .slice aB B.length cB] x fun e w' => e = .returned (.bool m) ∧ Below w5.heap.size w5 w') := Lib.hid (fun x hx => (CM.out x (below_next HB5.out hx)).mono fun _ _ ⟨he, hb⟩ => ⟨he, below_next hx hb⟩)
  have CR5 : Hid (∀ x, Below w5.heap.size w5 x → Calls Tryd.prog 28 #[.agg #[.int .i64 st, .string rs, .slice fa fs.length fc, .slice ba bn bc], .slice aA A.length cA, .slice aB B.length cB] x fun e w' => e = .returned (.bool m) ∧ Below w5.heap.size w5 w') := Lib.hid (fun x hx => (CR.out x (below_next HB5.out hx)).mono fun _ _ ⟨he, hb⟩ => ⟨he, below_next hx hb⟩)
  have CKA5 : Hid (∀ x, Below w5.heap.size w5 x → Calls Tryd.prog 27 #[.agg #[.int .i64 st, .string rs, .slice fa fs.length fc, .slice ba bn bc], .slice a4 K.length d4, .slice aA A.length cA] x fun e w' => e = .returned (.bool (!s)) ∧ Below w5.heap.size w5 w') := Lib.hid (fun x hx => (CKA.out x (below_next HB5.out hx) a4 d4 (HK5.out x hx)).mono fun _ _ ⟨he, hb⟩ => ⟨he, below_next hx hb⟩)
  have CKB5 : Hid (∀ x, Below w5.heap.size w5 x → Calls Tryd.prog 27 #[.agg #[.int .i64 st, .string rs, .slice fa fs.length fc, .slice ba bn bc], .slice a4 K.length d4, .slice aB B.length cB] x fun e w' => e = .returned (.bool m) ∧ Below w5.heap.size w5 w') := Lib.hid (fun x hx => (CKB.out x (below_next HB5.out hx) a4 d4 (HK5.out x hx)).mono fun _ _ ⟨he, hb⟩ => ⟨he, below_next hx hb⟩)
  have CQ5 : Hid (∀ x, Below w5.heap.size w5 x → Calls Tryd.prog 30 #[.agg #[.int .i64 st, .string rs, .slice fa fs.length fc, .slice ba bn bc], .slice aA A.length cA] x fun e w' => ∃ a c, e = .returned (.slice a K.length c) ∧ Below w5.heap.size w5 w' ∧ Hid (FieldsIn w'.heap.size w' a K)) := Lib.hid (fun x hx => (CQ.out x (below_next HB5.out hx)).mono fun _ _ ⟨a, c, he, hi, hb⟩ => ⟨a, c, he, below_next hx hb, Lib.hid hi⟩)
  have CF5 : Hid (∀ x a c, Below w5.heap.size w5 x → Hid (FieldsIn x.heap.size x a K) → Calls Tryd.prog 29 #[.slice a4 K.length d4, .slice a K.length c] x fun e w' => e = .returned (.bool true) ∧ Below w5.heap.size w5 w') := Lib.hid (fun x a c hx hi => (fields_same K a4 a d4 c x (HK5.out x hx) hi.out (by omega)).mono fun _ _ ⟨he, n, hw'⟩ => ⟨he, by rw [hw']; exact below_drewN hx n⟩)
  clear CK CQ CN CM CR CKA CKB HSEE HFI HB5 HR5 HB4 HR4 HB2 HB1 HEND hkl
  have hbd : Below w5.heap.size w5 w5.drew := (Below.refl _ _).drew
  cases m <;> cases s
  all_goals
    go_wp2
    go_region_held3 (fun x => x.cell? ⟨w.heap.size, 0, none⟩ = some (.int .i64 st) ∧ x.cell? ⟨w.heap.size, 1, none⟩ = some (.string rs) ∧ x.cell? ⟨w.heap.size, 2, none⟩ = some (.slice fa fs.length fc) ∧ x.cell? ⟨w.heap.size, 3, none⟩ = some (.slice ba bn bc))
      (first | exact HSEE5.out _ (by assumption) | go_keep)
      (first
        | (go_simp
           go_at_call 27
           (with_reducible refine Calls.mono (CM5.out _ (by assumption)) ?_)
           rintro e wn ⟨rfl, hbn⟩)
        | (go_simp
           go_at_call 27
           (with_reducible refine Calls.mono (CKA5.out _ (by assumption)) ?_)
           rintro e wn ⟨rfl, hbn⟩)
        | (go_simp
           go_at_call 27
           (with_reducible refine Calls.mono (CKB5.out _ (by assumption)) ?_)
           rintro e wn ⟨rfl, hbn⟩)
        | (go_simp
           go_at_call 28
           (with_reducible refine Calls.mono (CR5.out _ (by assumption)) ?_)
           rintro e wn ⟨rfl, hbn⟩)
        | (go_simp
           go_at_call 30
           (with_reducible refine Calls.mono (CQ5.out _ (by assumption)) ?_)
           rintro e wn ⟨ak, ck, rfl, hbn, hki⟩)
        | (go_simp
           go_at_call 29
           (with_reducible refine Calls.mono (CF5.out _ _ _ (by assumption) (by assumption)) ?_)
           rintro e wn ⟨rfl, hbn⟩))
    have HF := Lib.hid (HFIN.out wn hbn)
    go_wp2
    go_ret
    exact ⟨rfl, HF.out⟩
end Go.Proofs.YtkpkpfolgbpjbaaDoor
namespace Go.Proofs.YtkpkpfolgbpjbaaDoor
open Go.RowKit HeadMath HeadS VaryMath Go.Sort

/-- A piece: small letters, or a star. -/
def PieceS (p : List UInt8) : Prop := (∀ c ∈ p, 97 ≤ c.toNat ∧ c.toNat ≤ 122) ∨ p = [42]
def textS (ps : List (List UInt8)) : List UInt8 := ps.flatMap fun p => p ++ [44, 32]
theorem textS_snoc (ps : List (List UInt8)) (p : List UInt8) : textS (ps ++ [p]) = textS ps ++ (p ++ [44, 32]) := by simp [textS]
theorem piece_closed {p : List UInt8} (h : PieceS p) : Closed p := by
  refine Closed.plain (fun c hc => ?_)
  rcases h with h | h
  · have := h c hc
    constructor
    · intro e; subst e; exact absurd this.1 (by decide)
    · intro e; subst e; exact absurd this.1 (by decide)
  · subst h
    obtain rfl : c = 42 := by simpa using hc
    exact ⟨by decide, by decide⟩
theorem star_append {l m : List ByteArray} (h : starP m = true) : starP (l ++ m) = true := by
  unfold starP at *
  rw [List.any_append, h, Bool.or_true]
theorem star_text : ∀ (ps : List (List UInt8)) (u : List UInt8), (u = [] ∨ u = [32]) → (∀ p ∈ ps, PieceS p) → [42] ∈ ps → starP (partsF (arr (u ++ textS ps))) = true
  | [], _, _, _, h => by cases h
  | p :: ps, u, hu, hp, h => by
    have hpc := hp p (by simp)
    have e : u ++ textS (p :: ps) = (u ++ p) ++ 44 :: ([32] ++ textS ps) := by simp [textS]
    have hc : Closed (u ++ p) := by
      rcases hu with rfl | rfl
      · exact piece_closed hpc
      · exact Closed.append (plain_closed rfl) (piece_closed hpc)
    rw [e, parts_step _ _ _ hc (.inr rfl)]
    rcases List.mem_cons.1 h with h | h
    · subst h
      have : told (arr (trimF (u ++ [42]))) = [arr [42]] := by
        rcases hu with rfl | rfl <;> decide +kernel
      rw [this]
      unfold starP
      rw [List.any_append]
      rfl
    · exact star_append (star_text ps [32] (.inr rfl) (fun q hq => hp q (List.mem_cons_of_mem _ hq)) h)
theorem star_one : starP (partsF (⟨#[42]⟩ : ByteArray)) = true := by
  have := parts_join [⟨#[42]⟩] (by
    intro y hy
    obtain rfl : y = ⟨#[42]⟩ := by simpa using hy
    exact item_lit rfl)
  have e : partsF (⟨#[42]⟩ : ByteArray) = [⟨#[42]⟩] := by rw [← this]; rfl
  rw [e]
  rfl
theorem vary_all (s : ByteArray) : listF varyN [(varyN, s)] = partsF s := by
  have ha : allF varyN [(varyN, s)] = [s] := by
    unfold allF
    have : isNamed varyN (varyN, s) = true := by show sameF varyN.data.toList varyN.data.toList = true; decide +kernel
    simp [this]
  unfold listF
  rw [ha]
  show partsF s ++ [] = _
  rw [List.append_nil]
def StarAt (P : List (List UInt8)) (s : ByteArray) (q k : Nat) : Prop := s.data.toList = textS P ∧ (∀ p ∈ P, PieceS p) ∧ (q < k → [42] ∈ P)
def Letters (s : ByteArray) : Prop := ∀ c ∈ s.data.toList, 97 ≤ c.toNat ∧ c.toNat ≤ 122
theorem letters_snoc {s x : ByteArray} {j : Nat} (h : Letters s) (hj : j < x.size) (h1 : 97 ≤ x[j].toNat) (h2 : x[j].toNat ≤ 122) : Letters (s ++ x.extract j (j + 1)) ∧ (s ++ x.extract j (j + 1)).size = s.size + 1 := by
  have e : (x.extract j (j + 1)).data.toList = [x[j]] := by
    rw [Lib.extract_data]
    rw [List.drop_eq_getElem_cons (by rw [size_list]; exact hj)]
    simp
    rfl
  constructor
  · intro c hc
    rw [ByteArray.data_append, Array.toList_append, e] at hc
    rcases List.mem_append.1 hc with hc | hc
    · exact h c hc
    · obtain rfl : c = x[j] := by simpa using hc
      exact ⟨h1, h2⟩
  · rw [ByteArray.size_append, ByteArray.size_extract]
    omega
theorem star_next {P : List (List UInt8)} {s n : ByteArray} {q k : Nat} (h : StarAt P s q k) (hn : Letters n) (hq : ¬ k = q) : ∃ P', StarAt P' (s ++ n ++ ⟨#[44, 32]⟩) q (k + 1) := by
  refine ⟨P ++ [n.data.toList], ?_, ?_, ?_⟩
  · rw [textS_snoc, ← h.1, ByteArray.data_append, ByteArray.data_append]
    simp
  · intro p hp
    rcases List.mem_append.1 hp with hp | hp
    · exact h.2.1 p hp
    · obtain rfl : p = n.data.toList := by simpa using hp
      exact .inl hn
  · intro hk
    exact List.mem_append_left _ (h.2.2 (by omega))
theorem star_here {P : List (List UInt8)} {s n : ByteArray} {q k : Nat} (h : StarAt P s q k) (hn : Letters n) : ∃ P', StarAt P' (s ++ ⟨#[42, 44, 32]⟩ ++ n ++ ⟨#[44, 32]⟩) q (k + 1) := by
  refine ⟨P ++ [[42]] ++ [n.data.toList], ?_, ?_, ?_⟩
  · rw [textS_snoc, textS_snoc, ← h.1, ByteArray.data_append, ByteArray.data_append, ByteArray.data_append]
    simp
  · intro p hp
    rcases List.mem_append.1 hp with hp | hp
    · rcases List.mem_append.1 hp with hp | hp
      · exact h.2.1 p hp
      · obtain rfl : p = [42] := by simpa using hp
        exact .inr rfl
    · obtain rfl : p = n.data.toList := by simpa using hp
      exact .inl hn
  · intro _
    simp
theorem star_end {P : List (List UInt8)} {s : ByteArray} {q k : Nat} (h : StarAt P s q k) (hq : q < k) : starP (listF varyN [(varyN, s)]) = true := by
  have e : s = arr ([] ++ textS P) := by
    apply bytes_injC
    rw [h.1]
    simp [arr]
  rw [vary_all, e]
  exact star_text P [] (.inl rfl) h.2.1 (h.2.2 hq)
theorem star_names {s : ByteArray} (h : starP (listF varyN [(varyN, s)]) = true) : varyL (listF varyN [(varyN, s)]) = [] := by unfold varyL; rw [if_pos h]
theorem star_match {r : List ByteArray} (h : starP r = true) (A B : List (ByteArray × ByteArray)) : matchF r A B = false := by unfold matchF; rw [h]; rfl
theorem star_keep {r : List ByteArray} (h : starP r = true) (A : List (ByteArray × ByteArray)) : keepF r A = [] := by
  unfold keepF varyL
  rw [if_pos h]
  rfl
theorem match_none (A B : List (ByteArray × ByteArray)) : matchF (listF varyN []) A B = true := by
  have e : listF varyN [] = [] := rfl
  rw [e]
  rfl
set_option maxRecDepth 100000 in
set_option maxHeartbeats 16000000 in
theorem lawStar_any (A B : List (ByteArray × ByteArray)) (aA aB an : Option Addr) (cA cB cn t : Nat) (ns : List ByteArray) (w : World) (hA : FieldsIn w.heap.size w aA A) (hB : FieldsIn w.heap.size w aB B) (hns : StrsIn w.heap.size w an ns) (hwA : WideF A) (hwB : WideF B) (hnl : ns.length ≤ 9223372036854775807) (hnz : ∀ x ∈ ns, x.size ≤ 9223372036854775807) (ht : t < 256) :
    Calls Tryd.prog 9 #[.slice aA A.length cA, .slice aB B.length cB, .slice an ns.length cn, .int .u8 (t : Int)] w (Yes w) := by
  have HFI : Hid (∀ x, Below w.heap.size w x → FieldsIn x.heap.size x aA A ∧ FieldsIn x.heap.size x aB B ∧ StrsIn x.heap.size x an ns) := Lib.hid (fun x hx =>
    ⟨kin_in (w := w) ⟨x, hx⟩ hA, kin_in (w := w) ⟨x, hx⟩ hB, strs_kin (w := w) ⟨x, hx⟩ hns⟩)
  have HWA := Lib.hid hwA
  have HWB := Lib.hid hwB
  have HNZ := Lib.hid hnz
  clear hA hB hns hwA hwB hnz
  unfold Yes
  go_enter Tryd.func9, Tryd.ntmps9
  go_wp2_with fail
  refine (vknown_any w).mono ?_
  rintro e w1 ⟨rfl, hb1⟩
  have HB1 := Lib.hid hb1
  clear hb1
  go_wp2_with fail
  refine (lightW_any A aA cA 10 w1 (HFI.out w1 HB1.out).1 HWA.out (by omega)).mono ?_
  rintro e w3 ⟨lit, rfl, rfl, hlit⟩
  cases lit with
  | false =>
    clear hlit
    go_wp2
    go_ret
    exact ⟨rfl, HB1.out⟩
  | true =>
  have HLA := Lib.hid (hlit rfl)
  clear hlit
  go_wp2_with fail
  refine (lightW_any B aB cB 10 w1 (HFI.out w1 HB1.out).2.1 HWB.out (by omega)).mono ?_
  rintro e w3 ⟨lit2, rfl, rfl, hlit⟩
  cases lit2 with
  | false =>
    clear hlit
    go_wp2
    go_ret
    exact ⟨rfl, HB1.out⟩
  | true =>
  have HLB := Lib.hid (hlit rfl)
  clear hlit
  obtain ⟨nn, hnn⟩ : ∃ nn, ns.length = nn := ⟨_, rfl⟩
  have HNN := Lib.hid hnn
  rw [hnn] at hnl
  rw [hnn]
  clear hnn
  by_cases h5 : 5 < nn
  · have q5 : (5 : Int) < (nn : Int) := by omega
    go_wp2
    go_ret
    exact ⟨rfl, HB1.out⟩
  have q5 : ¬ (5 : Int) < (nn : Int) := by omega
  have HFA := Lib.hid (HLA.out.few (by omega))
  have HFB := Lib.hid (HLB.out.few (by omega))
  obtain ⟨q, hq⟩ : ∃ q, t % nn = q := ⟨_, rfl⟩
  have HQ : Hid (0 < nn → q < nn) := Lib.hid (fun h => by rw [← hq]; exact Nat.mod_lt _ h)
  have e1 : (t : Int).tmod (nn : Int) = (q : Int) := by rw [Int.tmod_eq_emod_of_nonneg (by omega), ← hq]; simp
  have e2 : (t : Int) % (nn : Int) = (q : Int) := by rw [← hq]; simp
  clear hq
  go_wp2
  go_loop [9, 10] (fun v i => ∃ (k : Nat) (s : ByteArray), k ≤ nn ∧ i = .int .i64 k ∧ v = .string s ∧ s.size ≤ 40 * k ∧ Hid (∃ P, StarAt P s q k)) (fun _ i => nn - (intOf i).toNat)
  case atStart => exact ⟨0, ⟨#[]⟩, Nat.zero_le _, rfl, rfl, Nat.zero_le _, Lib.hid ⟨[], rfl, (fun _ h => by cases h), (fun h => absurd h (Nat.not_lt_zero _))⟩⟩
  case round =>
    obtain ⟨k, s, hk, rfl, rfl, hss, HP⟩ := hrel
    by_cases hkl : k < nn
    · have hkn : k < ns.length := by rw [HNN.out]; exact hkl
      obtain ⟨b, off, rfl, _, hc0⟩ := (HFI.out w1 HB1.out).2.2 k hkn
      have hz := HNZ.out _ (List.getElem_mem hkn)
      obtain ⟨x, hx⟩ : ∃ x, ns[k] = x := ⟨_, rfl⟩
      rw [hx] at hc0 hz
      clear hx
      by_cases h30 : 30 < x.size
      · have q30 : (30 : Int) < (x.size : Int) := by omega
        go_wp2
        go_ret
        exact ⟨rfl, HB1.out⟩
      · have q30 : ¬ (30 : Int) < (x.size : Int) := by omega
        go_wp2
        go_loop [11, 12] (fun v i => ∃ (j : Nat) (n : ByteArray), j ≤ x.size ∧ i = .int .i64 j ∧ v = .string n ∧ n.size ≤ j ∧ Hid (Letters n)) (fun _ i => x.size - (intOf i).toNat)
        case atStart => exact ⟨0, ⟨#[]⟩, Nat.zero_le _, rfl, rfl, Nat.zero_le _, Lib.hid (fun c hc => by cases hc)⟩
        case round =>
          obtain ⟨j, n, hj, rfl, rfl, hns, HL⟩ := hrel
          by_cases hjl : j < x.size
          · have HSN := Lib.hid (fun h1 h2 => letters_snoc HL.out hjl h1 h2)
            by_cases g1 : 97 ≤ x[j].toNat
            · by_cases g2 : x[j].toNat ≤ 122
              · have h3 := HSN.out g1 g2
                have HN3 := Lib.hid h3.1
                have hs3 := h3.2
                have hse : (x.extract j (j + 1)).size = 1 := by rw [ByteArray.size_extract]; omega
                have q1 : ¬ 9223372036854775807 < n.size + (x.extract j (j + 1)).size := by omega
                have hs4 : (n ++ x.extract j (j + 1)).size ≤ j + 1 := by omega
                have HS4 := Lib.hid hs4
                clear h3 hs3 hs4 hse
                go_wp2
                go_round
                case rel => exact ⟨j + 1, _, by omega, by go_num, rfl, HS4.out, HN3⟩
                case measure => simp [intOf]; omega
              · go_wp2
                go_round
                case rel => exact ⟨j + 1, n, by omega, by go_num, rfl, by omega, HL⟩
                case measure => simp [intOf]; omega
            · go_wp2
              go_round
              case rel => exact ⟨j + 1, n, by omega, by go_num, rfl, by omega, HL⟩
              case measure => simp [intOf]; omega
          · by_cases hkq : k = q
            · have HV : Hid (∃ P', StarAt P' (s ++ ⟨#[42, 44, 32]⟩ ++ n ++ ⟨#[44, 32]⟩) q (k + 1)) := Lib.hid (by obtain ⟨P, hP⟩ := HP.out; exact star_here hP HL.out)
              have g3 : ((k : Int) == (q : Int)) = true := by rw [beq_iff_eq]; omega
              have q1 : ¬ 9223372036854775807 < s.size + 3 := by omega
              have q2 : ¬ 9223372036854775807 < s.size + 3 + n.size := by omega
              have q3 : ¬ 9223372036854775807 < s.size + 3 + n.size + 2 := by omega
              have HSZ : Hid ((s ++ ⟨#[42, 44, 32]⟩ ++ n ++ ⟨#[44, 32]⟩).size ≤ 40 * (k + 1)) := Lib.hid (by
                rw [ByteArray.size_append, ByteArray.size_append, ByteArray.size_append]
                have h1 : (⟨#[42, 44, 32]⟩ : ByteArray).size = 3 := rfl
                have h2 : (⟨#[44, 32]⟩ : ByteArray).size = 2 := rfl
                omega)
              clear hkq
              go_wp2
              go_round
              case rel => exact ⟨k + 1, _, by omega, by go_num, rfl, HSZ.out, HV⟩
              case measure => simp [intOf]; omega
            · have HV : Hid (∃ P', StarAt P' (s ++ n ++ ⟨#[44, 32]⟩) q (k + 1)) := Lib.hid (by obtain ⟨P, hP⟩ := HP.out; exact star_next hP HL.out hkq)
              have g3 : ((k : Int) == (q : Int)) = false := by rw [beq_eq_false_iff_ne]; omega
              have q2 : ¬ 9223372036854775807 < s.size + n.size := by omega
              have q3 : ¬ 9223372036854775807 < s.size + n.size + 2 := by omega
              have HSZ : Hid ((s ++ n ++ ⟨#[44, 32]⟩).size ≤ 40 * (k + 1)) := Lib.hid (by
                rw [ByteArray.size_append, ByteArray.size_append]
                have h2 : (⟨#[44, 32]⟩ : ByteArray).size = 2 := rfl
                omega)
              clear hkq
              go_wp2
              go_round
              case rel => exact ⟨k + 1, _, by omega, by go_num, rfl, HSZ.out, HV⟩
              case measure => simp [intOf]; omega
    · have hkn : k = nn := by omega
      have hss2 : s.size ≤ 1000 := by omega
      have HPN : Hid (0 < nn → starP (listF varyN [(varyN, s)]) = true) := Lib.hid (fun h => by
        obtain ⟨P, hP⟩ := HP.out
        exact star_end hP (by rw [hkn]; exact HQ.out h))
      clear hkn
      -- what stands behind the loop, for whatever text has a star in it
      have HREST : Hid (∀ s : ByteArray, s.size ≤ 1000 → starP (listF varyN [(varyN, s)]) = true → True) := Lib.hid (fun _ _ _ => trivial)
      by_cases h0 : nn = 0
      · have g4 : ((nn : Int) == 0) = true := by rw [beq_iff_eq]; omega
        have hst : starP (listF varyN [(varyN, (⟨#[42]⟩ : ByteArray))]) = true := by rw [vary_all]; exact star_one
        obtain ⟨s', hs'⟩ : ∃ s' : ByteArray, (⟨#[42]⟩ : ByteArray) = s' := ⟨_, rfl⟩
        have hs1 : s'.size ≤ 1000 := by rw [← hs']; decide
        rw [hs'] at hst
        have HST := Lib.hid hst
        have HS' := Lib.hid hs'
        clear hst hs' h0 hss2
        obtain ⟨w0, hw0⟩ : ∃ w0, (w1.alloc (.cells #[.string varyN, .string s'] 29)).alloc (.cells #[.int .i64 0, .string ⟨#[]⟩, .slice (some ⟨w1.heap.size, 0, none⟩) 1 1, .slice none 0 0] 43) = w0 := ⟨_, rfl⟩
        have hb0 : Below w1.heap.size w1 w0 := by rw [← hw0]; exact (((Spares.refl nowhere w1).alloc _).alloc _).below0
        have hsz1 : (w1.alloc (.cells #[.string varyN, .string s'] 29)).heap.size = w1.heap.size + 1 := by simp
        obtain ⟨c0, c1, c2, c3⟩ := (by have h := resp_cells (w := w1.alloc (.cells #[.string varyN, .string s'] 29)) (t := 43) (cs := #[.int .i64 0, .string ⟨#[]⟩, .slice (some ⟨w1.heap.size, 0, none⟩) 1 1, .slice none 0 0]) rfl; rw [hw0, hsz1] at h; exact h : w0.cell? ⟨w1.heap.size + 1, 0, none⟩ = some (.int .i64 0) ∧ w0.cell? ⟨w1.heap.size + 1, 1, none⟩ = some (.string ⟨#[]⟩) ∧ w0.cell? ⟨w1.heap.size + 1, 2, none⟩ = some (.slice (some ⟨w1.heap.size, 0, none⟩) 1 1) ∧ w0.cell? ⟨w1.heap.size + 1, 3, none⟩ = some (.slice none 0 0))
        have hfi : FieldsIn w0.heap.size w0 (some ⟨w1.heap.size, 0, none⟩) [(varyN, s')] := by
          have h := k_fields w1 varyN s'
          rw [← hsz1] at h
          have h2 := kin_in (w := w1.alloc (.cells #[.string varyN, .string s'] 29)) ⟨(w1.alloc (.cells #[.string varyN, .string s'] 29)).alloc (.cells #[.int .i64 0, .string ⟨#[]⟩, .slice (some ⟨w1.heap.size, 0, none⟩) 1 1, .slice none 0 0] 43), (Below.refl _ _).alloc (Nat.le_refl _) _⟩ h
          rw [← hw0]
          exact h2
        have hlt : w1.heap.size + 1 < w0.heap.size := by rw [← hw0]; simp
        have HSEE : Hid (∀ x, Below w0.heap.size w0 x → x.cell? ⟨w1.heap.size + 1, 0, none⟩ = some (.int .i64 0) ∧ x.cell? ⟨w1.heap.size + 1, 1, none⟩ = some (.string ⟨#[]⟩) ∧ x.cell? ⟨w1.heap.size + 1, 2, none⟩ = some (.slice (some ⟨w1.heap.size, 0, none⟩) 1 1) ∧ x.cell? ⟨w1.heap.size + 1, 3, none⟩ = some (.slice none 0 0)) := Lib.hid (fun x hx =>
          ⟨(hx.cell (p := ⟨w1.heap.size + 1, 0, none⟩) hlt).trans c0, (hx.cell (p := ⟨w1.heap.size + 1, 1, none⟩) hlt).trans c1, (hx.cell (p := ⟨w1.heap.size + 1, 2, none⟩) hlt).trans c2, (hx.cell (p := ⟨w1.heap.size + 1, 3, none⟩) hlt).trans c3⟩)
        have HF0 : Hid (∀ x, Below w0.heap.size w0 x → FieldsIn x.heap.size x (some ⟨w1.heap.size, 0, none⟩) [(varyN, s')]) := Lib.hid (fun x hx => kin_in (w := w0) ⟨x, hx⟩ hfi)
        have hbw0 : Below w.heap.size w w0 := HB1.out.trans (hb0.mono HB1.out.size)
        have HAB : Hid (∀ x, Below w0.heap.size w0 x → (FieldsIn x.heap.size x aA A ∧ FieldsIn x.heap.size x aB B) ∧ Below w.heap.size w x) := Lib.hid (fun x hx => by
          have hh := hbw0.trans (hx.mono hbw0.size)
          exact ⟨⟨(HFI.out x hh).1, (HFI.out x hh).2.1⟩, hh⟩)
        have hf1 : FewF [(varyN, s')] := ⟨by show 1 ≤ 100000; omega, fun j hj => by
          obtain rfl : j = 0 := by simpa using hj
          exact ⟨by show varyN.size ≤ 1000000; decide, by show s'.size ≤ 1000000; omega⟩⟩
        have cN := fun x hx => names_any [(varyN, s')] 0 ⟨#[]⟩ (some ⟨w1.heap.size, 0, none⟩) none 1 0 0 x (HF0.out x hx) hf1
        have cM := fun x hx => match_any [(varyN, s')] A B 0 ⟨#[]⟩ (some ⟨w1.heap.size, 0, none⟩) none aA aB 1 0 0 cA cB x (HF0.out x hx) (HAB.out x hx).1.1 (HAB.out x hx).1.2 hf1 HFA.out HFB.out
        have cA' := fun x hx => match_any [(varyN, s')] A A 0 ⟨#[]⟩ (some ⟨w1.heap.size, 0, none⟩) none aA aA 1 0 0 cA cA x (HF0.out x hx) (HAB.out x hx).1.1 (HAB.out x hx).1.1 hf1 HFA.out HFA.out
        have cK := fun x hx => keep_any [(varyN, s')] A 0 ⟨#[]⟩ (some ⟨w1.heap.size, 0, none⟩) none aA 1 0 0 cA x (HF0.out x hx) (HAB.out x hx).1.1 hf1 HFA.out
        have cE := fun x hx => match_any [] A B 0 ⟨#[]⟩ none none aA aB 0 0 0 cA cB x (nil_in _ _ _) (HAB.out x hx).1.1 (HAB.out x hx).1.2 nilFew HFA.out HFB.out
        unfold NamesPost at cN
        unfold KeepPost at cK
        simp only [star_names HST.out, HST.out] at cN
        simp only [star_match HST.out] at cM cA'
        simp only [star_keep HST.out] at cK
        simp only [match_none] at cE
        have CN := Lib.hid cN
        have CM := Lib.hid cM
        have CA := Lib.hid cA'
        have CK := Lib.hid cK
        have CE := Lib.hid cE
        have HW0 := Lib.hid hw0
        clear hw0 hb0 hfi hsz1 hbw0 hf1 cN cM cA' cK cE
        go_wp2_with fail
        change Calls _ _ _ ((w1.alloc (.cells #[.string varyN, .string ⟨#[42]⟩] 29)).alloc (.cells #[.int .i64 0, .string ⟨#[]⟩, .slice (some ⟨w1.heap.size, 0, none⟩) 1 1, .slice none 0 0] 43)) _
        rw [HS'.out, HW0.out]
        refine (CN.out w0 (Below.refl _ _)).mono ?_
        rintro e w2 ⟨a2, d2, rfl, _, hb2⟩
        have HB2 := Lib.hid hb2
        clear hb2 c0 c1 c2 c3
        obtain ⟨c0, c1, c2, c3⟩ := HSEE.out w2 HB2.out
        go_wp2_with fail
        refine (CM.out w2 HB2.out).mono ?_
        rintro e w3 ⟨rfl, hb3⟩
        have HB3 := Lib.hid (HB2.out.trans (hb3.mono HB2.out.size))
        clear hb3 c0 c1 c2 c3
        obtain ⟨c0, c1, c2, c3⟩ := HSEE.out w3 HB3.out
        go_wp2_with fail
        refine (CA.out w3 HB3.out).mono ?_
        rintro e w4 ⟨rfl, hb4⟩
        have HB4 := Lib.hid (HB3.out.trans (hb4.mono HB3.out.size))
        clear hb4 c0 c1 c2 c3
        obtain ⟨c0, c1, c2, c3⟩ := HSEE.out w4 HB4.out
        go_wp2_with fail
        refine (CK.out w4 HB4.out).mono ?_
        rintro e w5 ⟨a5, d5, rfl, _, hb5⟩
        have HB5 := Lib.hid (HB4.out.trans (hb5.mono HB4.out.size))
        clear hb5 c0 c1 c2 c3
        go_wp2_with fail
        refine (CE.out w5 HB5.out).mono ?_
        rintro e w6 ⟨rfl, hb6⟩
        have HB6 := Lib.hid (HB5.out.trans (hb6.mono HB5.out.size))
        have HF := Lib.hid (HAB.out w6 HB6.out).2
        clear hb6
        go_wp2
        go_ret
        exact ⟨rfl, HF.out⟩
      · have g4 : ((nn : Int) == 0) = false := by rw [beq_eq_false_iff_ne]; omega
        have HST := Lib.hid (HPN.out (by omega))
        clear h0
        obtain ⟨w0, hw0⟩ : ∃ w0, (w1.alloc (.cells #[.string varyN, .string s] 29)).alloc (.cells #[.int .i64 0, .string ⟨#[]⟩, .slice (some ⟨w1.heap.size, 0, none⟩) 1 1, .slice none 0 0] 43) = w0 := ⟨_, rfl⟩
        have hb0 : Below w1.heap.size w1 w0 := by rw [← hw0]; exact (((Spares.refl nowhere w1).alloc _).alloc _).below0
        have hsz1 : (w1.alloc (.cells #[.string varyN, .string s] 29)).heap.size = w1.heap.size + 1 := by simp
        obtain ⟨c0, c1, c2, c3⟩ := (by have h := resp_cells (w := w1.alloc (.cells #[.string varyN, .string s] 29)) (t := 43) (cs := #[.int .i64 0, .string ⟨#[]⟩, .slice (some ⟨w1.heap.size, 0, none⟩) 1 1, .slice none 0 0]) rfl; rw [hw0, hsz1] at h; exact h : w0.cell? ⟨w1.heap.size + 1, 0, none⟩ = some (.int .i64 0) ∧ w0.cell? ⟨w1.heap.size + 1, 1, none⟩ = some (.string ⟨#[]⟩) ∧ w0.cell? ⟨w1.heap.size + 1, 2, none⟩ = some (.slice (some ⟨w1.heap.size, 0, none⟩) 1 1) ∧ w0.cell? ⟨w1.heap.size + 1, 3, none⟩ = some (.slice none 0 0))
        have hfi : FieldsIn w0.heap.size w0 (some ⟨w1.heap.size, 0, none⟩) [(varyN, s)] := by
          have h := k_fields w1 varyN s
          rw [← hsz1] at h
          have h2 := kin_in (w := w1.alloc (.cells #[.string varyN, .string s] 29)) ⟨(w1.alloc (.cells #[.string varyN, .string s] 29)).alloc (.cells #[.int .i64 0, .string ⟨#[]⟩, .slice (some ⟨w1.heap.size, 0, none⟩) 1 1, .slice none 0 0] 43), (Below.refl _ _).alloc (Nat.le_refl _) _⟩ h
          rw [← hw0]
          exact h2
        have hlt : w1.heap.size + 1 < w0.heap.size := by rw [← hw0]; simp
        have HSEE : Hid (∀ x, Below w0.heap.size w0 x → x.cell? ⟨w1.heap.size + 1, 0, none⟩ = some (.int .i64 0) ∧ x.cell? ⟨w1.heap.size + 1, 1, none⟩ = some (.string ⟨#[]⟩) ∧ x.cell? ⟨w1.heap.size + 1, 2, none⟩ = some (.slice (some ⟨w1.heap.size, 0, none⟩) 1 1) ∧ x.cell? ⟨w1.heap.size + 1, 3, none⟩ = some (.slice none 0 0)) := Lib.hid (fun x hx =>
          ⟨(hx.cell (p := ⟨w1.heap.size + 1, 0, none⟩) hlt).trans c0, (hx.cell (p := ⟨w1.heap.size + 1, 1, none⟩) hlt).trans c1, (hx.cell (p := ⟨w1.heap.size + 1, 2, none⟩) hlt).trans c2, (hx.cell (p := ⟨w1.heap.size + 1, 3, none⟩) hlt).trans c3⟩)
        have HF0 : Hid (∀ x, Below w0.heap.size w0 x → FieldsIn x.heap.size x (some ⟨w1.heap.size, 0, none⟩) [(varyN, s)]) := Lib.hid (fun x hx => kin_in (w := w0) ⟨x, hx⟩ hfi)
        have hbw0 : Below w.heap.size w w0 := HB1.out.trans (hb0.mono HB1.out.size)
        have HAB : Hid (∀ x, Below w0.heap.size w0 x → (FieldsIn x.heap.size x aA A ∧ FieldsIn x.heap.size x aB B) ∧ Below w.heap.size w x) := Lib.hid (fun x hx => by
          have hh := hbw0.trans (hx.mono hbw0.size)
          exact ⟨⟨(HFI.out x hh).1, (HFI.out x hh).2.1⟩, hh⟩)
        have hf1 : FewF [(varyN, s)] := ⟨by show 1 ≤ 100000; omega, fun j hj => by
          obtain rfl : j = 0 := by simpa using hj
          exact ⟨by show varyN.size ≤ 1000000; decide, by show s.size ≤ 1000000; omega⟩⟩
        have cN := fun x hx => names_any [(varyN, s)] 0 ⟨#[]⟩ (some ⟨w1.heap.size, 0, none⟩) none 1 0 0 x (HF0.out x hx) hf1
        have cM := fun x hx => match_any [(varyN, s)] A B 0 ⟨#[]⟩ (some ⟨w1.heap.size, 0, none⟩) none aA aB 1 0 0 cA cB x (HF0.out x hx) (HAB.out x hx).1.1 (HAB.out x hx).1.2 hf1 HFA.out HFB.out
        have cA' := fun x hx => match_any [(varyN, s)] A A 0 ⟨#[]⟩ (some ⟨w1.heap.size, 0, none⟩) none aA aA 1 0 0 cA cA x (HF0.out x hx) (HAB.out x hx).1.1 (HAB.out x hx).1.1 hf1 HFA.out HFA.out
        have cK := fun x hx => keep_any [(varyN, s)] A 0 ⟨#[]⟩ (some ⟨w1.heap.size, 0, none⟩) none aA 1 0 0 cA x (HF0.out x hx) (HAB.out x hx).1.1 hf1 HFA.out
        have cE := fun x hx => match_any [] A B 0 ⟨#[]⟩ none none aA aB 0 0 0 cA cB x (nil_in _ _ _) (HAB.out x hx).1.1 (HAB.out x hx).1.2 nilFew HFA.out HFB.out
        unfold NamesPost at cN
        unfold KeepPost at cK
        simp only [star_names HST.out, HST.out] at cN
        simp only [star_match HST.out] at cM cA'
        simp only [star_keep HST.out] at cK
        simp only [match_none] at cE
        have CN := Lib.hid cN
        have CM := Lib.hid cM
        have CA := Lib.hid cA'
        have CK := Lib.hid cK
        have CE := Lib.hid cE
        have HW0 := Lib.hid hw0
        clear hw0 hb0 hfi hsz1 hbw0 hf1 cN cM cA' cK cE
        go_wp2_with fail
        change Calls _ _ _ ((w1.alloc (.cells #[.string varyN, .string s] 29)).alloc (.cells #[.int .i64 0, .string ⟨#[]⟩, .slice (some ⟨w1.heap.size, 0, none⟩) 1 1, .slice none 0 0] 43)) _
        rw [HW0.out]
        refine (CN.out w0 (Below.refl _ _)).mono ?_
        rintro e w2 ⟨a2, d2, rfl, _, hb2⟩
        have HB2 := Lib.hid hb2
        clear hb2 c0 c1 c2 c3
        obtain ⟨c0, c1, c2, c3⟩ := HSEE.out w2 HB2.out
        go_wp2_with fail
        refine (CM.out w2 HB2.out).mono ?_
        rintro e w3 ⟨rfl, hb3⟩
        have HB3 := Lib.hid (HB2.out.trans (hb3.mono HB2.out.size))
        clear hb3 c0 c1 c2 c3
        obtain ⟨c0, c1, c2, c3⟩ := HSEE.out w3 HB3.out
        go_wp2_with fail
        refine (CA.out w3 HB3.out).mono ?_
        rintro e w4 ⟨rfl, hb4⟩
        have HB4 := Lib.hid (HB3.out.trans (hb4.mono HB3.out.size))
        clear hb4 c0 c1 c2 c3
        obtain ⟨c0, c1, c2, c3⟩ := HSEE.out w4 HB4.out
        go_wp2_with fail
        refine (CK.out w4 HB4.out).mono ?_
        rintro e w5 ⟨a5, d5, rfl, _, hb5⟩
        have HB5 := Lib.hid (HB4.out.trans (hb5.mono HB4.out.size))
        clear hb5 c0 c1 c2 c3
        go_wp2_with fail
        refine (CE.out w5 HB5.out).mono ?_
        rintro e w6 ⟨rfl, hb6⟩
        have HB6 := Lib.hid (HB5.out.trans (hb6.mono HB5.out.size))
        have HF := Lib.hid (HAB.out w6 HB6.out).2
        clear hb6
        go_wp2
        go_ret
        exact ⟨rfl, HF.out⟩
end Go.Proofs.YtkpkpfolgbpjbaaDoor
namespace Go.Proofs.YtkpkpfolgbpjbaaDoor
open Go.RowKit Go.ChangeAt

theorem strsAt_inV {w : World} {a : Option Addr} {l : List ByteArray} (h : StrsAt w a l) : HeadS.StrsIn w.heap.size w a l := by
  intro j hj
  obtain ⟨b, off, h1, h2⟩ := h j hj
  exact ⟨b, off, h1, cell_lt h2, h2⟩
theorem u8_open {x : Int} (h : (Lit.int .u8 x).wf = true) : ∃ t : Nat, x = (t : Int) ∧ t < 256 := by
  have hb : 0 ≤ x ∧ x ≤ 255 := by simpa [Lit.wf, IntKind.wrap, IntKind.bits, IntKind.signed] using bounds_u8 (by simpa [Lit.wf, IntKind.wrap, IntKind.bits, IntKind.signed] using h)
  exact ⟨x.toNat, by omega, by omega⟩
end Go.Proofs.YtkpkpfolgbpjbaaDoor
namespace Go.Proofs.YtkpkpfolgbpjbaaDoor
open Go.RowKit HeadMath HeadS VaryMath Go.Sort

/-- The same for whoever makes each run of blanks one space, whatever stands behind. -/
def SameB (u v : List UInt8) : Prop := ∀ p x, oneB p (u ++ x) = oneB p (v ++ x)
theorem SameB.refl (u : List UInt8) : SameB u u := fun _ _ => rfl
theorem SameB.app {u v : List UInt8} (h : SameB u v) (z : List UInt8) : SameB (u ++ z) (v ++ z) := fun p x => by rw [List.append_assoc, List.append_assoc]; exact h p (z ++ x)
theorem SameB.pre {u v : List UInt8} (h : SameB u v) : ∀ (z : List UInt8), SameB (z ++ u) (z ++ v)
  | [] => h
  | c :: z => fun p x => by
    have h1 := SameB.pre h z true x
    have h2 := SameB.pre h z false x
    show oneB p (c :: (z ++ u ++ x)) = oneB p (c :: (z ++ v ++ x))
    simp only [oneB, h1, h2]
theorem SameB.trans {u v x : List UInt8} (h : SameB u v) (k : SameB v x) : SameB u x := fun p y => (h p y).trans (k p y)
theorem blank_in {c : UInt8} (hb : blankB c = true) : SameB [32, 9, c] [c] := fun p x => by
  have h1 : blankB 32 = true := rfl
  have h2 : blankB 9 = true := rfl
  cases p <;> simp [oneB, h1, h2, hb]
theorem same_put {u v : List UInt8} {c : UInt8} (h : SameB u v) (hb : blankB c = true) : SameB (u ++ [32, 9] ++ [c]) (v ++ [c]) := by
  rw [List.append_assoc]
  exact (h.app _).trans ((blank_in hb).pre v)
/-- Two lists, one by one the same. -/
def SameL : List ByteArray → List ByteArray → Prop
  | [], [] => True
  | x :: r, y :: m => SameB x.data.toList y.data.toList ∧ SameL r m
  | _, _ => False
theorem sameL_snoc : ∀ {l m : List ByteArray} {x y : ByteArray}, SameL l m → SameB x.data.toList y.data.toList → SameL (l ++ [x]) (m ++ [y])
  | [], [], _, _, _, h => ⟨h, trivial⟩
  | _ :: _, [], _, _, h, _ => h.elim
  | [], _ :: _, _, _, h, _ => h.elim
  | _ :: _, _ :: _, _, _, h, k => ⟨h.1, sameL_snoc h.2 k⟩
theorem same_tail : ∀ {l m : List ByteArray}, SameL l m → SameB (Lib.joinTail [44, 32] (l.map (·.data.toList))) (Lib.joinTail [44, 32] (m.map (·.data.toList)))
  | [], [], _ => SameB.refl _
  | _ :: _, [], h => h.elim
  | [], _ :: _, h => h.elim
  | x :: l, y :: m, h => by
    have ih := same_tail h.2
    have e : ∀ (z : ByteArray) (r : List ByteArray), Lib.joinTail [44, 32] ((z :: r).map (·.data.toList)) = [44, 32] ++ z.data.toList ++ Lib.joinTail [44, 32] (r.map (·.data.toList)) := fun z r => by simp [Lib.joinTail]
    rw [e, e]
    exact ((h.1.pre [44, 32]).app _).trans (ih.pre _)
theorem same_join {l m : List ByteArray} (h : SameL l m) : SameB (Lib.join (l.map (·.data.toList)) [44, 32]) (Lib.join (m.map (·.data.toList)) [44, 32]) := by
  match l, m, h with
  | [], [], _ => exact SameB.refl _
  | x :: l, y :: m, h =>
    rw [List.map_cons, List.map_cons, Lib.join_cons, Lib.join_cons]
    exact (h.1.app _).trans ((same_tail h.2).pre _)
theorem same_one {u v : List UInt8} (h : SameB u v) : oneB false u = oneB false v := by
  have := h false []
  rwa [List.append_nil, List.append_nil] at this
theorem sameL_len : ∀ {l m : List ByteArray}, SameL l m → l.length = m.length
  | [], [], _ => rfl
  | _ :: _, [], h => h.elim
  | [], _ :: _, h => h.elim
  | _ :: l, _ :: m, h => by rw [List.length_cons, List.length_cons, sameL_len h.2]
theorem one_more : ∀ (p : Bool) (u : List UInt8), oneB p (u ++ [44, 32, 122, 122]) = oneB p u ++ [44, 32, 122, 122]
  | p, [] => by cases p <;> decide +kernel
  | p, c :: u => by
    have h1 := one_more true u
    have h2 := one_more false u
    rw [List.cons_append]
    unfold oneB
    split
    · split
      · exact h1
      · rw [h1]; rfl
    · rw [h2]; rfl
def accN : ByteArray := ⟨#[65, 99, 99, 101, 112, 116]⟩
def accB : ByteArray := ⟨#[97, 67, 67, 69, 80, 84]⟩
def accL : ByteArray := ⟨#[97, 99, 99, 101, 112, 116]⟩
def accU : ByteArray := ⟨#[65, 67, 67, 69, 80, 84]⟩
def varL : ByteArray := ⟨#[118, 97, 114, 121]⟩
def zzB : ByteArray := ⟨#[122, 122]⟩
theorem all_acc {n : ByteArray} (hn : sameF n.data.toList accL.data.toList = true) (l : List ByteArray) : allF accL (fieldsO n l) = l := by
  unfold allF fieldsO
  rw [List.filter_eq_self.2 (by
    intro f hf
    obtain ⟨x, _, rfl⟩ := List.mem_map.1 hf
    exact hn), List.map_map]
  exact List.map_id l
theorem acc_names : varyL (listF varyN [(varL, accU)]) = [accL] ∧ starP (listF varyN [(varL, accU)]) = false := by
  have ha : allF varyN [(varL, accU)] = [accU] := by kernel_rfl
  have hl : listF varyN [(varL, accU)] = [accU] := by
    unfold listF
    rw [ha]
    show partsF accU ++ [] = _
    rw [List.append_nil]
    have := parts_join [accU] (by
      intro y hy
      obtain rfl : y = accU := by simpa using hy
      exact item_lit rfl)
    rw [← this]
    rfl
  rw [hl]
  exact ⟨by decide +kernel, by decide +kernel⟩
theorem acc_match (A B : List (ByteArray × ByteArray)) : matchF (listF varyN [(varL, accU)]) A B = sameN A B accL := by
  unfold matchF
  rw [acc_names.1, acc_names.2]
  simp
theorem has_acc {n : ByteArray} (hn : sameF n.data.toList accL.data.toList = true) (l : List ByteArray) : hasF accL (fieldsO n l) = !l.isEmpty := by
  unfold hasF
  rw [all_acc hn]
theorem norm_acc {n : ByteArray} (hn : sameF n.data.toList accL.data.toList = true) (l : List ByteArray) : normF accL (fieldsO n l) = oneB false (Lib.join (l.map (·.data.toList)) [44, 32]) := by
  unfold normF joinF
  rw [all_acc hn]
/-- Blanks, spread or not. -/
theorem match_blank {l m : List ByteArray} (h : SameL m l) : matchF (listF varyN [(varL, accU)]) (fieldsO accN l) (fieldsO accB m) = true := by
  have e : l.isEmpty = m.isEmpty := by
    have := sameL_len h
    cases l <;> cases m <;> simp_all
  rw [acc_match]
  unfold sameN
  rw [norm_acc (by decide +kernel), norm_acc (by decide +kernel), has_acc (by decide +kernel), has_acc (by decide +kernel), same_one (same_join h), e]
  simp
/-- One field of all. -/
theorem match_spread {l : List ByteArray} {o : ByteArray} (h0 : l ≠ []) (ho : o.data.toList = Lib.join (l.map (·.data.toList)) [44, 32]) : matchF (listF varyN [(varL, accU)]) (fieldsO accN l) (fieldsO accL [o]) = true := by
  rw [acc_match]
  unfold sameN
  rw [norm_acc (by decide +kernel), norm_acc (by decide +kernel), has_acc (by decide +kernel), has_acc (by decide +kernel)]
  have e : Lib.join ([o].map (·.data.toList)) [44, 32] = Lib.join (l.map (·.data.toList)) [44, 32] := by rw [← ho]; simp [Lib.join_one]
  rw [e]
  cases l with
  | nil => exact absurd rfl h0
  | cons _ _ => simp
theorem match_nothing : matchF (listF varyN [(varL, accU)]) (fieldsO accN []) [] = true := by
  rw [acc_match]
  decide +kernel
/-- A value more. -/
theorem match_more {l m : List ByteArray} (h : SameL m l) : matchF (listF varyN [(varL, accU)]) (fieldsO accN l) (fieldsO accB m ++ [(accN, zzB)]) = false := by
  have ha : allF accL (fieldsO accB m ++ [(accN, zzB)]) = m ++ [zzB] := by
    have e := all_acc (n := accB) (by decide +kernel) m
    unfold allF at e ⊢
    rw [List.filter_append, List.map_append, e]
    have : isNamed accL (accN, zzB) = true := by decide +kernel
    simp [this]
  rw [acc_match]
  unfold sameN
  rw [norm_acc (by decide +kernel), has_acc (by decide +kernel)]
  have hh : hasF accL (fieldsO accB m ++ [(accN, zzB)]) = true := by unfold hasF; rw [ha]; cases m <;> rfl
  rw [hh]
  by_cases h0 : m = []
  · have hl0 : l = [] := by
      have := sameL_len h
      rw [h0] at this
      exact List.eq_nil_of_length_eq_zero this.symm
    subst hl0
    simp
  · have hj : normF accL (fieldsO accB m ++ [(accN, zzB)]) = oneB false (Lib.join (m.map (·.data.toList)) [44, 32]) ++ [44, 32, 122, 122] := by
      unfold normF joinF
      rw [ha, List.map_append]
      show oneB false (Lib.join (m.map (·.data.toList) ++ [zzB.data.toList]) [44, 32]) = _
      rw [join_snoc _ _ (by intro e; exact h0 (List.map_eq_nil_iff.1 e))]
      exact one_more _ _
    rw [hj, same_one (same_join h)]
    have : (oneB false (Lib.join (l.map (·.data.toList)) [44, 32]) == oneB false (Lib.join (l.map (·.data.toList)) [44, 32]) ++ [44, 32, 122, 122]) = false := by
      rw [beq_eq_false_iff_ne]
      intro e
      have := congrArg List.length e
      simp at this
    rw [this]
    rfl
end Go.Proofs.YtkpkpfolgbpjbaaDoor
namespace Go.Proofs.YtkpkpfolgbpjbaaDoor
open Go.RowKit HeadMath HeadS VaryMath Go.Sort

structure Pair2 (n1 n2 : ByteArray) (B : Nat) (w : World) (va vb : Value) (ka kb : Nat) (A M : List ByteArray) : Prop where
  ra : w.ownsRow 0 29 2 va ka (fieldCells (fieldsO n1 A))
  rb : w.ownsRow 0 29 2 vb kb (fieldCells (fieldsO n2 M))
  na : ∀ g, va.ownBlock = some g → B ≤ g ∧ vb.ownBlock ≠ some g
  nb : ∀ g, vb.ownBlock = some g → B ≤ g
theorem Pair2.spares {n1 n2 : ByteArray} {B : Nat} {F : Nat → Prop} {w w' : World} {va vb : Value} {ka kb : Nat} {A M : List ByteArray} (h : Pair2 n1 n2 B w va vb ka kb A M) (hs : Spares F w w') (hn : ∀ g, F g → va.ownBlock ≠ some g ∧ vb.ownBlock ≠ some g) : Pair2 n1 n2 B w' va vb ka kb A M :=
  ⟨hs.own h.ra (fun g hg hf => (hn g hf).1 hg), hs.own h.rb (fun g hg hf => (hn g hf).2 hg), h.na, h.nb⟩
theorem Pair2.stepA {n1 n2 : ByteArray} {B : Nat} {w w' : World} {va vb v' : Value} {ka kb : Nat} {A M : List ByteArray} {x : ByteArray} (h : Pair2 n1 n2 B w va vb ka kb A M) (hB : B ≤ w.heap.size)
    (ho : w'.ownsRow 0 29 2 v' (ka + 1) (fieldCells (fieldsO n1 A) ++ [.string n1, .string x])) (hg : w.grownBy w' va.ownBlock) (hl : ∀ g, v'.ownBlock = some g → va.ownBlock = some g ∨ w.heap.size ≤ g) :
    Pair2 n1 n2 B w' v' vb (ka + 1) kb (A ++ [x]) M := by
  have hs : Spares (fun b => va.ownBlock = some b) w w' := (Spares.refl _ w).grown hg (fun k hk => .inl hk)
  refine ⟨by rw [fields_snoc]; exact ho, hs.own h.rb (fun g hg hf => (h.na g hf).2 hg), fun g hg => ?_, h.nb⟩
  rcases hl g hg with h1 | h1
  · exact h.na g h1
  · exact ⟨Nat.le_trans hB h1, fun e => by have := (World.ownsRow.lt h.rb g e).2; omega⟩
theorem Pair2.stepB {n1 n2 : ByteArray} {B : Nat} {w w' : World} {va vb v' : Value} {ka kb : Nat} {A M : List ByteArray} {x : ByteArray} (h : Pair2 n1 n2 B w va vb ka kb A M) (hB : B ≤ w.heap.size)
    (ho : w'.ownsRow 0 29 2 v' (kb + 1) (fieldCells (fieldsO n2 M) ++ [.string n2, .string x])) (hg : w.grownBy w' vb.ownBlock) (hl : ∀ g, v'.ownBlock = some g → vb.ownBlock = some g ∨ w.heap.size ≤ g) :
    Pair2 n1 n2 B w' va v' ka (kb + 1) A (M ++ [x]) := by
  have hs : Spares (fun b => vb.ownBlock = some b) w w' := (Spares.refl _ w).grown hg (fun k hk => .inl hk)
  refine ⟨hs.own h.ra (fun g hg hf => (h.na g hg).2 hf), by rw [fields_snoc]; exact ho, fun g hg => ⟨(h.na g hg).1, fun e => ?_⟩, fun g hg => ?_⟩
  · rcases hl g e with h1 | h1
    · exact (h.na g hg).2 h1
    · have := (World.ownsRow.lt h.ra g hg).2; omega
  · rcases hl g hg with h1 | h1
    · exact h.nb g h1
    · exact Nat.le_trans hB h1
/-- What holds behind i values. -/
structure BlankS (B : Nat) (w : World) (va vb : Value) (i : Nat) (V M : List ByteArray) (o : ByteArray) : Prop where
  pair : Pair2 accN accB B w va vb i i V M
  same : SameL M V
  one : o.data.toList = Lib.join (V.map (·.data.toList)) [44, 32]
  size : (∀ x ∈ M, x.size ≤ 200) ∧ ∀ x ∈ V, x.size ≤ 50
  len : V.length = i
theorem take_snocV (vs : List ByteArray) (i : Nat) (h : i < vs.length) : vs.take (i + 1) = vs.take i ++ [vs[i]] := List.take_succ_eq_append_getElem h
theorem extract_one (x : ByteArray) (j : Nat) (h : j < x.size) : (x.extract j (j + 1)).data.toList = [x[j]] ∧ (x.extract j (j + 1)).size = 1 := by
  constructor
  · rw [Lib.extract_data, List.drop_eq_getElem_cons (by rw [size_list]; exact h)]
    simp
    rfl
  · rw [ByteArray.size_extract]; omega
theorem sameB_next {s x : ByteArray} {j : Nat} (h : SameB s.data.toList (x.data.toList.take j)) (hj : j < x.size) : SameB (s ++ x.extract j (j + 1)).data.toList (x.data.toList.take (j + 1)) := by
  have hj' : j < x.data.toList.length := by rw [size_list]; exact hj
  rw [ByteArray.data_append, Array.toList_append, (extract_one x j hj).1, List.take_succ_eq_append_getElem hj']
  exact h.app [x[j]]
theorem sameB_put {s x : ByteArray} {j : Nat} (h : SameB s.data.toList (x.data.toList.take j)) (hj : j < x.size) (hb : blankB x[j] = true) : SameB (s ++ ⟨#[32, 9]⟩ ++ x.extract j (j + 1)).data.toList (x.data.toList.take (j + 1)) := by
  have hj' : j < x.data.toList.length := by rw [size_list]; exact hj
  rw [ByteArray.data_append, ByteArray.data_append, Array.toList_append, Array.toList_append, (extract_one x j hj).1, List.take_succ_eq_append_getElem hj']
  exact same_put h hb
end Go.Proofs.YtkpkpfolgbpjbaaDoor
namespace Go.Proofs.YtkpkpfolgbpjbaaDoor
open Go.RowKit HeadMath HeadS VaryMath Go.Sort

/-- A row that is only read. -/
def ReadRow (x : World) (v : Value) (n : Nat) (xs : List Value) : Prop :=
  xs.length = n * 2 ∧ ((v = .slice none 0 0 ∧ n = 0) ∨ ∃ g c, v = .slice (some ⟨g, 0, none⟩) n c ∧ ∀ j u, xs[j]? = some u → x.cell? ((⟨g, 0, none⟩ : Addr).add j) = some u)
theorem read_own {x : World} {B : Nat} {e : TypeId} {v : Value} {n : Nat} {xs : List Value} (h : x.ownsRow B e 2 v n xs) : ReadRow x v n xs := by
  refine ⟨h.1, ?_⟩
  rcases h.2 with h0 | ⟨g, cap, cur, rfl, hr⟩
  · exact .inl h0
  · exact .inr ⟨g, cap, rfl, fun j u hj => h.cells rfl j u hj⟩
theorem ReadRow.below {x y : World} {v : Value} {n : Nat} {xs : List Value} (h : ReadRow x v n xs) (hb : Below x.heap.size x y) : ReadRow y v n xs := by
  refine ⟨h.1, ?_⟩
  rcases h.2 with h0 | ⟨g, c, rfl, hc⟩
  · exact .inl h0
  · exact .inr ⟨g, c, rfl, fun j u hj => (hb.cell (cell_lt (hc j u hj))).trans (hc j u hj)⟩
theorem add_at (g k : Nat) : (⟨g, 0, none⟩ : Addr).add k = ⟨g, k, none⟩ := by
  rcases Nat.eq_zero_or_pos k with rfl | h
  · rfl
  · simp [Addr.add, Nat.ne_of_gt h]
theorem read_fields {x : World} {v : Value} {n : Nat} {l : List (ByteArray × ByteArray)} (h : ReadRow x v n (fieldCells l)) (hn : n = l.length) : ∃ a c, v = .slice a n c ∧ FieldsIn x.heap.size x a l := by
  rcases h.2 with ⟨rfl, h0⟩ | ⟨g, c, rfl, hc⟩
  · subst h0
    exact ⟨none, 0, rfl, fun j hj => absurd hj (by omega)⟩
  · refine ⟨_, c, rfl, fun j hj => ?_⟩
    have h1 := fieldCells_at l j hj
    have c1 := hc _ _ h1.1
    have c2 := hc _ _ h1.2
    rw [add_at] at c1 c2
    exact ⟨g, 0, rfl, cell_lt c1, by rw [Nat.zero_add]; exact c1, by rw [Nat.zero_add]; exact c2⟩
theorem read_new (w : World) (n x : ByteArray) : ReadRow (w.alloc (.cells #[.string n, .string x] 29)) (.slice (some ⟨w.heap.size, 0, none⟩) 1 1) 1 [.string n, .string x] := ⟨rfl, .inr ⟨_, _, rfl, field_new w n x⟩⟩
theorem below_al {v x : World} (h : Below v.heap.size v x) (o : Obj) : Below v.heap.size v (x.alloc o) := h.alloc h.size o
theorem grown_below {x y : World} (h : x.grownBy y none) : Below x.heap.size x y := (Below.refl _ _).grown h (Nat.le_refl _) (fun _ e => by cases e)
set_option maxHeartbeats 4000000 in
/-- Behind append(v, u...). -/
theorem step_copy {ops : Array Oper} {o : Oper} {a : Act} {x : World} {K : Act → World → Prop} {Q : Exit → Act → World → Prop} {E : Prop} (hw : Region.wanted o (yielded ops a.tmps) = true) (s u : Operand)
    (ho : o.op = .call { callee := .builtin .append, args := #[s, u], argTypes := #[30, 30] }) (B : Nat) (v vb : Value) (hs : a.eval s = v) (hu : a.eval u = vb)
    (n m : Nat) (xs news : List Value) (hown : x.ownsRow B 29 2 v n xs) (hrd : ReadRow x vb m news) (h1 : ∀ y ∈ news, y.oneCell' = true) (hnm : n + m ≤ 1000) (hB : B ≤ x.heap.size) (k : Nat) (ys : List Value) (hk : n + m = k) (hys : xs ++ news = ys)
    (h : ∀ v' w', Hid (w'.ownsRow B 29 2 v' k ys) → x.grownBy w' v.ownBlock → K (a.put o.dst v') w') : if Region.wanted o (yielded ops a.tmps) = true then Oper.wp Tryd.prog o a x K Q else E := by
  subst hk
  subst hys
  rw [if_pos hw]
  obtain ⟨i1, fi, fz0, fz1, fz2⟩ := infoField
  rcases hrd.2 with ⟨rfl, rfl⟩ | ⟨g, c, rfl, hc⟩
  · have hr := run_append_owned_none (P := Tryd.prog) (w := x) B 30 o.type 29 i1 2 Tryd.underlying30 fi v n xs hown
    have hz : news = [] := List.eq_nil_of_length_eq_zero (by have := hrd.1; omega)
    subst hz
    refine Lib.wp_append_run_sl x s u 30 ho v _ hs hu hr (h v x (Lib.hid ?_) ?_)
    · rw [List.append_nil]; exact hown
    · exact ⟨rfl, rfl, rfl, Nat.le_refl _, fun _ _ _ => rfl⟩
  · obtain ⟨v', w', hr, h2, h3, _, _⟩ := run_append_own_at (P := Tryd.prog) (w := x) B 30 o.type 29 i1 _ 2 32 Tryd.underlying30 fi fz0 fz1 fz2 rfl (by decide) v n xs hown ⟨g, 0, none⟩ m c news hrd.1 hc h1 (by unfold maxLen; omega) (by omega) hB
    exact Lib.wp_append_run_sl x s u 30 ho v _ hs hu hr (h v' w' (Lib.hid h2) h3)
/-- Only at an append. -/
theorem step_gate {ops : Array Oper} {o : Oper} {a : Act} {x : World} {K : Act → World → Prop} {Q : Exit → Act → World → Prop} {E : Prop} {s u : Operand}
    (_ : o.op = .call { callee := .builtin .append, args := #[s, u], argTypes := #[30, 30] }) (h : if Region.wanted o (yielded ops a.tmps) = true then Oper.wp Tryd.prog o a x K Q else E) : if Region.wanted o (yielded ops a.tmps) = true then Oper.wp Tryd.prog o a x K Q else E := h
theorem cells_one (l : List (ByteArray × ByteArray)) : ∀ y ∈ fieldCells l, y.oneCell' = true := by
  intro y hy
  obtain ⟨f, _, hf⟩ := List.mem_flatMap.1 hy
  rcases List.mem_cons.1 hf with rfl | hf
  · rfl
  · obtain rfl : y = .string f.2 := by simpa using hf
    rfl
theorem few_mem {l : List (ByteArray × ByteArray)} (hl : l.length ≤ 100000) (h : ∀ f ∈ l, f.1.size ≤ 1000000 ∧ f.2.size ≤ 1000000) : FewF l := ⟨hl, fun j hj => h _ (List.getElem_mem hj)⟩
theorem few_more {l : List ByteArray} (hl : l.length ≤ 5) (h : ∀ x ∈ l, x.size ≤ 200) : FewF (fieldsO accB l ++ [(accN, zzB)]) := by
  refine few_mem (by simp [fieldsO]; omega) (fun f hf => ?_)
  rcases List.mem_append.1 hf with h1 | h1
  · obtain ⟨x, hx, rfl⟩ := List.mem_map.1 h1
    have := h x hx
    refine ⟨?_, ?_⟩
    · show (6 : Nat) ≤ _; omega
    · show x.size ≤ _; omega
  · obtain rfl : f = (accN, zzB) := by simpa using h1
    exact ⟨by decide, by decide⟩
def blankW (w : World) (os : ByteArray) : World := ((w.alloc (.cells #[.string varL, .string accU] 29)).alloc (.cells #[.int .i64 0, .string ⟨#[]⟩, .slice (some ⟨w.heap.size, 0, none⟩) 1 1, .slice none 0 0] 43)).alloc (.cells #[.string accL, .string os] 29)
set_option maxHeartbeats 4000000 in
theorem blank_world (w : World) (os : ByteArray) : Below w.heap.size w (blankW w os) ∧ (blankW w os).heap.size = w.heap.size + 3 ∧
    FieldsIn (blankW w os).heap.size (blankW w os) (some ⟨w.heap.size, 0, none⟩) [(varL, accU)] ∧ FieldsIn (blankW w os).heap.size (blankW w os) (some ⟨w.heap.size + 1 + 1, 0, none⟩) [(accL, os)] ∧
    (blankW w os).cell? ⟨w.heap.size + 1, 0, none⟩ = some (.int .i64 0) ∧ (blankW w os).cell? ⟨w.heap.size + 1, 1, none⟩ = some (.string ⟨#[]⟩) ∧ (blankW w os).cell? ⟨w.heap.size + 1, 2, none⟩ = some (.slice (some ⟨w.heap.size, 0, none⟩) 1 1) ∧ (blankW w os).cell? ⟨w.heap.size + 1, 3, none⟩ = some (.slice none 0 0) := by
  obtain ⟨wf, hwf⟩ : ∃ wf, w.alloc (.cells #[.string varL, .string accU] 29) = wf := ⟨_, rfl⟩
  have f1 : wf.heap.size = w.heap.size + 1 := by rw [← hwf]; simp
  have b1 : Below w.heap.size w wf := by rw [← hwf]; exact below_al (Below.refl _ _) _
  have F1 : FieldsIn wf.heap.size wf (some ⟨w.heap.size, 0, none⟩) [(varL, accU)] := by have h := one_fields w (varL, accU); rw [← hwf]; rw [← f1, ← hwf] at h; exact h
  obtain ⟨wq, hwq⟩ : ∃ wq, wf.alloc (.cells #[.int .i64 0, .string ⟨#[]⟩, .slice (some ⟨w.heap.size, 0, none⟩) 1 1, .slice none 0 0] 43) = wq := ⟨_, rfl⟩
  have f2 : wq.heap.size = w.heap.size + 1 + 1 := by rw [← hwq]; simp [f1]
  have b2 : Below wf.heap.size wf wq := by rw [← hwq]; exact below_al (Below.refl _ _) _
  have F2 := (by have h := resp_cells (w := wf) (t := 43) (cs := #[.int .i64 0, .string ⟨#[]⟩, .slice (some ⟨w.heap.size, 0, none⟩) 1 1, .slice none 0 0]) rfl; rw [hwq, f1] at h; exact h : wq.cell? ⟨w.heap.size + 1, 0, none⟩ = some (.int .i64 0) ∧ wq.cell? ⟨w.heap.size + 1, 1, none⟩ = some (.string ⟨#[]⟩) ∧ wq.cell? ⟨w.heap.size + 1, 2, none⟩ = some (.slice (some ⟨w.heap.size, 0, none⟩) 1 1) ∧ wq.cell? ⟨w.heap.size + 1, 3, none⟩ = some (.slice none 0 0))
  obtain ⟨wc, hwc⟩ : ∃ wc, wq.alloc (.cells #[.string accL, .string os] 29) = wc := ⟨_, rfl⟩
  have f3 : wc.heap.size = wq.heap.size + 1 := by rw [← hwc]; simp
  have b3 : Below wq.heap.size wq wc := by rw [← hwc]; exact below_al (Below.refl _ _) _
  have F3 : FieldsIn wc.heap.size wc (some ⟨w.heap.size + 1 + 1, 0, none⟩) [(accL, os)] := by have h := one_fields wq (accL, os); rw [hwc, f2] at h; rw [f3, f2]; exact h
  have e : blankW w os = wc := by unfold blankW; rw [hwf, hwq, hwc]
  rw [e]
  have b13 : Below wf.heap.size wf wc := b2.trans (b3.mono b2.size)
  obtain ⟨c0, c1, c2, c3⟩ := F2
  refine ⟨b1.trans (b13.mono b1.size), by omega, kin_in (w := wf) ⟨wc, b13⟩ F1, F3, ?_, ?_, ?_, ?_⟩
  · exact (b3.cell (p := ⟨w.heap.size + 1, 0, none⟩) (cell_lt c0)).trans c0
  · exact (b3.cell (p := ⟨w.heap.size + 1, 1, none⟩) (cell_lt c1)).trans c1
  · exact (b3.cell (p := ⟨w.heap.size + 1, 2, none⟩) (cell_lt c2)).trans c2
  · exact (b3.cell (p := ⟨w.heap.size + 1, 3, none⟩) (cell_lt c3)).trans c3
/-- The three calls of Match. -/
structure BlankCalls (v : World) (p q i cA cB : Nat) (aA aB : Option Addr) (M : List ByteArray) : Prop where
  ab : ∀ x, Below v.heap.size v x → Calls Tryd.prog 27 #[.agg #[.int .i64 0, .string ⟨#[]⟩, .slice (some ⟨p, 0, none⟩) 1 1, .slice none 0 0], .slice aA i cA, .slice aB i cB] x fun e w' => e = .returned (.bool true) ∧ Below v.heap.size v w'
  ac : i ≠ 0 → ∀ x, Below v.heap.size v x → Calls Tryd.prog 27 #[.agg #[.int .i64 0, .string ⟨#[]⟩, .slice (some ⟨p, 0, none⟩) 1 1, .slice none 0 0], .slice aA i cA, .slice (some ⟨q, 0, none⟩) 1 1] x fun e w' => e = .returned (.bool true) ∧ Below v.heap.size v w'
  an : i = 0 → ∀ x, Below v.heap.size v x → Calls Tryd.prog 27 #[.agg #[.int .i64 0, .string ⟨#[]⟩, .slice (some ⟨p, 0, none⟩) 1 1, .slice none 0 0], .slice aA i cA, .slice none 0 0] x fun e w' => e = .returned (.bool true) ∧ Below v.heap.size v w'
  az : ∀ x g cg, Below v.heap.size v x → Hid (x.ownsRow v.heap.size 29 2 (.slice (some ⟨g, 0, none⟩) (i + 1) cg) (i + 1) (fieldCells (fieldsO accB M) ++ [.string accN, .string zzB])) → Calls Tryd.prog 27 #[.agg #[.int .i64 0, .string ⟨#[]⟩, .slice (some ⟨p, 0, none⟩) 1 1, .slice none 0 0], .slice aA i cA, .slice (some ⟨g, 0, none⟩) (i + 1) cg] x fun e w' => e = .returned (.bool false) ∧ Below v.heap.size v w'
set_option maxHeartbeats 4000000 in
theorem blank_calls {v : World} {p q i cA cB : Nat} {aA aB : Option Addr} {V M : List ByteArray} {os : ByteArray} (hF : FieldsIn v.heap.size v (some ⟨p, 0, none⟩) [(varL, accU)]) (hC : FieldsIn v.heap.size v (some ⟨q, 0, none⟩) [(accL, os)])
    (hA : FieldsIn v.heap.size v aA (fieldsO accN V)) (hB : FieldsIn v.heap.size v aB (fieldsO accB M)) (hV : V.length = i) (h5 : i ≤ 5) (hs : SameL M V) (hos : os.size ≤ 1000) (ho : os.data.toList = Lib.join (V.map (·.data.toList)) [44, 32])
    (hz : (∀ x ∈ M, x.size ≤ 200) ∧ ∀ x ∈ V, x.size ≤ 50) : BlankCalls v p q i cA cB aA aB M := by
  have hM : M.length = i := by rw [sameL_len hs, hV]
  have k1 : FewF [(varL, accU)] := few_lit (by decide +kernel)
  have k2 : FewF (fieldsO accN V) := few_fields (by decide) (by omega) (fun x hx => by have := hz.2 x hx; omega)
  have k3 : FewF (fieldsO accB M) := few_fields (by decide) (by omega) (fun x hx => by have := hz.1 x hx; omega)
  have k4 : FewF [(accL, os)] := few_mem (by simp) (fun f hf => by
    obtain rfl : f = (accL, os) := by simpa using hf
    exact ⟨by show (6 : Nat) ≤ _; omega, by show os.size ≤ _; omega⟩)
  have k5 := few_more (l := M) (by omega) hz.1
  have eA : (fieldsO accN V).length = i := by unfold fieldsO; rw [List.length_map, hV]
  have eB : (fieldsO accB M).length = i := by unfold fieldsO; rw [List.length_map, hM]
  have eZ : (fieldsO accB M ++ [(accN, zzB)]).length = i + 1 := by rw [List.length_append, eB]; simp
  refine ⟨fun x hx => ?_, fun h0 x hx => ?_, fun h0 x hx => ?_, fun x g cg hx hO => ?_⟩
  · have h := match_any [(varL, accU)] (fieldsO accN V) (fieldsO accB M) 0 ⟨#[]⟩ (some ⟨p, 0, none⟩) none aA aB 1 0 0 cA cB x (kin_in (w := v) ⟨x, hx⟩ hF) (kin_in (w := v) ⟨x, hx⟩ hA) (kin_in (w := v) ⟨x, hx⟩ hB) k1 k2 k3
    rw [match_blank hs, eA, eB] at h
    exact h.mono fun _ _ ⟨he, hb⟩ => ⟨he, below_next hx hb⟩
  · have h := match_any [(varL, accU)] (fieldsO accN V) [(accL, os)] 0 ⟨#[]⟩ (some ⟨p, 0, none⟩) none aA (some ⟨q, 0, none⟩) 1 0 0 cA 1 x (kin_in (w := v) ⟨x, hx⟩ hF) (kin_in (w := v) ⟨x, hx⟩ hA) (kin_in (w := v) ⟨x, hx⟩ hC) k1 k2 k4
    have hm := match_spread (l := V) (o := os) (by intro e; rw [e] at hV; exact h0 hV.symm) ho
    have hm : matchF (listF varyN [(varL, accU)]) (fieldsO accN V) [(accL, os)] = true := hm
    rw [hm, eA] at h
    exact h.mono fun _ _ ⟨he, hb⟩ => ⟨he, below_next hx hb⟩
  · have h := match_any [(varL, accU)] (fieldsO accN V) [] 0 ⟨#[]⟩ (some ⟨p, 0, none⟩) none aA none 1 0 0 cA 0 x (kin_in (w := v) ⟨x, hx⟩ hF) (kin_in (w := v) ⟨x, hx⟩ hA) (fun j hj => absurd hj (Nat.not_lt_zero _)) k1 k2 (few_mem (by simp) (fun f hf => by cases hf))
    have hv : V = [] := List.eq_nil_of_length_eq_zero (by omega)
    have hm : matchF (listF varyN [(varL, accU)]) (fieldsO accN V) [] = true := by rw [hv]; exact match_nothing
    rw [hm, eA] at h
    exact h.mono fun _ _ ⟨he, hb⟩ => ⟨he, below_next hx hb⟩
  · have hZ : FieldsIn x.heap.size x (some ⟨g, 0, none⟩) (fieldsO accB M ++ [(accN, zzB)]) := by
      have h := hO.out
      have ec : fieldCells (fieldsO accB M) ++ [.string accN, .string zzB] = fieldCells (fieldsO accB M ++ [(accN, zzB)]) := by simp [fieldCells]
      rw [ec, ← eZ] at h
      exact fieldsIn_own h
    have h := match_any [(varL, accU)] (fieldsO accN V) (fieldsO accB M ++ [(accN, zzB)]) 0 ⟨#[]⟩ (some ⟨p, 0, none⟩) none aA (some ⟨g, 0, none⟩) 1 0 0 cA cg x (kin_in (w := v) ⟨x, hx⟩ hF) (kin_in (w := v) ⟨x, hx⟩ hA) hZ k1 k2 k5
    rw [match_more hs, eA, eZ] at h
    exact h.mono fun _ _ ⟨he, hb⟩ => ⟨he, below_next hx hb⟩
end Go.Proofs.YtkpkpfolgbpjbaaDoor
namespace Go.Proofs.YtkpkpfolgbpjbaaDoor
open Go.RowKit HeadMath HeadS VaryMath Go.Sort

set_option maxRecDepth 100000 in
set_option maxHeartbeats 32000000 in
theorem lawBlanks_any (vs : List ByteArray) (bl : List UInt8) (av ab : Option Addr) (cv cb : Nat) (w : World) (hv : StrsIn w.heap.size w av vs) (hb : BytesAt w ab bl) (hvl : vs.length ≤ 9223372036854775807) (hvz : ∀ x ∈ vs, x.size ≤ 9223372036854775807) (hbl : bl.length ≤ 9223372036854775807) :
    Calls Tryd.prog 8 #[.slice av vs.length cv, .slice ab bl.length cb] w (Yes w) := by
  have HV : Hid (∀ x, Below w.heap.size w x → StrsIn x.heap.size x av vs) := Lib.hid (fun x hx => strs_kin (w := w) ⟨x, hx⟩ hv)
  have HBLA := Lib.hid hb
  have HVZ := Lib.hid hvz
  obtain ⟨nv, hnv⟩ : ∃ nv, vs.length = nv := ⟨_, rfl⟩
  obtain ⟨nb, hnb⟩ : ∃ nb, bl.length = nb := ⟨_, rfl⟩
  have HNV := Lib.hid hnv
  have HNB := Lib.hid hnb
  rw [hnv] at hvl ⊢
  rw [hnb] at hbl ⊢
  clear hv hb hvz hnv hnb
  unfold Yes
  go_enter Tryd.func8, Tryd.ntmps8
  go_wp2_with fail
  refine (vknown_any w).mono ?_
  rintro e w1 ⟨rfl, hb1⟩
  have HB1 := Lib.hid hb1
  have HBL1 := Lib.hid (HBLA.out.spares (Below.spares (F := nowhere) hb1 (fun k hk => .inr hk)) (fun _ _ _ h => h))
  clear hb1
  by_cases h5 : 5 < nv
  · have q5 : (5 : Int) < (nv : Int) := by omega
    go_wp2
    go_ret
    exact ⟨rfl, HB1.out⟩
  have q5 : ¬ (5 : Int) < (nv : Int) := by omega
  by_cases h100 : 100 < nb
  · have q100 : (100 : Int) < (nb : Int) := by omega
    go_wp2
    go_ret
    exact ⟨rfl, HB1.out⟩
  have q100 : ¬ (100 : Int) < (nb : Int) := by omega
  go_wp2
  go_loopw [5, 6, 7, 8, 9] (fun o va vb kc ic wr => ∃ (i kk : Nat) (os : ByteArray) (M : List ByteArray) (va0 vb0 : Value), i ≤ nv ∧ ic = .int .i64 i ∧ kc = .int .i64 kk ∧ o = .string os ∧ va0 = va ∧ vb0 = vb ∧ kk ≤ 50 * i ∧ os.size ≤ 60 * i ∧ Hid (BlankS w1.heap.size wr va0 vb0 i (vs.take i) M os) ∧ Hid (Below w1.heap.size w1 wr)) (fun _ _ _ _ ic _ => nv - (intOf ic).toNat)
  case atStart => exact ⟨0, 0, ⟨#[]⟩, [], _, _, Nat.zero_le _, rfl, rfl, rfl, rfl, rfl, Nat.zero_le _, Nat.zero_le _, Lib.hid ⟨⟨World.ownsRow_nil _ _ _ _, World.ownsRow_nil _ _ _ _, (fun g h => by cases h), (fun g h => by cases h)⟩, trivial, rfl, ⟨(fun x h => by cases h), (fun x h => by cases h)⟩, rfl⟩, Lib.hid (Below.refl _ _)⟩
  case round =>
    obtain ⟨i, kk0, os, M, va, vb, hi, rfl, rfl, rfl, rfl, rfl, hkk, hos, HC, HB⟩ := hrel
    by_cases hil : i < nv
    · have hin : i < vs.length := by rw [HNV.out]; exact hil
      obtain ⟨bq, off, rfl, _, x0⟩ := HV.out wr (HB1.out.trans (HB.out.mono HB1.out.size)) i hin
      have hz := HVZ.out _ (List.getElem_mem hin)
      have HTK := Lib.hid (take_snocV vs i hin)
      obtain ⟨x, hx⟩ : ∃ x, vs[i] = x := ⟨_, rfl⟩
      rw [hx] at x0 hz HTK
      clear hx hin
      have HF0 := Lib.hid (HB1.out.trans (HB.out.mono HB1.out.size))
      by_cases h50 : 50 < x.size
      · have q50 : (50 : Int) < (x.size : Int) := by omega
        go_wp2
        go_ret
        exact ⟨rfl, HF0.out⟩
      have q50 : ¬ (50 : Int) < (x.size : Int) := by omega
      have cV := fun w => HeadS.refValue_any x w (by omega)
      obtain ⟨val, hval⟩ : ∃ val, HeadMath.valueF x.data.toList = val := ⟨_, rfl⟩
      simp only [hval] at cV
      have CV := Lib.hid cV
      obtain ⟨wo, rfl⟩ : ∃ wo : World, wo = wr := ⟨_, rfl⟩
      clear hval cV hz
      go_wp2_with fail
      refine (CV.out _).mono ?_
      rintro e w3 ⟨rfl, hw3⟩
      subst hw3
      cases val with
      | false =>
        go_wp2
        go_ret
        exact ⟨rfl, HF0.out⟩
      | true =>
      go_wp2
      go_loop [8, 10, 11] (fun kc so jc => ∃ (kk j : Nat) (s : ByteArray), j ≤ x.size ∧ kc = .int .i64 kk ∧ jc = .int .i64 j ∧ so = .string s ∧ kk ≤ 50 * i + j ∧ s.size ≤ 3 * j ∧ Hid (SameB s.data.toList (x.data.toList.take j))) (fun _ _ jc => x.size - (intOf jc).toNat)
      case atStart => exact ⟨kk0, 0, ⟨#[]⟩, Nat.zero_le _, rfl, rfl, rfl, by omega, Nat.zero_le _, Lib.hid (SameB.refl _)⟩
      case round =>
        obtain ⟨kk, j, s, hj, rfl, rfl, rfl, hkj, hsj, HS⟩ := hrel
        by_cases hjl : j < x.size
        · have HU1 := Lib.hid (u8_32 (c := x[j]))
          have HU2 := Lib.hid (u8_9 (c := x[j]))
          cases hbk : blankB x[j] with
          | false =>
            have hne := blank_no hbk
            have g1 : ((x[j].toNat : Int) == 32) = false := by rw [HU1.out]; exact beq_eq_false_iff_ne.2 hne.1
            have g2 : ((x[j].toNat : Int) == 9) = false := by rw [HU2.out]; exact beq_eq_false_iff_ne.2 hne.2
            have HN : Hid (SameB (s ++ x.extract j (j + 1)).data.toList (x.data.toList.take (j + 1))) := Lib.hid (sameB_next HS.out hjl)
            have q1 : ¬ 9223372036854775807 < s.size + (x.extract j (j + 1)).size := by have := (extract_one x j hjl).2; omega
            have HSZ : Hid ((s ++ x.extract j (j + 1)).size ≤ 3 * (j + 1)) := Lib.hid (by rw [ByteArray.size_append]; have := (extract_one x j hjl).2; omega)
            clear hne hbk
            go_wp2
            go_round
            case rel => exact ⟨kk, j + 1, _, by omega, by go_num, by go_num, rfl, by omega, HSZ.out, HN⟩
            case measure => simp [intOf]; omega
          | true =>
            have hg : (((x[j].toNat : Int) == 32) = true) ∨ (((x[j].toNat : Int) == 32) = false ∧ ((x[j].toNat : Int) == 9) = true) := by
              rw [HU1.out, HU2.out]
              rcases blank_is hbk with e | e
              · exact .inl (by rw [e]; rfl)
              · exact .inr (by rw [e]; exact ⟨rfl, rfl⟩)
            by_cases hkb : kk < nb
            · obtain ⟨bt, ot, rfl, hct⟩ := HBL1.out kk (by rw [HNB.out]; exact hkb)
              obtain ⟨t, htt⟩ : ∃ t, bl[kk]'(by rw [HNB.out]; exact hkb) = t := ⟨_, rfl⟩
              rw [htt] at hct
              have ht256 := u8_lt t
              have x9 := (HB.out.cell (p := ⟨bt, ot + kk, none⟩) (cell_lt hct)).trans hct
              clear htt hct
              have d1 : decide (kk < nb) = true := decide_eq_true hkb
              have d2 : decide ((kk : Int) < (nb : Int)) = true := by rw [decide_eq_true_iff]; omega
              by_cases q4 : t.toNat % 2 = 1
              · have e1 : (t.toNat : Int).tmod 2 = 1 := by rw [Int.tmod_eq_emod_of_nonneg (by omega)]; omega
                have HN : Hid (SameB (s ++ ⟨#[32, 9]⟩ ++ x.extract j (j + 1)).data.toList (x.data.toList.take (j + 1))) := Lib.hid (sameB_put HS.out hjl hbk)
                have q0 : ¬ 9223372036854775807 < s.size + 2 := by omega
                have q1 : ¬ 9223372036854775807 < s.size + 2 + (x.extract j (j + 1)).size := by have := (extract_one x j hjl).2; omega
                have HSZ : Hid ((s ++ ⟨#[32, 9]⟩ ++ x.extract j (j + 1)).size ≤ 3 * (j + 1)) := Lib.hid (by rw [ByteArray.size_append, ByteArray.size_append]; have := (extract_one x j hjl).2; have : (⟨#[32, 9]⟩ : ByteArray).size = 2 := rfl; omega)
                clear q4 hbk
                rcases hg with g1 | ⟨g1, g2⟩
                · go_wp2
                  go_round
                  case rel => exact ⟨kk + 1, j + 1, _, by omega, by go_num, by go_num, rfl, by omega, HSZ.out, HN⟩
                  case measure => simp [intOf]; omega
                · go_wp2
                  go_round
                  case rel => exact ⟨kk + 1, j + 1, _, by omega, by go_num, by go_num, rfl, by omega, HSZ.out, HN⟩
                  case measure => simp [intOf]; omega
              · have e1 : (t.toNat : Int).tmod 2 = 0 := by rw [Int.tmod_eq_emod_of_nonneg (by omega)]; omega
                have HN : Hid (SameB (s ++ x.extract j (j + 1)).data.toList (x.data.toList.take (j + 1))) := Lib.hid (sameB_next HS.out hjl)
                have q1 : ¬ 9223372036854775807 < s.size + (x.extract j (j + 1)).size := by have := (extract_one x j hjl).2; omega
                have HSZ : Hid ((s ++ x.extract j (j + 1)).size ≤ 3 * (j + 1)) := Lib.hid (by rw [ByteArray.size_append]; have := (extract_one x j hjl).2; omega)
                clear q4 hbk
                rcases hg with g1 | ⟨g1, g2⟩
                · go_wp2
                  go_round
                  case rel => exact ⟨kk + 1, j + 1, _, by omega, by go_num, by go_num, rfl, by omega, HSZ.out, HN⟩
                  case measure => simp [intOf]; omega
                · go_wp2
                  go_round
                  case rel => exact ⟨kk + 1, j + 1, _, by omega, by go_num, by go_num, rfl, by omega, HSZ.out, HN⟩
                  case measure => simp [intOf]; omega
            · have d1 : decide (kk < nb) = false := decide_eq_false hkb
              have d2 : decide ((kk : Int) < (nb : Int)) = false := by rw [decide_eq_false_iff_not]; omega
              have HN : Hid (SameB (s ++ x.extract j (j + 1)).data.toList (x.data.toList.take (j + 1))) := Lib.hid (sameB_next HS.out hjl)
              have q1 : ¬ 9223372036854775807 < s.size + (x.extract j (j + 1)).size := by have := (extract_one x j hjl).2; omega
              have HSZ : Hid ((s ++ x.extract j (j + 1)).size ≤ 3 * (j + 1)) := Lib.hid (by rw [ByteArray.size_append]; have := (extract_one x j hjl).2; omega)
              clear hbk
              rcases hg with g1 | ⟨g1, g2⟩
              · go_wp2
                go_round
                case rel => exact ⟨kk + 1, j + 1, _, by omega, by go_num, by go_num, rfl, by omega, HSZ.out, HN⟩
                case measure => simp [intOf]; omega
              · go_wp2
                go_round
                case rel => exact ⟨kk + 1, j + 1, _, by omega, by go_num, by go_num, rfl, by omega, HSZ.out, HN⟩
                case measure => simp [intOf]; omega
        · have HSX : Hid (SameB s.data.toList x.data.toList) := Lib.hid (by have := HS.out; rwa [List.take_of_length_le (by rw [size_list]; omega)] at this)
          have hs200 : s.size ≤ 200 := by omega
          have hk50 : kk ≤ 50 * (i + 1) := by omega
          obtain ⟨i1, fi, fz0, fz1, fz2⟩ := infoField
          have HX1 : Hid (i + 1 ≤ maxLen) := Lib.hid (by unfold maxLen; omega)
          have HX2 : Hid ((i + 1) * 32 ≤ 140737488355328) := Lib.hid (by omega)
          have HPA := Lib.hid (HC.out.pair.spares ((Spares.refl nowhere wo).alloc (.cells #[.string accN, .string x] 29)) (fun g h => h.elim))
          have HCA := Lib.hid (field_new wo accN x)
          have HBa := Lib.hid (HB.out.alloc HB.out.size (.cells #[.string accN, .string x] 29))
          have HSa := Lib.hid HBa.out.size
          have HSAME := Lib.hid HC.out.same
          have HONE := Lib.hid HC.out.one
          have HMS := Lib.hid HC.out.size
          have HLEN := Lib.hid HC.out.len
          obtain ⟨V, hV⟩ : ∃ V, vs.take i = V := ⟨_, rfl⟩
          rw [hV] at HTK HPA HSAME HONE HLEN HMS
          clear hV HC
          go_upto_region 23 with ((with_reducible show wpList _ _ _ (⟨some 102, _, _, _, _, _⟩ :: _) _ _); refine wpList_append_fresh rfl _ _ 30 rfl 29 i1 _ 2 32 Tryd.underlying30 fi fz0 fz1 fz2 rfl (by decide) va i _ rfl HPA.out.ra ⟨wo.heap.size, 0, none⟩ 1 1 [.string accN, .string x] rfl rfl HCA.out (by simp [Value.oneCell']) HX1.out HX2.out ?_; intro va2 w6 ho hg hl; have HP6 := Lib.hid (HPA.out.stepA HSa.out ho hg hl); have HB6 := Lib.hid (HBa.out.grown hg HSa.out (fun g h => (HPA.out.na g h).1)); clear ho hg hl)
          have HPB := Lib.hid (HP6.out.spares ((Spares.refl nowhere w6).alloc (.cells #[.string accB, .string s] 29)) (fun g h => h.elim))
          have HCB := Lib.hid (field_new w6 accB s)
          have HBb := Lib.hid (HB6.out.alloc HB6.out.size (.cells #[.string accB, .string s] 29))
          have HSb := Lib.hid HBb.out.size
          clear x0
          go_upto_region 24 with ((with_reducible show wpList _ _ _ (⟨some 107, _, _, _, _, _⟩ :: _) _ _); refine wpList_append_fresh rfl _ _ 30 rfl 29 i1 _ 2 32 Tryd.underlying30 fi fz0 fz1 fz2 rfl (by decide) vb i _ rfl HPB.out.rb ⟨w6.heap.size, 0, none⟩ 1 1 [.string accB, .string s] rfl rfl HCB.out (by simp [Value.oneCell']) HX1.out HX2.out ?_; intro vb2 w8 ho hg hl; have HP8 := Lib.hid (HPB.out.stepB HSb.out ho hg hl); have HB8 := Lib.hid (HBb.out.grown hg HSb.out (fun g h => HPB.out.nb g h)); clear ho hg hl)
          have hin : i < vs.length := by rw [HNV.out]; exact hil
          have x8 : w8.cell? ⟨bq, off + i, none⟩ = some (.string x) := by
            obtain ⟨b', off', e', _, hc'⟩ := HV.out w8 (HB1.out.trans (HB8.out.mono HB1.out.size)) i hin
            injection e' with e'
            injection e' with e1 e2
            subst e1; subst e2
            rw [hc']
            have h1 := HTK.out
            rw [List.take_succ_eq_append_getElem hin] at h1
            have h2 := (List.append_inj' h1 rfl).2
            injection h2 with h2
            rw [h2]
          have HLS : Hid (∀ o' : ByteArray, o'.data.toList = Lib.join ((V ++ [x]).map (·.data.toList)) [44, 32] → BlankS w1.heap.size w8 va2 vb2 (i + 1) (V ++ [x]) (M ++ [s]) o') := Lib.hid (fun o' ho' => ⟨HP8.out, sameL_snoc HSAME.out HSX.out, ho', ⟨fun y hy => by
            rcases List.mem_append.1 hy with h | h
            · exact HMS.out.1 y h
            · obtain rfl : y = s := by simpa using h
              exact hs200, fun y hy => by
            rcases List.mem_append.1 hy with h | h
            · exact HMS.out.2 y h
            · obtain rfl : y = x := by simpa using h
              omega⟩, by rw [List.length_append, HLEN.out]; rfl⟩)
          clear hin
          by_cases h0 : i = 0
          · have HV0 : Hid (V = []) := Lib.hid (List.eq_nil_of_length_eq_zero (by rw [HLEN.out]; exact h0))
            have HO0 : Hid ((os ++ x).data.toList = Lib.join ((V ++ [x]).map (·.data.toList)) [44, 32]) := Lib.hid (by
              rw [ByteArray.data_append, Array.toList_append, HONE.out, HV0.out]
              simp [Lib.join_one, Lib.join_nil])
            have g0 : decide ((0 : Int) < (i : Int)) = false := by rw [decide_eq_false_iff_not]; omega
            have g2 : decide (0 < i) = false := by rw [decide_eq_false_iff_not]; omega
            have g3 : ¬ 0 < i := by omega
            have q1 : ¬ 9223372036854775807 < os.size + x.size := by omega
            have HSZ : Hid ((os ++ x).size ≤ 60 * (i + 1)) := Lib.hid (by rw [ByteArray.size_append]; omega)
            clear h0 hi
            go_wp2
            go_roundw
            case rel => exact ⟨i + 1, kk, _, _, _, _, by omega, by go_num, rfl, rfl, rfl, rfl, hk50, HSZ.out, Lib.hid (by rw [HTK.out]; exact HLS.out _ HO0.out), HB8⟩
            case measure => simp [intOf]; omega
          · have HO0 : Hid ((os ++ ⟨#[44, 32]⟩ ++ x).data.toList = Lib.join ((V ++ [x]).map (·.data.toList)) [44, 32]) := Lib.hid (by
              have hne : V.map (·.data.toList) ≠ [] := fun e => by
                have := congrArg List.length e
                rw [List.length_map, HLEN.out] at this
                exact h0 this
              rw [ByteArray.data_append, ByteArray.data_append, Array.toList_append, Array.toList_append, HONE.out, List.map_append]
              show _ = Lib.join (V.map (·.data.toList) ++ [x.data.toList]) [44, 32]
              rw [join_snoc _ _ hne]
              simp)
            have g0 : decide ((0 : Int) < (i : Int)) = true := by rw [decide_eq_true_iff]; omega
            have g2 : decide (0 < i) = true := by rw [decide_eq_true_iff]; omega
            have g3 : 0 < i := by omega
            have q1 : ¬ 9223372036854775807 < os.size + 2 := by omega
            have q2 : ¬ 9223372036854775807 < os.size + 2 + x.size := by omega
            have HSZ : Hid ((os ++ ⟨#[44, 32]⟩ ++ x).size ≤ 60 * (i + 1)) := Lib.hid (by rw [ByteArray.size_append, ByteArray.size_append]; have : (⟨#[44, 32]⟩ : ByteArray).size = 2 := rfl; omega)
            clear h0 hi
            go_wp2
            go_roundw
            case rel => exact ⟨i + 1, kk, _, _, _, _, by omega, by go_num, rfl, rfl, rfl, rfl, hk50, HSZ.out, Lib.hid (by rw [HTK.out]; exact HLS.out _ HO0.out), HB8⟩
            case measure => simp [intOf]; omega
    · obtain rfl : i = nv := by omega
      obtain ⟨V, hV⟩ : ∃ V, vs.take i = V := ⟨_, rfl⟩
      rw [hV] at HC
      have HWR := Lib.hid (HB1.out.trans (HB.out.mono HB1.out.size))
      have HLV : Hid (V.length = i) := Lib.hid HC.out.len
      have HLM : Hid (M.length = i) := Lib.hid ((sameL_len HC.out.same).trans HC.out.len)
      obtain ⟨aA, cA, rfl, hA⟩ := read_fields (read_own HC.out.pair.ra) (by unfold fieldsO; rw [List.length_map, HLV.out])
      obtain ⟨aB, cB, rfl, hB⟩ := read_fields (read_own HC.out.pair.rb) (by unfold fieldsO; rw [List.length_map, HLM.out])
      have HRB0 := Lib.hid (read_own HC.out.pair.rb)
      have HONES := Lib.hid (cells_one (fieldsO accB M))
      obtain ⟨hbw, hsz, hF, hCf, c0, c1, c2, c3⟩ := blank_world wr os
      obtain ⟨wc, hwc⟩ : ∃ wc, blankW wr os = wc := ⟨_, rfl⟩
      rw [hwc] at hbw hsz hF hCf c0 c1 c2 c3
      have HBC := Lib.hid (blank_calls (cA := cA) (cB := cB) hF hCf (kin_in (w := wr) ⟨wc, hbw⟩ hA) (kin_in (w := wr) ⟨wc, hbw⟩ hB) HLV.out (by omega) HC.out.same (by omega) HC.out.one HC.out.size)
      have HRB : Hid (∀ x, Below wc.heap.size wc x → ReadRow x (.slice aB i cB) i (fieldCells (fieldsO accB M))) := Lib.hid (fun x hx => (HRB0.out.below hbw).below hx)
      have HSEE : Hid (∀ x, Below wc.heap.size wc x → x.cell? ⟨wr.heap.size + 1, 0, none⟩ = some (.int .i64 0) ∧ x.cell? ⟨wr.heap.size + 1, 1, none⟩ = some (.string ⟨#[]⟩) ∧ x.cell? ⟨wr.heap.size + 1, 2, none⟩ = some (.slice (some ⟨wr.heap.size, 0, none⟩) 1 1) ∧ x.cell? ⟨wr.heap.size + 1, 3, none⟩ = some (.slice none 0 0)) := Lib.hid (fun x hx =>
        ⟨(hx.cell (p := ⟨wr.heap.size + 1, 0, none⟩) (cell_lt c0)).trans c0, (hx.cell (p := ⟨wr.heap.size + 1, 1, none⟩) (cell_lt c1)).trans c1, (hx.cell (p := ⟨wr.heap.size + 1, 2, none⟩) (cell_lt c2)).trans c2, (hx.cell (p := ⟨wr.heap.size + 1, 3, none⟩) (cell_lt c3)).trans c3⟩)
      have HFIN : Hid (∀ x, Below wc.heap.size wc x → Below w.heap.size w x) := Lib.hid (fun x hx => HWR.out.trans ((hbw.trans (hx.mono hbw.size)).mono HWR.out.size))
      have HWC := Lib.hid hwc
      have HONEZ : Hid (∀ y ∈ [Value.string accN, Value.string zzB], y.oneCell' = true) := Lib.hid (by simp [Value.oneCell'])
      have hbd : Below wc.heap.size wc wc.drew := (Below.refl _ _).drew
      have hi5 : i ≤ 5 := by omega
      clear hV HC HRB0 HLV HLM hA hB hbw hsz hF hCf c0 c1 c2 c3 hwc HB HBL1 HB1 HV HVZ HNV HNB hos hkk
      by_cases h0 : i = 0
      · subst h0
        have CAC := Lib.hid (HBC.out.an rfl)
        have CAZ := HBC.out.az
        simp only [Nat.zero_add] at CAZ
        have CAZ := Lib.hid CAZ
        clear hil
        go_wp2_with fail
        change Code.wp _ _ _ _ (blankW wr os)
        rw [HWC.out]
        go_region_held3 (fun x => x.cell? ⟨wr.heap.size + 1, 0, none⟩ = some (.int .i64 0) ∧ x.cell? ⟨wr.heap.size + 1, 1, none⟩ = some (.string ⟨#[]⟩) ∧ x.cell? ⟨wr.heap.size + 1, 2, none⟩ = some (.slice (some ⟨wr.heap.size, 0, none⟩) 1 1) ∧ x.cell? ⟨wr.heap.size + 1, 3, none⟩ = some (.slice none 0 0))
          (first | exact HSEE.out _ (by assumption) | exact HSEE.out _ (below_al (by assumption) _) | go_keep)
          (first
            | (refine step_gate (by rfl) ?_
               refine step_copy (by rfl) _ _ (by rfl) wc.heap.size (.slice none 0 0) (.slice aB 0 cB) (by rfl) (by rfl) 0 0 [] (fieldCells (fieldsO accB M)) (World.ownsRow_nil _ _ _ _) (HRB.out _ (by assumption)) HONES.out (by omega) (Below.size (by assumption)) 0 (fieldCells (fieldsO accB M)) (by omega) (by rfl) ?_
               intro v5 w5 hO5 hG5
               have hb5 : Below wc.heap.size wc w5 := Below.grown (by assumption) hG5 (Below.size (by assumption)) (fun _ e => by cases e)
               clear hG5)
            | (refine step_gate (by rfl) ?_
               refine step_copy (by rfl) _ _ (by rfl) wc.heap.size (.slice none 0 0) (.slice aB 0 cB) (by rfl) (by rfl) 0 0 [] (fieldCells (fieldsO accB M)) (World.ownsRow_nil _ _ _ _) (HRB.out _ (below_al (by assumption) _)) HONES.out (by omega) (Below.size (below_al (by assumption) _)) 0 (fieldCells (fieldsO accB M)) (by omega) (by rfl) ?_
               intro v5 w5 hO5 hG5
               have hb5 : Below wc.heap.size wc w5 := Below.grown (below_al (by assumption) _) hG5 (Below.size (below_al (by assumption) _)) (fun _ e => by cases e)
               have hl5 := Lib.hid ((read_new _ accN zzB).below (grown_below hG5))
               clear hG5)
            | (refine step_gate (by rfl) ?_
               refine step_copy (by rfl) _ _ (by rfl) wc.heap.size v5 _ (by rfl) (by rfl) 0 1 (fieldCells (fieldsO accB M)) [.string accN, .string zzB] (World.ownsRow.alloc hO5.out _) (read_new _ accN zzB) HONEZ.out (by omega) (Below.size (below_al (by assumption) _)) 1 (fieldCells (fieldsO accB M) ++ [.string accN, .string zzB]) (by omega) (by rfl) ?_
               intro v7 w7 hO7 hG7
               have hb7 : Below wc.heap.size wc w7 := Below.grown (below_al hb5 _) hG7 (Below.size (below_al hb5 _)) (fun g e => (World.ownsRow.lt hO5.out g e).1)
               obtain ⟨g7, c7, rfl, _, _⟩ := World.ownsRow.form hO7.out (by omega)
               clear hG7)
            | (refine step_gate (by rfl) ?_
               refine step_copy (by rfl) _ _ (by rfl) wc.heap.size v5 _ (by rfl) (by rfl) 0 1 (fieldCells (fieldsO accB M)) [.string accN, .string zzB] hO5.out hl5.out HONEZ.out (by omega) (Below.size hb5) 1 (fieldCells (fieldsO accB M) ++ [.string accN, .string zzB]) (by omega) (by rfl) ?_
               intro v7 w7 hO7 hG7
               have hb7 : Below wc.heap.size wc w7 := Below.grown hb5 hG7 (Below.size hb5) (fun g e => (World.ownsRow.lt hO5.out g e).1)
               obtain ⟨g7, c7, rfl, _, _⟩ := World.ownsRow.form hO7.out (by omega)
               clear hG7)
            | (go_simp
               go_at_call 27
               (with_reducible refine Calls.mono (HBC.out.ab _ (by assumption)) ?_)
               rintro e wn ⟨rfl, hbn⟩)
            | (go_simp
               go_at_call 27
               (with_reducible refine Calls.mono (CAC.out _ (by assumption)) ?_)
               rintro e wn ⟨rfl, hbn⟩)
            | (go_simp
               go_at_call 27
               (with_reducible refine Calls.mono (CAZ.out _ _ _ (by assumption) (by assumption)) ?_)
               rintro e wn ⟨rfl, hbn⟩))
        all_goals
          have HF := Lib.hid (HFIN.out wn hbn)
          go_wp2
          go_ret
          exact ⟨rfl, HF.out⟩
      · have q0 : ¬ (i : Int) = 0 := by omega
        have CAC := Lib.hid (HBC.out.ac h0)
        have CAZ := Lib.hid HBC.out.az
        clear hil
        go_wp2_with fail
        change Code.wp _ _ _ _ (blankW wr os)
        rw [HWC.out]
        go_region_held3 (fun x => x.cell? ⟨wr.heap.size + 1, 0, none⟩ = some (.int .i64 0) ∧ x.cell? ⟨wr.heap.size + 1, 1, none⟩ = some (.string ⟨#[]⟩) ∧ x.cell? ⟨wr.heap.size + 1, 2, none⟩ = some (.slice (some ⟨wr.heap.size, 0, none⟩) 1 1) ∧ x.cell? ⟨wr.heap.size + 1, 3, none⟩ = some (.slice none 0 0))
          (first | exact HSEE.out _ (by assumption) | exact HSEE.out _ (below_al (by assumption) _) | go_keep)
          (first
            | (refine step_gate (by rfl) ?_
               refine step_copy (by rfl) _ _ (by rfl) wc.heap.size (.slice none 0 0) (.slice aB i cB) (by rfl) (by rfl) 0 i [] (fieldCells (fieldsO accB M)) (World.ownsRow_nil _ _ _ _) (HRB.out _ (by assumption)) HONES.out (by omega) (Below.size (by assumption)) i (fieldCells (fieldsO accB M)) (by omega) (by rfl) ?_
               intro v5 w5 hO5 hG5
               have hb5 : Below wc.heap.size wc w5 := Below.grown (by assumption) hG5 (Below.size (by assumption)) (fun _ e => by cases e)
               clear hG5)
            | (refine step_gate (by rfl) ?_
               refine step_copy (by rfl) _ _ (by rfl) wc.heap.size (.slice none 0 0) (.slice aB i cB) (by rfl) (by rfl) 0 i [] (fieldCells (fieldsO accB M)) (World.ownsRow_nil _ _ _ _) (HRB.out _ (below_al (by assumption) _)) HONES.out (by omega) (Below.size (below_al (by assumption) _)) i (fieldCells (fieldsO accB M)) (by omega) (by rfl) ?_
               intro v5 w5 hO5 hG5
               have hb5 : Below wc.heap.size wc w5 := Below.grown (below_al (by assumption) _) hG5 (Below.size (below_al (by assumption) _)) (fun _ e => by cases e)
               have hl5 := Lib.hid ((read_new _ accN zzB).below (grown_below hG5))
               clear hG5)
            | (refine step_gate (by rfl) ?_
               refine step_copy (by rfl) _ _ (by rfl) wc.heap.size v5 _ (by rfl) (by rfl) i 1 (fieldCells (fieldsO accB M)) [.string accN, .string zzB] (World.ownsRow.alloc hO5.out _) (read_new _ accN zzB) HONEZ.out (by omega) (Below.size (below_al (by assumption) _)) (i + 1) (fieldCells (fieldsO accB M) ++ [.string accN, .string zzB]) (by omega) (by rfl) ?_
               intro v7 w7 hO7 hG7
               have hb7 : Below wc.heap.size wc w7 := Below.grown (below_al hb5 _) hG7 (Below.size (below_al hb5 _)) (fun g e => (World.ownsRow.lt hO5.out g e).1)
               obtain ⟨g7, c7, rfl, _, _⟩ := World.ownsRow.form hO7.out (by omega)
               clear hG7)
            | (refine step_gate (by rfl) ?_
               refine step_copy (by rfl) _ _ (by rfl) wc.heap.size v5 _ (by rfl) (by rfl) i 1 (fieldCells (fieldsO accB M)) [.string accN, .string zzB] hO5.out hl5.out HONEZ.out (by omega) (Below.size hb5) (i + 1) (fieldCells (fieldsO accB M) ++ [.string accN, .string zzB]) (by omega) (by rfl) ?_
               intro v7 w7 hO7 hG7
               have hb7 : Below wc.heap.size wc w7 := Below.grown hb5 hG7 (Below.size hb5) (fun g e => (World.ownsRow.lt hO5.out g e).1)
               obtain ⟨g7, c7, rfl, _, _⟩ := World.ownsRow.form hO7.out (by omega)
               clear hG7)
            | (go_simp
               go_at_call 27
               (with_reducible refine Calls.mono (HBC.out.ab _ (by assumption)) ?_)
               rintro e wn ⟨rfl, hbn⟩)
            | (go_simp
               go_at_call 27
               (with_reducible refine Calls.mono (CAC.out _ (by assumption)) ?_)
               rintro e wn ⟨rfl, hbn⟩)
            | (go_simp
               go_at_call 27
               (with_reducible refine Calls.mono (CAZ.out _ _ _ (by assumption) (by assumption)) ?_)
               rintro e wn ⟨rfl, hbn⟩))
        all_goals
          have HF := Lib.hid (HFIN.out wn hbn)
          go_wp2
          go_ret
          exact ⟨rfl, HF.out⟩
end Go.Proofs.YtkpkpfolgbpjbaaDoor
