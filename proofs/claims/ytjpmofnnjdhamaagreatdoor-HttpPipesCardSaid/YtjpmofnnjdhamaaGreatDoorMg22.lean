/-
  The reference's framing.
  A message's four cells, written at once; what the reference's calls give.
  The reference's Request.
  What known's messages are.
  A response of three digits: mathematics.
  The reference's way to a response's first line: mathematics.
  The reference's Response: where it stands.
  The reference's Response: a bad head, a bad first line.
  The reference's Response: a good first line.
  The reference's Response: a good first line.
  The reference's Response, whole.
-/
import Derived.Test.YtjpmofnnjdhamaaGreatDoorMg5
import Derived.Test.YtjpmofnnjdhamaaGreatDoorMg12
import Derived.Test.YtjpmofnnjdhamaaGreatDoorMg13
import Derived.Test.YtjpmofnnjdhamaaGreatDoorMg15
import Derived.Test.YtjpmofnnjdhamaaGreatDoorMg18
import Derived.Test.YtjpmofnnjdhamaaGreatDoorMg19
import Derived.Test.YtjpmofnnjdhamaaGreatDoorMg20
import Derived.Test.YtjpmofnnjdhamaaGreatDoorMg21
namespace Go.Proofs.YtjpmofnnjdhamaaGreatDoor
open Go.RowKit HeadMath NormMath NormS HeadS ChunkMath HttpMath

/-- Framing: chunked; the length; whether it is told. -/
def frLen (r : Except Nat Nat) : Except Nat (Bool × Nat × Bool) := match r with
  | .error e => .error e
  | .ok n => if 65536 < n then .error 93 else .ok (false, n, true)
def frF (fs : Fs) : Except Nat (Bool × Nat × Bool) :=
  if (allF nTE fs).length = 0 then (if getF nCL fs = none then .ok (false, 0, false) else frLen (sizeF fs))
  else if onlyF (allF nTE fs) = true ∧ getF nCL fs = none then .ok (true, 0, true) else .error 94
theorem partsF_pos : ∀ (n : Nat) (v : ByteArray), v.size ≤ n → ∀ p ∈ partsF v, p.size ≠ 0 := by
  intro n
  induction n with
  | zero =>
    intro v hv p hp
    rw [partsF_nil (by omega)] at hp
    cases hp
  | succ n ih =>
    intro v hv p hp
    by_cases h0 : v.size = 0
    · rw [partsF_nil h0] at hp; cases hp
    · have hr := restOf_size v
      by_cases h1 : (pieceOf v).size = 0
      · rw [partsF_skip h0 h1] at hp
        exact ih (restOf v) (by omega) p hp
      · rw [partsF_take h0 h1] at hp
        rcases List.mem_cons.1 hp with rfl | hp
        · exact h1
        · exact ih (restOf v) (by omega) p hp
theorem listF_pos {n : ByteArray} {l : Fs} : ∀ p ∈ listF n l, p.size ≠ 0 := by
  intro p hp
  unfold listF at hp
  obtain ⟨v, _, hp⟩ := List.mem_flatMap.1 hp
  exact partsF_pos _ v (Nat.le_refl _) p hp
theorem getF_all {n : ByteArray} {l : Fs} (h : getF n l = none) : allF n l = [] := by
  unfold getF at h
  unfold allF
  rw [Option.map_eq_none_iff, List.find?_eq_none] at h
  rw [List.filter_eq_nil_iff.2 (fun x hx => h x hx)]
  rfl
theorem sizeF_none {l : Fs} (h : getF nCL l = none) : sizeF l = .ok 0 := by
  unfold sizeF listF
  rw [getF_all h]
  rfl
/-- What framing says of what stands behind. -/
theorem framed_fr (fs : Fs) (rest : Bs) : framedF fs rest = match frF fs with
    | .error e => .error e
    | .ok (c, n, _) => if c = true then chunkF rest else if rest.length < n then .error 92 else .ok (rest.take n, n) := by
  unfold framedF frF
  by_cases h : (allF nTE fs).length = 0
  · rw [if_pos h, if_pos h]
    by_cases hg : getF nCL fs = none
    · rw [if_pos hg, sizeF_none hg]
      rfl
    · rw [if_neg hg]
      cases sizeF fs with
      | error e => rfl
      | ok n =>
        show (if 65536 < n then _ else _) = _
        unfold frLen
        by_cases hn : 65536 < n
        · simp only [if_pos hn]
        · simp only [if_neg hn]
          rfl
  · rw [if_neg h, if_neg h]
    by_cases hg : onlyF (allF nTE fs) = true ∧ getF nCL fs = none
    · rw [if_pos hg, if_pos hg]; rfl
    · rw [if_neg hg, if_neg hg]
def frV (r : Except Nat (Bool × Nat × Bool)) : Value := match r with
  | .error n => .tuple #[.bool false, .int .i64 0, .bool false, .int .i64 n]
  | .ok (c, n, t) => .tuple #[.bool c, .int .i64 n, .bool t, .int .i64 0]
def FrPost (r : Except Nat (Bool × Nat × Bool)) (w : World) (e : Ending) (w' : World) : Prop := e = .returned (frV r) ∧ Spares nowhere w w'
theorem frPost {r r' : Except Nat (Bool × Nat × Bool)} {w w' : World} {e : Ending} (h : r = r') (he : e = .returned (frV r')) (hs : Spares nowhere w w') : FrPost r w e w' := ⟨by rw [h]; exact he, hs⟩
theorem size_toList (x : ByteArray) : x.data.toList.length = x.size := by simp
theorem numF_18 {x : ByteArray} (h0 : x.size ≠ 0) (h18 : x.size ≤ 18) : DateMath.numF x.data.toList 18 = if x.data.toList.all DateMath.digitD = true then some (DateMath.valD x.data.toList) else none := by
  unfold DateMath.numF
  rw [size_toList]
  by_cases h : x.data.toList.all DateMath.digitD = true
  · rw [if_pos ⟨h0, h18, h⟩, if_pos h]
  · rw [if_neg (fun h' => h h'.2.2), if_neg h]
theorem numF_long {x : ByteArray} (h18 : 18 < x.size) : DateMath.numF x.data.toList 18 = none := by
  unfold DateMath.numF
  rw [size_toList, if_neg (fun h => by omega)]
theorem results_tmp4 {fn : Func} {t u v x : Tmp} (h : fn.results = #[.tmp t, .tmp u, .tmp v, .tmp x]) (tmps : Array Value) (P : Program) (w : World) :
    (results fn tmps).run P w = .ok (.tuple #[tmps.getD t undef, tmps.getD u undef, tmps.getD v undef, tmps.getD x undef]) w := by
  simp [results, h]
set_option maxRecDepth 100000 in
set_option maxHeartbeats 16000000 in
theorem refFraming_any (l : Fs) (a : Option Addr) (cap n : Nat) (w : World) (hin : FieldsIn w.heap.size w a l) (hN : n = l.length) (hsm : SmallF l) (hle : l.length ≤ 100000) (hvs : ∀ j (h : j < l.length), l[j].2.size ≤ 1000000) :
    Calls Tryz.prog 59 #[.slice a n cap] w (FrPost (frF l) w) := by
  have C1 := (refAll_any l nTE a cap n w hin hN hsm (by omega) (by decide)).mono fun _ _ h => h.slice
  have C2 : Hid (∀ W, Below w.heap.size w W → Calls Tryz.prog 82 #[.slice a n cap, .string nCL] W (SSlice W (listF nCL l))) := Lib.hid (fun W hb => (refList_any l nCL a cap n W (hin.below hb hb.size) hN hsm hle hvs (by decide)).mono fun _ _ h => h.slice)
  have C3 : Hid (∀ W, Below w.heap.size w W → Calls Tryz.prog 37 #[.slice a n cap, .string nCL] W (GetPost nCL l W)) := Lib.hid (fun W hb => refGet_any l nCL a cap n W (hin.below hb hb.size) hN hsm (by omega) (by decide))
  have hmem := listF_mem (n := nCL) hvs
  have hpos := listF_pos (n := nCL) (l := l)
  have hlen := listF_len (n := nCL) (l := l) (by omega) hvs
  have htm := allF_size (n := nTE) hvs
  have htl := allF_len nTE l
  obtain ⟨R, hR⟩ : ∃ R, frF l = R := ⟨_, rfl⟩
  rw [hR]
  have HR : Hid (R = if (allF nTE l).length = 0 then (if getF nCL l = none then .ok (false, 0, false) else frLen (sizeL (listF nCL l))) else if onlyF (allF nTE l) = true ∧ getF nCL l = none then .ok (true, 0, true) else .error 94) := Lib.hid hR.symm
  obtain ⟨T, hT⟩ : ∃ T, allF nTE l = T := ⟨_, rfl⟩
  obtain ⟨C, hC⟩ : ∃ C, listF nCL l = C := ⟨_, rfl⟩
  rw [hT] at C1 htm htl HR
  rw [hC] at C2 hmem hpos hlen HR
  have HMEM := Lib.hid hmem
  have HPOS := Lib.hid hpos
  have HTM := Lib.hid htm
  have htl2 : T.length ≤ 100000 := by omega
  have hG : ∀ W, GetPost nCL l W = fun e w' => Below W.heap.size W w' ∧ ((getF nCL l = none ∧ e = .returned (.tuple #[.string { data := #[] }, .bool false])) ∨ ∃ v, getF nCL l = some v ∧ e = .returned (.tuple #[.string v, .bool true])) := fun _ => rfl
  simp only [hG] at C3
  obtain ⟨G, hGG⟩ : ∃ G, getF nCL l = G := ⟨_, rfl⟩
  rw [hGG] at HR
  simp only [hGG] at C3
  unfold nTE at C1
  unfold nCL at C2 C3
  clear hin hN hsm hle hvs hmem hpos htm htl hR hT hC hG hGG
  go_enter Tryz.func59, Tryz.ntmps59
  go_wp2_with fail
  refine C1.mono ?_
  rintro e w1 ⟨ta, tc, rfl, htin, hb1⟩
  go_wp2_with fail
  refine (C2.out w1 hb1).mono ?_
  rintro e w2 ⟨ca, cc, rfl, hcin, hb2⟩
  have hb12 : Below w.heap.size w w2 := hb1.trans (hb2.mono hb1.size)
  have htin2 := htin.below hb2 hb2.size
  go_wp2_with fail
  refine (C3.out w2 hb12).mono ?_
  rintro e w3 ⟨hb3, hgot⟩
  have HS3 : Hid (Spares nowhere w w3) := Lib.hid (Below.spares (F := nowhere) (hb12.trans (hb3.mono hb12.size)) (fun k hk => .inr hk))
  have HTI : Hid (StrsIn w3.heap.size w3 ta T) := Lib.hid (htin2.below hb3 hb3.size)
  have HCI : Hid (StrsIn w3.heap.size w3 ca C) := Lib.hid (hcin.below hb3 hb3.size)
  clear C1 C2 C3 htin hcin hb1 hb2 hb12 htin2 hb3
  obtain ⟨tn, htn⟩ : ∃ tn, T.length = tn := ⟨_, rfl⟩
  have HTN := Lib.hid htn
  rw [htn] at htl2 ⊢
  obtain ⟨cn, hcn⟩ : ∃ cn, C.length = cn := ⟨_, rfl⟩
  have HCN := Lib.hid hcn
  rw [hcn] at hlen ⊢
  clear htn hcn
  by_cases t0 : tn = 0
  · subst t0
    rcases hgot with ⟨hg, rfl⟩ | ⟨v, hg, rfl⟩
    · have HE : Hid (R = .ok (false, 0, false)) := Lib.hid (by rw [HR.out, if_pos HTN.out, if_pos hg])
      clear hg
      go_wp2
      ((try simp only [Exit.inBlock, Exit.then]); refine bodyPost_ret (results_tmp4 rfl _ _ _) rfl ?_)
      exact frPost HE.out rfl HS3.out
    · have HE1 : Hid (R = frLen (sizeL C)) := Lib.hid (by rw [HR.out, if_pos HTN.out, if_neg (by rw [hg]; exact fun h => by cases h)])
      clear hg
      by_cases c0 : cn = 0
      · subst c0
        have HE : Hid (R = .ok (false, 0, true)) := Lib.hid (by rw [HE1.out, List.eq_nil_of_length_eq_zero HCN.out]; rfl)
        go_wp2
        ((try simp only [Exit.inBlock, Exit.then]); refine bodyPost_ret (results_tmp4 rfl _ _ _) rfl ?_)
        exact frPost HE.out rfl HS3.out
      · obtain ⟨x, r, hxr⟩ : ∃ x r, C = x :: r := by
          cases C with
          | nil => exact absurd HCN.out.symm c0
          | cons x r => exact ⟨x, r, rfl⟩
        subst hxr
        have n2 : ((cn : Int) == 0) = false := beq_eq_false_iff_ne.2 (by omega)
        have n1 : 1 ≤ cn := by omega
        obtain ⟨g, o, e, hgl, x0⟩ := HCI.out 0 (by simp)
        subst e
        rw [List.getElem_cons_zero, Nat.add_zero] at x0
        have HX0 : Hid (x.size ≠ 0) := Lib.hid (HPOS.out x (by simp))
        have HXS : Hid (x.size ≤ 1000000) := Lib.hid (HMEM.out x (by simp))
        clear c0
        go_wp2
        go_loopw [11] (fun i wr => ∃ j : Nat, j ≤ cn ∧ i = .int .i64 j ∧ Hid (Spares nowhere w3 wr) ∧ Hid (∀ i (h : i < (x :: r).length), i < j → (x :: r)[i] = x ∧ x.size ≤ 18)) (fun i _ => cn - (intOf i).toNat)
        case atStart => exact ⟨0, Nat.zero_le _, rfl, Lib.hid (Spares.refl _ _), Lib.hid (fun i _ h => absurd h (Nat.not_lt_zero _))⟩
        case round =>
          obtain ⟨j, hj, rfl, HSR, HA⟩ := hrel
          have HSW : Hid (Spares nowhere w wr) := Lib.hid (HS3.out.trans HSR.out)
          have HCW : Hid (StrsIn wr.heap.size wr (some ⟨g, o, none⟩) (x :: r)) := Lib.hid (StrsIn.quiet HCI.out (Nat.le_refl _) HSR.out HSR.out.size)
          have x1 : wr.cell? ⟨g, o, none⟩ = some (.string x) := by
            obtain ⟨g5, o5, e5, _, h5⟩ := HCW.out 0 (by simp)
            injection e5 with e5
            injection e5 with e6 e7
            subst e6
            subst e7
            exact h5
          by_cases hlt : j < cn
          · have hjL : j < (x :: r).length := by rw [HCN.out]; exact hlt
            obtain ⟨g2, o2, e, _, y0⟩ := HCW.out j hjL
            injection e with e
            injection e with e1 e2
            subst e1
            subst e2
            obtain ⟨y, hy⟩ : ∃ y, (x :: r)[j] = y := ⟨_, rfl⟩
            rw [hy] at y0
            have HY := Lib.hid hy
            clear hy
            have i1 : (j : Int) < (cn : Int) := by omega
            by_cases he : y = x
            · have q := strEq_yes he
              have q' : (y.toList != x.toList) = false := by unfold bne; rw [q]; rfl
              by_cases h18 : x.size ≤ 18
              · have HA1 : Hid (∀ i (h : i < (x :: r).length), i < j + 1 → (x :: r)[i] = x ∧ x.size ≤ 18) := Lib.hid (fun i h hi => by
                  by_cases e : i = j
                  · subst e; rw [HY.out]; exact ⟨he, h18⟩
                  · exact HA.out i h (by omega))
                have HE' := Lib.hid he
                have d18 : decide ((18 : Int) < (y.size : Int)) = false := by rw [he]; simp; omega
                clear he
                go_wp2
                go_quiet (fail)
                go_wp2
                go_roundw
                case rel => exact ⟨j + 1, by omega, by go_num, Lib.hid (HSR.out.drewN _), HA1⟩
                case measure => simp [intOf]; omega
              · have HF : Hid (R = .error 94) := Lib.hid (by
                  rw [HE1.out]
                  unfold sizeL
                  simp only [numF_long (show 18 < x.size by omega)]
                  by_cases h : r.all (fun y => y.data.toList == x.data.toList) = true
                  · simp only [if_pos h]; rfl
                  · simp only [if_neg h]; rfl)
                have d18 : decide ((18 : Int) < (y.size : Int)) = true := by rw [he]; simp; omega
                clear he
                go_wp2
                go_quiet (fail)
                go_wp2
                ((try simp only [Exit.inBlock, Exit.then]); refine bodyPost_ret (results_tmp4 rfl _ _ _) rfl ?_)
                exact frPost HF.out rfl (HSW.out.drewN _)
            · have q := strEq_no he
              have q' : (y.toList != x.toList) = true := by unfold bne; rw [q]; rfl
              have HF : Hid (R = .error 94) := Lib.hid (by
                rw [HE1.out]
                show frLen (if r.all (fun y => y.data.toList == x.data.toList) = true then _ else Except.error 94) = _
                rw [if_neg]
                · rfl
                intro h
                rw [List.all_eq_true] at h
                cases j with
                | zero => exact he (by rw [← HY.out]; rfl)
                | succ j =>
                  have hm : y ∈ r := by rw [← HY.out, List.getElem_cons_succ]; exact List.getElem_mem _
                  exact he (data_inj (beq_iff_eq.1 (h y hm))))
              clear he
              go_wp2
              go_quiet (fail)
              go_wp2
              ((try simp only [Exit.inBlock, Exit.then]); refine bodyPost_ret (results_tmp4 rfl _ _ _) rfl ?_)
              exact frPost HF.out rfl (HSW.out.drewN _)
          · have hall : r.all (fun y => y.data.toList == x.data.toList) = true := by
              rw [List.all_eq_true]
              intro y hy
              obtain ⟨i, hi, rfl⟩ := List.getElem_of_mem hy
              have := (HA.out (i + 1) (by simpa using hi) (by have := HCN.out; simp at this; omega)).1
              rw [List.getElem_cons_succ] at this
              rw [this]; simp
            have h18 : x.size ≤ 18 := (HA.out 0 (by simp) (by omega)).2
            have HF : Hid (R = frLen (if x.data.toList.all DateMath.digitD = true then .ok (DateMath.valD x.data.toList) else .error 94)) := Lib.hid (by
              rw [HE1.out]
              congr 1
              show (if r.all (fun y => y.data.toList == x.data.toList) = true then _ else Except.error 94) = _
              rw [if_pos hall, numF_18 HX0.out h18]
              by_cases hd : x.data.toList.all DateMath.digitD = true
              · simp only [if_pos hd]
              · simp only [if_neg hd])
            have i1 : ¬ (j : Int) < (cn : Int) := by omega
            clear hall
            go_wp2
            go_loop [10, 12] (fun n i => ∃ k : Nat, k ≤ x.size ∧ i = .int .i64 k ∧ n = .int .i64 (DateMath.valD (x.data.toList.take k)) ∧ Hid ((x.data.toList.take k).all DateMath.digitD = true)) (fun _ i => x.size - (intOf i).toNat)
            case atStart => exact ⟨0, Nat.zero_le _, rfl, rfl, Lib.hid rfl⟩
            case round =>
              obtain ⟨k, hk, rfl, rfl, HK⟩ := hrel
              by_cases hlt2 : k < x.size
              · have hts := take_snocD x k hlt2
                have hb := valD_lt _ HK.out
                have hkl : (x.data.toList.take k).length = k := by rw [List.length_take, size_toList]; omega
                rw [hkl] at hb
                have hp : (10 : Nat) ^ k ≤ 10 ^ 17 := Nat.pow_le_pow_right (by decide) (by omega)
                have hv : DateMath.valD (x.data.toList.take k) ≤ 99999999999999999 := by
                  rw [show (10 : Nat) ^ 17 = 100000000000000000 from by decide] at hp
                  omega
                have hsn := valD_snoc (x.data.toList.take k) x[k]
                have hc := x[k].toNat_lt
                have HT : Hid (DateMath.valD (x.data.toList.take (k + 1)) = DateMath.valD (x.data.toList.take k) * 10 + (x[k].toNat - 48)) := Lib.hid (by rw [hts, hsn])
                have HTA : Hid ((x.data.toList.take (k + 1)).all DateMath.digitD = ((x.data.toList.take k).all DateMath.digitD && DateMath.digitD x[k])) := Lib.hid (by rw [hts]; simp)
                have hmem : x[k] ∈ x.data.toList := List.mem_iff_getElem.2 ⟨k, by rw [size_toList]; omega, by simp; rfl⟩
                have hdd : DateMath.digitD x[k] = decide (48 ≤ x[k].toNat ∧ x[k].toNat ≤ 57) := rfl
                obtain ⟨V, hV⟩ : ∃ V, DateMath.valD (x.data.toList.take k) = V := ⟨_, rfl⟩
                rw [hV] at hv HT ⊢
                have i2 : (k : Int) < (x.size : Int) := by omega
                clear hts hb hkl hp hsn hV
                by_cases hd : DateMath.digitD x[k] = true
                · have hd2 := hd
                  rw [hdd, decide_eq_true_iff] at hd2
                  have HTA2 : Hid ((x.data.toList.take (k + 1)).all DateMath.digitD = true) := Lib.hid (by rw [HTA.out, HK.out, hd]; rfl)
                  have g1 : ¬ (x[k].toNat : Int) < 48 := by omega
                  have g2 : ¬ (57 : Int) < (x[k].toNat : Int) := by omega
                  have d1 : decide ((x[k].toNat : Int) < 48) = false := by simp; omega
                  have d2 : decide ((57 : Int) < (x[k].toNat : Int)) = false := by simp; omega
                  obtain ⟨dv, hdv⟩ : ∃ dv : Nat, x[k].toNat = 48 + dv := ⟨x[k].toNat - 48, by omega⟩
                  clear hd hdd hmem
                  go_wp2
                  go_round
                  case rel => exact ⟨k + 1, by omega, by go_num, by rw [HT.out]; congr 1; go_num, HTA2⟩
                  case measure => simp [intOf]; omega
                · have hd2 : ¬ (48 ≤ x[k].toNat ∧ x[k].toNat ≤ 57) := fun h => hd (by rw [hdd]; exact decide_eq_true h)
                  have HF2 : Hid (R = .error 94) := Lib.hid (by
                    rw [HF.out, if_neg]
                    · rfl
                    intro h
                    exact hd (List.all_eq_true.1 h _ hmem))
                  clear hd hdd hmem
                  by_cases h48 : x[k].toNat < 48
                  · have d1 : decide ((x[k].toNat : Int) < 48) = true := by simp; omega
                    clear hd2
                    go_wp2
                    ((try simp only [Exit.inBlock, Exit.then]); refine bodyPost_ret (results_tmp4 rfl _ _ _) rfl ?_)
                    exact frPost HF2.out rfl HSW.out
                  · have d1 : decide ((x[k].toNat : Int) < 48) = false := by simp; omega
                    have d2 : decide ((57 : Int) < (x[k].toNat : Int)) = true := by simp; omega
                    clear hd2
                    go_wp2
                    ((try simp only [Exit.inBlock, Exit.then]); refine bodyPost_ret (results_tmp4 rfl _ _ _) rfl ?_)
                    exact frPost HF2.out rfl HSW.out
              · obtain rfl : k = x.size := by omega
                have ht : x.data.toList.take x.size = x.data.toList := List.take_of_length_le (by rw [size_toList]; exact Nat.le_refl _)
                rw [ht] at HK ⊢
                have hb := valD_lt _ HK.out
                rw [size_toList] at hb
                have hp : (10 : Nat) ^ x.size ≤ 10 ^ 18 := Nat.pow_le_pow_right (by decide) h18
                obtain ⟨V, hV⟩ : ∃ V, DateMath.valD x.data.toList = V := ⟨_, rfl⟩
                rw [hV] at hb ⊢
                have HF2 : Hid (R = if 65536 < V then .error 93 else .ok (false, V, true)) := Lib.hid (by
                  rw [HF.out, if_pos HK.out, hV]; rfl)
                have hv : V ≤ 999999999999999999 := by
                  rw [show (10 : Nat) ^ 18 = 1000000000000000000 from by decide] at hp
                  omega
                have i2 : ¬ (x.size : Int) < (x.size : Int) := by omega
                clear ht hb hp hV HK
                by_cases h65 : 65536 < V
                · have d1 : (65536 : Int) < (V : Int) := by omega
                  have HF3 : Hid (R = .error 93) := Lib.hid (by rw [HF2.out, if_pos h65])
                  go_wp2
                  ((try simp only [Exit.inBlock, Exit.then]); refine bodyPost_ret (results_tmp4 rfl _ _ _) rfl ?_)
                  exact frPost HF3.out rfl HSW.out
                · have d1 : ¬ (65536 : Int) < (V : Int) := by omega
                  have HF3 : Hid (R = .ok (false, V, true)) := Lib.hid (by rw [HF2.out, if_neg h65])
                  go_wp2
                  ((try simp only [Exit.inBlock, Exit.then]); refine bodyPost_ret (results_tmp4 rfl _ _ _) rfl ?_)
                  exact frPost HF3.out rfl HSW.out
  · have k0 : (0 : Int) < (tn : Int) := by omega
    by_cases t1 : 1 < tn
    · have k1 : (1 : Int) < (tn : Int) := by omega
      have HE : Hid (R = .error 94) := Lib.hid (by
        rw [HR.out, if_neg (by rw [HTN.out]; exact t0), if_neg]
        intro h
        have h1 := h.1
        match hT : T with
        | [] => exact t0 HTN.out.symm
        | [_] => have := HTN.out; simp at this; omega
        | _ :: _ :: _ => cases h1)
      rcases hgot with ⟨_, rfl⟩ | ⟨v, _, rfl⟩
      · go_wp2
        ((try simp only [Exit.inBlock, Exit.then]); refine bodyPost_ret (results_tmp4 rfl _ _ _) rfl ?_)
        exact frPost HE.out rfl HS3.out
      · go_wp2
        ((try simp only [Exit.inBlock, Exit.then]); refine bodyPost_ret (results_tmp4 rfl _ _ _) rfl ?_)
        exact frPost HE.out rfl HS3.out
    · obtain ⟨x, hx⟩ : ∃ x, T = [x] := by
        match hT : T with
        | [] => exact absurd HTN.out.symm t0
        | [x] => exact ⟨x, rfl⟩
        | _ :: _ :: _ => have := HTN.out; simp at this; omega
      subst hx
      obtain rfl : tn = 1 := HTN.out.symm
      obtain ⟨g, o, e, hgl, x0⟩ := HTI.out 0 (by simp)
      subst e
      rw [List.getElem_cons_zero, Nat.add_zero] at x0
      have cS := refSame_any x ⟨#[99, 104, 117, 110, 107, 101, 100]⟩ w3 (by have := HTM.out x (by simp); omega) (by decide)
      obtain ⟨s, hs⟩ : ∃ s, sameF x.data.toList (⟨#[99, 104, 117, 110, 107, 101, 100]⟩ : ByteArray).data.toList = s := ⟨_, rfl⟩
      rw [hs] at cS
      have HE0 : Hid (R = if s = true ∧ G = none then .ok (true, 0, true) else .error 94) := Lib.hid (by
        rw [HR.out, if_neg (by simp)]
        have : onlyF [x] = s := hs
        rw [this])
      clear hs t0 t1
      rcases hgot with ⟨hg, rfl⟩ | ⟨v, hg, rfl⟩
      · cases s with
        | true =>
          have HE : Hid (R = .ok (true, 0, true)) := Lib.hid (by rw [HE0.out, if_pos ⟨rfl, hg⟩])
          clear hg
          go_wp2_with fail
          refine cS.mono ?_
          rintro e w4 ⟨rfl, hb4⟩
          have HS4 := Lib.hid (HS3.out.trans (Below.spares (F := nowhere) hb4 (fun k hk => .inr hk)))
          go_wp2
          ((try simp only [Exit.inBlock, Exit.then]); refine bodyPost_ret (results_tmp4 rfl _ _ _) rfl ?_)
          exact frPost HE.out rfl HS4.out
        | false =>
          have HE : Hid (R = .error 94) := Lib.hid (by rw [HE0.out, if_neg (fun h => by cases h.1)])
          clear hg
          go_wp2_with fail
          refine cS.mono ?_
          rintro e w4 ⟨rfl, hb4⟩
          have HS4 := Lib.hid (HS3.out.trans (Below.spares (F := nowhere) hb4 (fun k hk => .inr hk)))
          go_wp2
          ((try simp only [Exit.inBlock, Exit.then]); refine bodyPost_ret (results_tmp4 rfl _ _ _) rfl ?_)
          exact frPost HE.out rfl HS4.out
      · have HE : Hid (R = .error 94) := Lib.hid (by rw [HE0.out, if_neg (fun h => by rw [hg] at h; cases h.2)])
        clear hg
        cases s with
        | true =>
          go_wp2_with fail
          refine cS.mono ?_
          rintro e w4 ⟨rfl, hb4⟩
          have HS4 := Lib.hid (HS3.out.trans (Below.spares (F := nowhere) hb4 (fun k hk => .inr hk)))
          go_wp2
          ((try simp only [Exit.inBlock, Exit.then]); refine bodyPost_ret (results_tmp4 rfl _ _ _) rfl ?_)
          exact frPost HE.out rfl HS4.out
        | false =>
          go_wp2_with fail
          refine cS.mono ?_
          rintro e w4 ⟨rfl, hb4⟩
          have HS4 := Lib.hid (HS3.out.trans (Below.spares (F := nowhere) hb4 (fun k hk => .inr hk)))
          go_wp2
          ((try simp only [Exit.inBlock, Exit.then]); refine bodyPost_ret (results_tmp4 rfl _ _ _) rfl ?_)
          exact frPost HE.out rfl HS4.out
end Go.Proofs.YtjpmofnnjdhamaaGreatDoor
namespace Go.Proofs.YtjpmofnnjdhamaaGreatDoor
open Go.RowKit HeadMath NormMath NormS HeadS ChunkMath HttpMath

structure PutAt (t : TypeId) (p : Nat) (v : World) (y0 y1 y2 y3 : Value) (u : World) : Prop where
  chain : (((v.setCell ⟨p, 0, none⟩ y0).setCell ⟨p, 1, none⟩ y1).setCell ⟨p, 2, none⟩ y2).setCell ⟨p, 3, none⟩ y3 = u
  c0 : ∃ x, v.cell? ⟨p, 0, none⟩ = some x
  f0 : v.frozen? ⟨p, 0, none⟩ = false
  c1 : ∃ x, (v.setCell ⟨p, 0, none⟩ y0).cell? ⟨p, 1, none⟩ = some x
  f1 : (v.setCell ⟨p, 0, none⟩ y0).frozen? ⟨p, 1, none⟩ = false
  c2 : ∃ x, ((v.setCell ⟨p, 0, none⟩ y0).setCell ⟨p, 1, none⟩ y1).cell? ⟨p, 2, none⟩ = some x
  f2 : ((v.setCell ⟨p, 0, none⟩ y0).setCell ⟨p, 1, none⟩ y1).frozen? ⟨p, 2, none⟩ = false
  c3 : ∃ x, (((v.setCell ⟨p, 0, none⟩ y0).setCell ⟨p, 1, none⟩ y1).setCell ⟨p, 2, none⟩ y2).cell? ⟨p, 3, none⟩ = some x
  f3 : (((v.setCell ⟨p, 0, none⟩ y0).setCell ⟨p, 1, none⟩ y1).setCell ⟨p, 2, none⟩ y2).frozen? ⟨p, 3, none⟩ = false
  h0 : u.heap[p]? = some (.cells #[y0, y1, y2, y3] t (0, 0))
  sp : Spares (fun k => k = p) v u
theorem put_at {t : TypeId} {p : Nat} {v : World} {x0 x1 x2 x3 : Value} (h : v.heap[p]? = some (.cells #[x0, x1, x2, x3] t (0, 0))) (y0 y1 y2 y3 : Value) : ∃ u, PutAt t p v y0 y1 y2 y3 u := by
  obtain ⟨⟨a1, a2⟩, ⟨a3, a4⟩, ⟨a5, a6⟩, ⟨a7, a8⟩⟩ := store_four h y0 y1 y2
  refine ⟨_, rfl, ⟨_, a1⟩, a2, ⟨_, a3⟩, a4, ⟨_, a5⟩, a6, ⟨_, a7⟩, a8, ?_, ?_⟩
  · have h1 := set_at (i := 0) h y0
    have h2 := set_at (i := 1) h1 y1
    have h3 := set_at (i := 2) h2 y2
    exact (set_at (i := 3) h3 y3).trans rfl
  · exact ((((Spares.refl (fun k => k = p) v).setCell (p := ⟨p, 0, none⟩) (.inl rfl) _).setCell (p := ⟨p, 1, none⟩) (.inl rfl) _).setCell (p := ⟨p, 2, none⟩) (.inl rfl) _).setCell (p := ⟨p, 3, none⟩) (.inl rfl) _
/-- The result's four cells. -/
structure QAt (t : TypeId) (w : World) (x0 x1 x2 x3 : Value) (wr : World) : Prop where
  b0 : wr.heap[w.heap.size]? = some (.cells #[x0, x1, x2, x3] t (0, 0))
  sp : Spares nowhere w wr
theorem QAt.quiet {t : TypeId} {w wr w' : World} {x0 x1 x2 x3 : Value} (h : QAt t w x0 x1 x2 x3 wr) (hs : Spares nowhere wr w') : QAt t w x0 x1 x2 x3 w' := ⟨hs.heap h.b0 (fun h => h), h.sp.trans hs⟩
theorem QAt.lt {t : TypeId} {w wr : World} {x0 x1 x2 x3 : Value} (h : QAt t w x0 x1 x2 x3 wr) : w.heap.size < wr.heap.size := (Array.getElem?_eq_some_iff.1 h.b0).1
theorem QAt.put {t : TypeId} {w wr u : World} {x0 x1 x2 x3 y0 y1 y2 y3 : Value} (h : QAt t w x0 x1 x2 x3 wr) (hp : PutAt t w.heap.size wr y0 y1 y2 y3 u) : QAt t w y0 y1 y2 y3 u := ⟨hp.h0, h.sp.trans' hp.sp (fun k hk => .inr (by omega))⟩
theorem results_refq {w : World} {p : Nat} {x0 x1 x2 x3 : Value} (tmps : Array Value) (h2 : tmps.getD 2 undef = .pointer (some ⟨p, 0, none⟩)) (hp : w.heap[p]? = some (.cells #[x0, x1, x2, x3] 25 (0, 0))) :
    (results Tryz.f25 tmps).run Tryz.prog w = .ok (.tuple #[.agg #[x0, x1, x2, x3], tmps.getD 3 undef, tmps.getD 4 undef]) w := by
  have h2' : tmps[2]?.getD undef = .pointer (some ⟨p, 0, none⟩) := by simpa using h2
  have d0 : w.cell? ⟨p, 0, none⟩ = some x0 := (Lib.cell_of_heap hp 0).trans rfl
  have d1 : w.cell? ⟨p, 1, none⟩ = some x1 := (Lib.cell_of_heap hp 1).trans rfl
  have d2 : w.cell? ⟨p, 2, none⟩ = some x2 := (Lib.cell_of_heap hp 2).trans rfl
  have d3 : w.cell? ⟨p, 3, none⟩ = some x3 := (Lib.cell_of_heap hp 3).trans rfl
  simp [results, Tryz.results25, h2', asAddr, go_sem, d0, d1, d2, d3]
theorem results_refr {w : World} {p : Nat} {x0 x1 x2 x3 : Value} (tmps : Array Value) (h2 : tmps.getD 4 undef = .pointer (some ⟨p, 0, none⟩)) (hp : w.heap[p]? = some (.cells #[x0, x1, x2, x3] 27 (0, 0))) :
    (results Tryz.f26 tmps).run Tryz.prog w = .ok (.tuple #[.agg #[x0, x1, x2, x3], tmps.getD 5 undef]) w := by
  have h2' : tmps[4]?.getD undef = .pointer (some ⟨p, 0, none⟩) := by simpa using h2
  have d0 : w.cell? ⟨p, 0, none⟩ = some x0 := (Lib.cell_of_heap hp 0).trans rfl
  have d1 : w.cell? ⟨p, 1, none⟩ = some x1 := (Lib.cell_of_heap hp 1).trans rfl
  have d2 : w.cell? ⟨p, 2, none⟩ = some x2 := (Lib.cell_of_heap hp 2).trans rfl
  have d3 : w.cell? ⟨p, 3, none⟩ = some x3 := (Lib.cell_of_heap hp 3).trans rfl
  simp [results, Tryz.results26, h2', asAddr, go_sem, d0, d1, d2, d3]
theorem headF_err {b : Bs} {x : Nat} (h : headF b = .error x) : x ≠ 0 := by
  unfold headF at h
  split at h
  · injection h with h; subst h; split <;> decide
  · split at h
    · cases h
    · injection h with h; omega
theorem fieldsF_err {ls : List Bs} {x : Nat} (h : fieldsF ls = .error x) : x ≠ 0 := by
  unfold fieldsF at h
  split at h
  · injection h with h; omega
  · split at h
    · injection h with h; omega
    · cases h
theorem sizeL_err {L : List ByteArray} {x : Nat} (h : sizeL L = .error x) : x ≠ 0 := by
  unfold sizeL at h
  split at h
  · cases h
  · split at h
    · split at h
      · injection h with h; omega
      · cases h
    · injection h with h; omega
theorem frF_err {fs : Fs} {x : Nat} (h : frF fs = .error x) : x ≠ 0 := by
  unfold frF at h
  split at h
  · split at h
    · cases h
    · unfold frLen at h
      split at h
      · rename_i e he
        injection h with h
        subst h
        exact sizeL_err he
      · split at h
        · injection h with h; omega
        · cases h
  · split at h
    · cases h
    · injection h with h; omega
def RFields (r : Except Nat Fs) (w : World) (e : Ending) (w' : World) : Prop := (match r with
  | .error n => e = .returned (.tuple #[.slice none 0 0, .int .i64 n])
  | .ok fs => ∃ v, e = .returned (.tuple #[v, .int .i64 0]) ∧ w'.ownsRow w.heap.size 59 2 v fs.length (fieldCells fs)) ∧ Spares nowhere w w'
theorem refFields_any (ls : List Bs) (a : Option Addr) (cap n : Nat) (w : World) (hn : n = ls.length) (hin : StrsIn w.heap.size w a (ls.map ba)) (hs : ∀ l ∈ ls, l.length ≤ 1000000) (hl : ls.length ≤ 1000000) : Calls Tryz.prog 57 #[.slice a n cap] w (RFields (fieldsF ls) w) := by
  refine (refParse_any (ls.map ba) a cap n w hin (by rw [List.length_map]; exact hn) (fun j hj => ?_) (by rw [List.length_map]; omega)).mono ?_
  · rw [List.getElem_map, ba_size]
    have := hs _ (List.getElem_mem (by simpa using hj : j < ls.length))
    omega
  · rintro e w' ⟨hb, h⟩
    refine ⟨?_, Below.spares hb (fun k hk => .inr hk)⟩
    rw [List.length_map] at h
    unfold fieldsF
    rcases h with ⟨h1, rfl⟩ | ⟨h1, h2, rfl⟩ | ⟨h1, fs, v, h2, rfl, h3⟩
    · rw [if_pos h1]; rfl
    · rw [if_neg (by omega), h2]; rfl
    · rw [if_neg (by omega), h2]; exact ⟨v, rfl, h3⟩
end Go.Proofs.YtjpmofnnjdhamaaGreatDoor
namespace Go.Proofs.YtjpmofnnjdhamaaGreatDoor
open Go.RowKit HeadMath NormMath NormS HeadS ChunkMath HttpMath

theorem refq_error {r : Except Nat Req} {n : Nat} {w w' : World} {e : Ending} (h : r = .error n) (he : e = .returned (.tuple #[.agg #[.string ⟨#[]⟩, .string ⟨#[]⟩, .slice none 0 0, .slice none 0 0], .int .i64 0, .int .i64 n])) (hs : Spares nowhere w w') : ReqPost r w e w' := by subst h; exact ⟨he, hs⟩
theorem refq_ok {r : Except Nat Req} {m t : Bs} {fs : Fs} {body : Bs} {n : Nat} {vf vb : Value} {w w' : World} {e : Ending} (h : r = .ok (m, t, fs, body, n)) (he : e = .returned (.tuple #[.agg #[.string (ba m), .string (ba t), vf, vb], .int .i64 n, .int .i64 0])) (hf : w'.ownsRow w.heap.size 59 2 vf fs.length (fieldCells fs)) (hb : Row8 w.heap.size w' vb body) (hs : Spares nowhere w w') : ReqPost r w e w' := by subst h; exact ⟨⟨vf, vb, he, hf, hb⟩, hs⟩
theorem own_put {u u' : World} {B p : Nat} {v : Value} {e : TypeId} {size n : Nat} {xs : List Value} (h : u.ownsRow B e size v n xs) (hs : Spares (fun k => k = p) u u') (hB : p < B) : u'.ownsRow p e size v n xs :=
  ownsRow_base (hs.own h (fun g hg => by have := (World.ownsRow.lt h g hg).1; omega)) (Nat.le_of_lt hB)
theorem own_not {u u' : World} {B p : Nat} {v : Value} {e : TypeId} {size n : Nat} {xs : List Value} (h : u.ownsRow B e size v n xs) (hn : ∀ g, v.ownBlock = some g → g ≠ p) (hs : Spares (fun k => k = p) u u') : u'.ownsRow B e size v n xs := hs.own h hn
theorem own_off {u u' : World} {B p : Nat} {v : Value} {e : TypeId} {size n : Nat} {xs : List Value} (h : u.ownsRow B e size v n xs) (hB : p < B) (hs : Spares (fun k => k = p) u u') : u'.ownsRow B e size v n xs := hs.own h (fun g hg => by have := (World.ownsRow.lt h g hg).1; omega)
set_option maxRecDepth 100000 in
set_option maxHeartbeats 16000000 in
theorem refRequest_any (b : Bs) (a : Option Addr) (c : Nat) (w : World) (hat : BytesAt w a b) (hcap : b.length ≤ c) (hz : b.length ≤ 1000000) (hsh : ∀ ls rest, headF b = .ok (ls, rest) → FitL rest) :
    Calls Tryz.prog 25 #[.slice a b.length c] w (ReqPost (requestF b) w) := by
  obtain ⟨v1, hv1⟩ : ∃ v1, w.alloc (.cells #[.string ⟨#[]⟩, .string ⟨#[]⟩, .slice none 0 0, .slice none 0 0] 25) = v1 := ⟨_, rfl⟩
  have hq1 : QAt 25 w (.string ⟨#[]⟩) (.string ⟨#[]⟩) (.slice none 0 0) (.slice none 0 0) v1 := ⟨by rw [← hv1]; exact heap_alloc_new _ _, by rw [← hv1]; exact (Spares.refl _ _).alloc _⟩
  have cH := refHead_any a c b v1 (hat.spares' hq1.sp (fun _ _ _ _ h => h)) hcap hz
  obtain ⟨R, hR⟩ : ∃ R, requestF b = R := ⟨_, rfl⟩
  rw [hR]
  have HR : Hid (reqR b (headF b) = R) := Lib.hid hR
  have HQ1 := Lib.hid hq1
  have HV1 := Lib.hid hv1
  have HAT := Lib.hid hat
  obtain ⟨bl, hbl⟩ : ∃ bl, b.length = bl := ⟨_, rfl⟩
  have HBL := Lib.hid hbl
  clear hv1 hq1 hR hat
  cases hH : headF b with
  | error x =>
    have hx0 := headF_err hH
    rw [hH] at cH HR
    have HF : Hid (R = .error x) := Lib.hid HR.out.symm
    unfold RHead at cH
    simp only at cH
    have q1 : ((x : Int) == 0) = false := by rw [beq_eq_false_iff_ne]; omega
    have q2 : ((x : Int) != 0) = true := by unfold bne; rw [q1]; rfl
    have q3 : ¬ (x : Int) = 0 := by omega
    rw [hbl] at cH hcap hz ⊢
    clear hH hsh hx0 hbl
    go_enter Tryz.func25, Tryz.ntmps25
    go_wp2_with fail
    rw [HV1.out]
    refine cH.mono ?_
    rintro _ w1 ⟨rfl, hs1⟩
    have HQ2 := Lib.hid (HQ1.out.quiet hs1)
    clear hs1 cH
    obtain ⟨u, hP⟩ := put_at HQ2.out.b0 (.string ⟨#[]⟩) (.string ⟨#[]⟩) (.slice none 0 0) (.slice none 0 0)
    have HP := Lib.hid hP
    obtain ⟨k1, ⟨_, k2⟩, k3, ⟨_, k4⟩, k5, ⟨_, k6⟩, k7, ⟨_, k8⟩, k9, _, _⟩ := hP
    go_wp2
    refine bodyPost_ret (results_refq _ rfl HP.out.h0) rfl ?_
    exact refq_error HF.out rfl (HQ2.out.put HP.out).sp
  | ok lr =>
    obtain ⟨ls, rest⟩ := lr
    obtain ⟨hne, hl1, hl2, hl3⟩ := cuts_lines hH
    have HFIT := Lib.hid (hsh ls rest hH)
    have hr24 : rest.length ≤ 60000 := HFIT.out.1
    rw [hH] at cH HR
    cases ls with
    | nil => exact absurd rfl hne
    | cons l0 ls =>
      obtain ⟨p1, hb1, hp4, -, -⟩ := headF_split hH
      obtain ⟨p, hp⟩ : ∃ p, b.length - rest.length = p := ⟨_, rfl⟩
      obtain ⟨rl, hrl⟩ : ∃ rl, rest.length = rl := ⟨_, rfl⟩
      have HRLN := Lib.hid hrl
      have hpl : p1.length = p := by have := congrArg List.length hb1; rw [List.length_append] at this; omega
      have HDR : Hid (rest = b.drop p) := Lib.hid (by rw [← hpl]; conv => rhs; rw [hb1]; rw [List.drop_left])
      have hpb : p + rl = bl := by omega
      have HRL : Hid (reqL b l0 ls rest = R) := Lib.hid HR.out
      unfold RHead at cH
      simp only at cH
      rw [hp] at cH
      obtain ⟨q, hq⟩ : ∃ q, (l0 :: ls).length = q := ⟨_, rfl⟩
      have HQL : Hid (ls.length + 1 = q) := Lib.hid (by rw [← hq]; rfl)
      have hql : q ≤ 1000001 := by rw [← hq]; omega
      have hqp : 1 ≤ q := by rw [← hq]; simp
      have hl0 : l0.length ≤ 1000000 := by have := hl2 l0 (by simp); omega
      have HL2 : Hid (∀ l ∈ ls, l.length ≤ 1000000) := Lib.hid (fun l hl => by have := hl2 l (by simp [hl]); omega)
      have HPD : Hid (p = b.length - rest.length) := Lib.hid hp.symm
      rw [hbl] at cH hcap hz ⊢
      rw [hrl] at hr24
      have hp4' : 4 ≤ p := by omega
      obtain ⟨y, z, hay, -⟩ := HAT.out 0 (by have := HBL.out; omega)
      subst hay
      clear hH hsh hbl hp hrl hl1 hl2 hl3 hne HR hb1 hp4 hpl
      go_enter Tryz.func25, Tryz.ntmps25
      go_wp2_with fail
      rw [HV1.out]
      refine cH.mono ?_
      rintro _ w1 ⟨⟨v2, rfl, hrow⟩, hs1⟩
      have HQ2 := Lib.hid (HQ1.out.quiet hs1)
      obtain ⟨a2, c2, hv2, hin⟩ := rowS_in hrow
      rw [List.length_map, hq] at hv2
      subst hv2
      have hqc : q ≤ c2 := by
        rcases hrow.shape with ⟨h1, h2⟩ | ⟨g, cc, h1, _, _, h2, _⟩
        · cases h1; omega
        · cases h1
          rw [List.length_map, hq] at h2
          exact h2
      obtain ⟨g, o, e, hg, x0⟩ := hin 0 (by simp)
      subst e
      have HIN := Lib.hid hin
      obtain ⟨S0, hS0⟩ : ∃ S0, ba l0 = S0 := ⟨_, rfl⟩
      have x0' : w1.cell? ⟨g, o, none⟩ = some (.string S0) := by rw [← hS0]; exact x0
      have cW := refWords_any S0 w1 (by rw [← hS0, ba_size]; exact hl0)
      have hS0d : S0.data.toList = l0 := by rw [← hS0, ba_data]
      rw [hS0d] at cW
      have hfw := first_words l0
      have hwl := wordsG_len l0 [] 2
      obtain ⟨W, hW⟩ : ∃ W, wordsR l0 = W := ⟨_, rfl⟩
      have hWl : W.length ≤ 3 := by rw [← hW]; exact hwl
      rw [hW] at cW hfw
      have HWM : Hid (∀ x ∈ W, x.length ≤ 1000000) := Lib.hid (by rw [← hW]; exact fun x hx => Nat.le_trans (wordsR_mem l0 x hx) hl0)
      unfold RWords at cW
      have HRL2 : Hid ((match firstL W with
        | none => .error 95
        | some (m, t) => reqH m t b rest (fieldsF ls)) = R) := Lib.hid (by rw [← hfw]; exact HRL.out)
      clear x0 hin hrow hs1 cH HQ1 hS0 hS0d hfw hwl hW HRL hq
      go_wp2_with fail
      refine cW.mono ?_
      rintro _ w2 ⟨v3, rfl, hrow3, hs2⟩
      obtain ⟨a3, c3, hv3, hin3⟩ := rowS_in hrow3
      rw [List.length_map] at hv3
      subst hv3
      have HQ3 := Lib.hid (HQ2.out.quiet hs2)
      have HIN2 : Hid (StrsIn w2.heap.size w2 (some ⟨g, o, none⟩) ((l0 :: ls).map ba)) := Lib.hid (StrsIn.quiet HIN.out (Nat.le_refl _) hs2 hs2.size)
      obtain ⟨k3, hk3⟩ : ∃ k, W.length = k := ⟨_, rfl⟩
      have HK3 := Lib.hid hk3
      rw [hk3] at hWl ⊢
      clear hrow3 hs2 cW x0' HIN HQ2 hk3
      by_cases h3 : k3 = 3
      · subst h3
        obtain ⟨m, t, v, rfl⟩ := list_three HK3.out
        have HRL3 : Hid ((match (if (tokenF m && targetF t && v == http11) = true then some (m, t) else none) with
          | none => .error 95
          | some (m, t) => reqH m t b rest (fieldsF ls)) = R) := HRL2
        obtain ⟨M, hM⟩ : ∃ M, ba m = M := ⟨_, rfl⟩
        obtain ⟨T, hT⟩ : ∃ T, ba t = T := ⟨_, rfl⟩
        obtain ⟨V, hV⟩ : ∃ V, ba v = V := ⟨_, rfl⟩
        have HMM := Lib.hid hM
        have HTT := Lib.hid hT
        have hMs : M.size ≤ 1000000 := by rw [← hM, ba_size]; exact HWM.out m (by simp)
        have hTs : T.size ≤ 1000000 := by rw [← hT, ba_size]; exact HWM.out t (by simp)
        have cTok := fun w => refToken_any M w (by omega)
        have e1 : M.data.toList = m := by rw [← hM, ba_data]
        have e2 : T.data.toList = t := by rw [← hT, ba_data]
        rw [e1] at cTok
        have HTD := Lib.hid e2
        have hVV : (V.toList == [72, 84, 84, 80, 47, 49, 46, 49]) = (v == http11) := by rw [← hV, Lib.toList_data, ba_data]; rfl
        obtain ⟨g3, o3, e3, hg3, y0⟩ := hin3 0 (by simp)
        subst e3
        have x0 : w2.cell? ⟨g3, o3, none⟩ = some (.string M) := by rw [← hM]; exact y0
        obtain ⟨_, _, e4, _, y1⟩ := hin3 1 (by simp)
        injection e4 with e4
        injection e4 with e5 e6
        subst e5
        subst e6
        have x1 : w2.cell? ⟨g3, o3 + 1, none⟩ = some (.string T) := by rw [← hT]; exact y1
        obtain ⟨_, _, e4, _, y2⟩ := hin3 2 (by simp)
        injection e4 with e4
        injection e4 with e5 e6
        subst e5
        subst e6
        have x2 : w2.cell? ⟨g3, o3 + 2, none⟩ = some (.string V) := by rw [← hV]; exact y2
        have HX := Lib.hid (And.intro x0 x1)
        clear hM hT hV e1 e2 HRL2 HWM y0 y1 y2 hin3
        obtain ⟨tb, htb⟩ : ∃ tb, tokenF m = tb := ⟨_, rfl⟩
        rw [htb] at cTok HRL3
        clear htb
        cases tb with
        | false =>
          have HF : Hid (R = .error 95) := Lib.hid HRL3.out.symm
          clear hVV
          go_wp2_with fail
          refine (cTok _).mono ?_
          rintro _ w4 ⟨rfl, hw⟩
          subst hw
          obtain ⟨u, hP⟩ := put_at HQ3.out.b0 (.string ⟨#[]⟩) (.string ⟨#[]⟩) (.slice none 0 0) (.slice none 0 0)
          have HP := Lib.hid hP
          obtain ⟨k1, ⟨_, k2⟩, k3, ⟨_, k4⟩, k5, ⟨_, k6⟩, k7, ⟨_, k8⟩, k9, _, _⟩ := hP
          go_wp2
          refine bodyPost_ret (results_refq _ rfl HP.out.h0) rfl ?_
          exact refq_error HF.out rfl (HQ3.out.put HP.out).sp
        | true =>
          obtain ⟨vb, hvb⟩ : ∃ vb, (v == http11) = vb := ⟨_, rfl⟩
          rw [hvb] at hVV HRL3
          clear hvb
          have hVN : (V.toList != [72, 84, 84, 80, 47, 49, 46, 49]) = !vb := by unfold bne; rw [hVV]
          cases vb with
          | false =>
            have HF : Hid (R = .error 95) := Lib.hid (by rw [← HRL3.out, Bool.and_false]; rfl)
            go_wp2_with fail
            refine (cTok _).mono ?_
            rintro _ w4 ⟨rfl, hw⟩
            subst hw
            obtain ⟨u, hP⟩ := put_at HQ3.out.b0 (.string ⟨#[]⟩) (.string ⟨#[]⟩) (.slice none 0 0) (.slice none 0 0)
            have HP := Lib.hid hP
            obtain ⟨k1, ⟨_, k2⟩, k3, ⟨_, k4⟩, k5, ⟨_, k6⟩, k7, ⟨_, k8⟩, k9, _, _⟩ := hP
            go_wp2
            refine bodyPost_ret (results_refq _ rfl HP.out.h0) rfl ?_
            exact refq_error HF.out rfl (HQ3.out.put HP.out).sp
          | true =>
            have HRL4 : Hid ((match (if targetF t = true then some (m, t) else none) with
              | none => .error 95
              | some (m, t) => reqH m t b rest (fieldsF ls)) = R) := Lib.hid (by rw [← HRL3.out]; simp)
            clear HRL3
            by_cases ht0 : T.size = 0
            · have z0 : ((T.size : Int) == 0) = true := by rw [ht0]; rfl
              have HF : Hid (R = .error 95) := Lib.hid (by
                have : t = [] := by
                  rw [← HTD.out]
                  exact List.eq_nil_of_length_eq_zero (by rw [size_toList]; exact ht0)
                rw [← HRL4.out, this]
                rfl)
              clear ht0
              go_wp2_with fail
              refine (cTok _).mono ?_
              rintro _ w4 ⟨rfl, hw⟩
              subst hw
              obtain ⟨u, hP⟩ := put_at HQ3.out.b0 (.string ⟨#[]⟩) (.string ⟨#[]⟩) (.slice none 0 0) (.slice none 0 0)
              have HP := Lib.hid hP
              obtain ⟨k1, ⟨_, k2⟩, k3, ⟨_, k4⟩, k5, ⟨_, k6⟩, k7, ⟨_, k8⟩, k9, _, _⟩ := hP
              go_wp2
              refine bodyPost_ret (results_refq _ rfl HP.out.h0) rfl ?_
              exact refq_error HF.out rfl (HQ3.out.put HP.out).sp
            · have z0 : ((T.size : Int) == 0) = false := by rw [beq_eq_false_iff_ne]; omega
              have z1 : 0 < T.size := by omega
              obtain ⟨t0, tr, htt⟩ : ∃ t0 tr, t = t0 :: tr := by
                cases t with
                | nil => exfalso; apply ht0; rw [← size_toList, HTD.out]; rfl
                | cons t0 tr => exact ⟨t0, tr, rfl⟩
              have hT0 : T[0]'z1 = t0 := by
                have h := HTD.out
                rw [htt] at h
                have : T.data.toList[0]? = some t0 := by rw [h]; rfl
                rw [List.getElem?_eq_getElem (by rw [size_toList]; omega)] at this
                exact Option.some.inj this
              by_cases h47 : t0 = 47
              · have z2 : ((T[0]'z1).toNat != 47) = false := by rw [hT0, h47]; rfl
                have z3 : (((T[0]'z1).toNat : Int) != 47) = false := by rw [hT0, h47]; rfl
                have HP47 : Hid (targetF t = t.all targetB) := Lib.hid (by
                  unfold targetF
                  rw [htt, h47]
                  simp [List.isPrefixOf])
                clear h47 htt hT0 ht0 z2
                go_wp2_with fail
                refine (cTok _).mono ?_
                rintro _ w4 ⟨rfl, hw⟩
                subst hw
                go_wp2
                go_loop [9] (fun i => ∃ k : Nat, k ≤ T.size ∧ i = .int .i64 k ∧ Hid ((T.data.toList.take k).all targetB = true)) (fun i => T.size - (intOf i).toNat)
                case atStart => exact ⟨0, Nat.zero_le _, rfl, Lib.hid rfl⟩
                case round =>
                  obtain ⟨k, hk, rfl, HK⟩ := hrel
                  by_cases hkl : k < T.size
                  · have i2 : (k : Int) < (T.size : Int) := by omega
                    have hts := take_snocD T k hkl
                    have hmem : T[k] ∈ T.data.toList := List.mem_iff_getElem.2 ⟨k, by rw [size_toList]; omega, by simp; rfl⟩
                    have hdd : targetB T[k] = decide (33 ≤ T[k].toNat ∧ T[k].toNat ≤ 126) := rfl
                    by_cases hd : targetB T[k] = true
                    · have hd2 := hd
                      rw [hdd, decide_eq_true_iff] at hd2
                      have HK2 : Hid ((T.data.toList.take (k + 1)).all targetB = true) := Lib.hid (by rw [hts, List.all_append, HK.out]; simp [hd])
                      have d1 : decide ((T[k].toNat : Int) < 33) = false := by simp; omega
                      have d2 : decide ((126 : Int) < (T[k].toNat : Int)) = false := by simp; omega
                      clear hd hdd hmem hts hd2
                      go_wp2
                      go_round
                      case rel => exact ⟨k + 1, by omega, by go_num, HK2⟩
                      case measure => simp [intOf]; omega
                    · have hd2 : ¬ (33 ≤ T[k].toNat ∧ T[k].toNat ≤ 126) := fun h => hd (by rw [hdd]; exact decide_eq_true h)
                      have HF : Hid (R = .error 95) := Lib.hid (by
                        rw [← HRL4.out, HP47.out, if_neg]
                        intro h
                        rw [← HTD.out] at h
                        exact hd (List.all_eq_true.1 h _ hmem))
                      clear hd hdd hmem hts
                      by_cases h33 : T[k].toNat < 33
                      · have d1 : decide ((T[k].toNat : Int) < 33) = true := by simp; omega
                        clear hd2
                        obtain ⟨u, hP⟩ := put_at HQ3.out.b0 (.string ⟨#[]⟩) (.string ⟨#[]⟩) (.slice none 0 0) (.slice none 0 0)
                        have HP := Lib.hid hP
                        obtain ⟨k1, ⟨_, k2⟩, k3, ⟨_, k4⟩, k5, ⟨_, k6⟩, k7, ⟨_, k8⟩, k9, _, _⟩ := hP
                        go_wp2
                        refine bodyPost_ret (results_refq _ rfl HP.out.h0) rfl ?_
                        exact refq_error HF.out rfl (HQ3.out.put HP.out).sp
                      · have d1 : decide ((T[k].toNat : Int) < 33) = false := by simp; omega
                        have d2 : decide ((126 : Int) < (T[k].toNat : Int)) = true := by simp; omega
                        clear hd2
                        obtain ⟨u, hP⟩ := put_at HQ3.out.b0 (.string ⟨#[]⟩) (.string ⟨#[]⟩) (.slice none 0 0) (.slice none 0 0)
                        have HP := Lib.hid hP
                        obtain ⟨k1, ⟨_, k2⟩, k3, ⟨_, k4⟩, k5, ⟨_, k6⟩, k7, ⟨_, k8⟩, k9, _, _⟩ := hP
                        go_wp2
                        refine bodyPost_ret (results_refq _ rfl HP.out.h0) rfl ?_
                        exact refq_error HF.out rfl (HQ3.out.put HP.out).sp
                  · obtain rfl : k = T.size := by omega
                    have i2 : ¬ (T.size : Int) < (T.size : Int) := by omega
                    have HF : Hid (reqH m t b rest (fieldsF ls) = R) := Lib.hid (by
                      rw [← HRL4.out, HP47.out, if_pos]
                      have := HK.out
                      rwa [List.take_of_length_le (by rw [size_toList]; exact Nat.le_refl _), HTD.out] at this)
                    clear hk hkl HK z3
                    have HFL : Hid (∀ (ga : Addr) (kx : Nat), (ga = ⟨g, o + 1, none⟩ ∨ kx = 0) → kx = ls.length → ∀ cx, Calls Tryz.prog 57 #[.slice (some ga) kx cx] w2 (RFields (fieldsF ls) w2)) := Lib.hid (fun ga kx hga hkx cx => by
                      have hlsl : ls.length ≤ 1000000 := by have := HQL.out; omega
                      refine refFields_any ls (some ga) cx kx w2 hkx ?_ HL2.out hlsl
                      intro j hj
                      have hj2 : j < ls.length := by simpa using hj
                      rcases hga with rfl | h0
                      · obtain ⟨x, o5, e, hb, hc⟩ := HIN2.out (j + 1) (by simp; omega)
                        injection e with e
                        injection e with e1 e2
                        subst e1; subst e2
                        refine ⟨g, o + 1, rfl, hb, ?_⟩
                        rw [show o + 1 + j = o + (j + 1) by omega, hc]
                        simp
                      · omega)
                    cases hFR : fieldsF ls with
                    | error x =>
                      have hx0 := fieldsF_err hFR
                      rw [hFR] at HFL HF
                      have HF2 : Hid (R = .error x) := Lib.hid HF.out.symm
                      unfold RFields at HFL
                      simp only at HFL
                      have q1 : ((x : Int) == 0) = false := by rw [beq_eq_false_iff_ne]; omega
                      have q2 : ((x : Int) != 0) = true := by unfold bne; rw [q1]; rfl
                      have q3 : ¬ (x : Int) = 0 := by omega
                      clear hFR HF hx0
                      have s1 : (1 : Int) ≤ (q : Int) := by omega
                      have s2 : (q : Int) ≤ (c2 : Int) := by omega
                      have s4 : (1 : Int) ≤ (c2 : Int) := by omega
                      have s5 : 1 ≤ c2 := by omega
                      (rcases (show c2 = 1 ∨ 1 < c2 by omega) with hc2 | hc2) <;> (try have s3 : (1 : Int) < (c2 : Int) := by omega) <;> go_wp2_with fail
                      all_goals
                        refine (HFL.out _ _ (by first | exact .inl rfl | exact .inr rfl | exact .inr (by omega)) (by have := HQL.out; omega) _).mono ?_
                        rintro _ w6 ⟨rfl, hs6⟩
                        have HQ6 := Lib.hid (HQ3.out.quiet hs6)
                        clear hs6
                        obtain ⟨u, hP⟩ := put_at HQ6.out.b0 (.string ⟨#[]⟩) (.string ⟨#[]⟩) (.slice none 0 0) (.slice none 0 0)
                        have HP := Lib.hid hP
                        obtain ⟨k1, ⟨_, k2⟩, k3, ⟨_, k4⟩, k5, ⟨_, k6⟩, k7, ⟨_, k8⟩, k9, _, _⟩ := hP
                        go_wp2
                        refine bodyPost_ret (results_refq _ rfl HP.out.h0) rfl ?_
                        exact refq_error HF2.out rfl (HQ6.out.put HP.out).sp
                    | ok fs =>
                      rw [hFR] at HFL HF
                      have HFW := Lib.hid (fieldsF_few hFR HL2.out)
                      have HF2 : Hid ((if (allF nHost fs).length = 1 then reqB m t fs b rest (framedF fs rest) else .error 90) = R) := Lib.hid HF.out
                      unfold RFields at HFL
                      simp only at HFL
                      obtain ⟨k, hk⟩ : ∃ k, fs.length = k := ⟨_, rfl⟩
                      rw [hk] at HFL
                      have HK2 := Lib.hid hk
                      have hk100 : k ≤ 100 := by rw [← hk]; exact HFW.out.1
                      clear hFR HF hk HIN2
                      have s1 : (1 : Int) ≤ (q : Int) := by omega
                      have s2 : (q : Int) ≤ (c2 : Int) := by omega
                      have s4 : (1 : Int) ≤ (c2 : Int) := by omega
                      have s5 : 1 ≤ c2 := by omega
                      (rcases (show c2 = 1 ∨ 1 < c2 by omega) with hc2 | hc2) <;> (try have s3 : (1 : Int) < (c2 : Int) := by omega) <;> go_wp2_with fail
                      all_goals
                        refine (HFL.out _ _ (by first | exact .inl rfl | exact .inr rfl | exact .inr (by omega)) (by have := HQL.out; omega) _).mono ?_
                        rintro _ w6 ⟨⟨vf, rfl, hown6⟩, hs6⟩
                        have HQ6 := Lib.hid (HQ3.out.quiet hs6)
                        have HG6 : Hid (Spares nowhere w2 w6) := Lib.hid hs6
                        have HOW6 : Hid (w6.ownsRow w2.heap.size 59 2 vf fs.length (fieldCells fs)) := Lib.hid (by rw [HK2.out]; exact hown6)
                        obtain ⟨fa, fc, hvf, hfi⟩ := rowF_shape HOW6.out
                        rw [HK2.out] at hvf
                        subst hvf
                        have HFI := Lib.hid hfi
                        have cA := (refAll_any fs nHost fa fc k w6 hfi HK2.out.symm HFW.out.small (by have := HFW.out.1; omega) (by decide)).mono fun _ _ h => h.slice
                        unfold nHost at cA
                        obtain ⟨A, hA⟩ : ∃ A, allF nHost fs = A := ⟨_, rfl⟩
                        have hA' : allF ⟨#[72, 111, 115, 116]⟩ fs = A := hA
                        have HF3 : Hid ((if A.length = 1 then reqB m t fs b rest (framedF fs rest) else .error 90) = R) := Lib.hid (by rw [← hA]; exact HF2.out)
                        have hAl : A.length ≤ 100 := by rw [← hA]; have := allF_len nHost fs; rw [HK2.out] at this; omega
                        rw [hA'] at cA
                        obtain ⟨na, hna⟩ : ∃ na, A.length = na := ⟨_, rfl⟩
                        rw [hna] at hAl HF3
                        have hSS : ∀ W, SSlice W A = fun e w' => ∃ a c, e = .returned (.slice a A.length c) ∧ StrsIn w'.heap.size w' a A ∧ Below W.heap.size W w' := fun _ => rfl
                        rw [hSS] at cA
                        rw [hna] at cA
                        clear hown6 hs6 hA hA' hfi hna hSS
                        go_wp2_with fail
                        refine cA.mono ?_
                        rintro _ w7 ⟨aa, ca, rfl, _, hb7⟩
                        have HS7 : Hid (Spares nowhere w6 w7) := Lib.hid (Below.spares (F := nowhere) hb7 (fun k hk => .inr hk))
                        have HQ7 := Lib.hid (HQ6.out.quiet HS7.out)
                        have cF := refFraming_any fs fa fc k w7 (HFI.out.below hb7 hb7.size) HK2.out.symm HFW.out.small (by have := HFW.out.1; omega) (fun j hj => (HFW.out.2 j hj).2)
                        clear hb7 cA
                        by_cases hn1 : na = 1
                        · subst hn1
                          have HF4 : Hid (reqB m t fs b rest (framedF fs rest) = R) := Lib.hid (by rw [← HF3.out, if_pos rfl])
                          unfold FrPost at cF
                          cases hfr : frF fs with
                          | error x =>
                            have hx0 := frF_err hfr
                            rw [hfr] at cF
                            have HF5 : Hid (R = .error x) := Lib.hid (by rw [← HF4.out, framed_fr, hfr]; rfl)
                            unfold frV at cF
                            simp only at cF
                            have q1 : ((x : Int) == 0) = false := by rw [beq_eq_false_iff_ne]; omega
                            have q2 : ((x : Int) != 0) = true := by unfold bne; rw [q1]; rfl
                            have q3 : ¬ (x : Int) = 0 := by omega
                            clear hfr hx0
                            go_wp2_with fail
                            refine cF.mono ?_
                            rintro _ w8 ⟨rfl, hs8⟩
                            have HQ8 := Lib.hid (HQ7.out.quiet hs8)
                            clear hs8
                            obtain ⟨u, hP⟩ := put_at HQ8.out.b0 (.string ⟨#[]⟩) (.string ⟨#[]⟩) (.slice none 0 0) (.slice none 0 0)
                            have HP := Lib.hid hP
                            obtain ⟨k1, ⟨_, k2⟩, k3, ⟨_, k4⟩, k5, ⟨_, k6⟩, k7, ⟨_, k8⟩, k9, _, _⟩ := hP
                            go_wp2
                            refine bodyPost_ret (results_refq _ rfl HP.out.h0) rfl ?_
                            exact refq_error HF5.out rfl (HQ8.out.put HP.out).sp
                          | ok cnt =>
                            obtain ⟨ch, nn, told⟩ := cnt
                            rw [hfr] at cF
                            unfold frV at cF
                            simp only at cF
                            have HF5 : Hid (reqB m t fs b rest (if ch = true then chunkF rest else if rest.length < nn then .error 92 else .ok (rest.take nn, nn)) = R) := Lib.hid (by rw [← HF4.out, framed_fr, hfr])
                            clear hfr
                            go_wp2_with fail
                            refine cF.mono ?_
                            rintro _ w8 ⟨rfl, hs8⟩
                            have HQ8 := Lib.hid (HQ7.out.quiet hs8)
                            have HG8 : Hid (Spares nowhere w2 w8) := Lib.hid ((HG6.out.trans HS7.out).trans hs8)
                            have HOW8 : Hid (w8.ownsRow w2.heap.size 59 2 (.slice fa k fc) fs.length (fieldCells fs)) := Lib.hid ((HS7.out.trans hs8).own HOW6.out (fun _ _ h => h))
                            have HW3 : Hid (w8.cell? ⟨g3, o3, none⟩ = some (.string M) ∧ w8.cell? ⟨g3, o3 + 1, none⟩ = some (.string T)) := Lib.hid ⟨(HG8.out.cell (p := ⟨g3, o3, none⟩) hg3 (fun h => h)).trans HX.out.1, (HG8.out.cell (p := ⟨g3, o3 + 1, none⟩) hg3 (fun h => h)).trans HX.out.2⟩
                            have hs9 : Spares nowhere w8 (w8.alloc (.cells #[.string ⟨#[]⟩, .string ⟨#[]⟩, .slice none 0 0, .slice none 0 0] 25)).drew := ((Spares.refl nowhere w8).alloc _).drew
                            have hg8 : g3 < w8.heap.size := Nat.lt_of_lt_of_le hg3 HG8.out.size
                            obtain ⟨x5, x6⟩ := HW3.out
                            have x3 := (hs9.cell (p := ⟨g3, o3, none⟩) hg8 (fun h => h)).trans HW3.out.1
                            have x4 := (hs9.cell (p := ⟨g3, o3 + 1, none⟩) hg8 (fun h => h)).trans HW3.out.2
                            clear hs8 cF hs9
                            go_wp2
                            go_region
                            obtain ⟨w9, hw9⟩ : ∃ w9, (w8.alloc (.cells #[.string M, .string T, .slice fa k fc, .slice none 0 0] 25)).drew = w9 := ⟨_, rfl⟩
                            rw [hw9]
                            have hs9 : Spares nowhere w8 w9 := by rw [← hw9]; exact ((Spares.refl nowhere w8).alloc _).drew
                            have HBK9 : Hid (w9.heap[w8.heap.size]? = some (.cells #[.string M, .string T, .slice fa k fc, .slice none 0 0] 25 (0, 0))) := Lib.hid (by rw [← hw9]; exact heap_alloc_new w8 _)
                            have HQ9 := Lib.hid (HQ8.out.quiet hs9)
                            have HG9 : Hid (Spares nowhere w2 w9) := Lib.hid (HG8.out.trans hs9)
                            have HOW9 := Lib.hid (hs9.own HOW8.out (fun _ _ h => h))
                            have HWR := Lib.hid HQ8.out.lt
                            have HRF : Hid (∀ gq, (Value.slice fa k fc).ownBlock = some gq → gq ≠ w8.heap.size) := Lib.hid (fun gq hgq => by have := (World.ownsRow.lt HOW8.out gq hgq).2; omega)
                            have HR9 : Hid (w8.heap.size < w9.heap.size) := Lib.hid (Array.getElem?_eq_some_iff.1 HBK9.out).1
                            obtain ⟨r, hr⟩ : ∃ r, w8.heap.size = r := ⟨_, rfl⟩
                            rw [hr] at HBK9 HWR hg8 HRF HR9 ⊢
                            have HQL3 := Lib.hid HQ3.out.lt
                            have HBY : Hid (∀ wx, Spares nowhere w9 wx → BytesAt wx (some ⟨y, z + p, none⟩) rest) := Lib.hid (fun wx hs => by
                              rw [HDR.out]
                              exact bytesAt_drop8 ((HAT.out.spares' HQ9.out.sp (fun _ _ _ _ h => h)).spares' hs (fun _ _ _ _ h => h)) p)
                            clear x3 x4 x5 x6 hw9 hs9 HQ8 HG8 HOW8 hr x0 x1 x2
                            cases ch with
                            | true =>
                              have HF6 : Hid (reqB m t fs b rest (chunkF rest) = R) := Lib.hid (by rw [← HF5.out, if_pos rfl])
                              have HCH : Hid (∀ (ga : Addr) (kx : Nat), (ga = ⟨y, z + p, none⟩ ∨ kx = 0) → kx = rl → ∀ cx, kx ≤ cx → Calls Tryz.prog 60 #[.slice (some ga) kx cx] w9 (OpenPost rest (openF fieldB rest) w9)) := Lib.hid (fun ga kx hga hkx cx hcx => by
                                subst hkx
                                rw [← HRLN.out] at hcx ⊢
                                refine refChunks_any (some ga) cx rest w9 ?_ hcx (by rw [HRLN.out]; omega) HFIT.out
                                rcases hga with rfl | h0
                                · exact HBY.out w9 (Spares.refl _ _)
                                · rw [List.eq_nil_of_length_eq_zero (HRLN.out.trans h0)]
                                  exact fun j hj => absurd hj (Nat.not_lt_zero _))
                              cases hO : openF fieldB rest with
                              | error x =>
                                have hx0 := openF_err hO
                                have HF7 : Hid (R = .error x) := Lib.hid (by rw [← HF6.out]; unfold chunkF; rw [hO]; rfl)
                                rw [hO] at HCH
                                unfold OpenPost at HCH
                                simp only at HCH
                                have q1 : ((x : Int) == 0) = false := by rw [beq_eq_false_iff_ne]; omega
                                have q2 : ((x : Int) != 0) = true := by unfold bne; rw [q1]; rfl
                                have q3 : ¬ (x : Int) = 0 := by omega
                                have t1 : (p : Int) ≤ (bl : Int) := by omega
                                have t2 : (bl : Int) ≤ (c : Int) := by omega
                                have t3 : (p : Int) ≤ (c : Int) := by omega
                                clear hO hx0
                                (rcases (show p = c ∨ p < c by omega) with hpc | hpc) <;> (try have t4 : (p : Int) < (c : Int) := by omega) <;> go_wp2_with fail
                                all_goals
                                  refine (HCH.out _ _ (by first | exact .inl rfl | exact .inr rfl | exact .inr (by omega)) (by omega) _ (by omega)).mono ?_
                                  rintro _ w10 ⟨rfl, hs10⟩
                                  have HQ10 := Lib.hid (HQ9.out.quiet hs10)
                                  clear hs10
                                  obtain ⟨u, hP⟩ := put_at HQ10.out.b0 (.string ⟨#[]⟩) (.string ⟨#[]⟩) (.slice none 0 0) (.slice none 0 0)
                                  have HP := Lib.hid hP
                                  obtain ⟨k1, ⟨_, k2⟩, k3, ⟨_, k4⟩, k5, ⟨_, k6⟩, k7, ⟨_, k8⟩, k9, _, _⟩ := hP
                                  go_wp2
                                  refine bodyPost_ret (results_refq _ rfl HP.out.h0) rfl ?_
                                  exact refq_error HF7.out rfl (HQ10.out.put HP.out).sp
                              | ok bs =>
                                obtain ⟨body, s⟩ := bs
                                have HE : Hid (R = .ok (m, t, fs, body, b.length - rest.length + (rest.length - s.length))) := Lib.hid (by rw [← HF6.out]; unfold chunkF; rw [hO]; rfl)
                                rw [hO] at HCH
                                unfold OpenPost at HCH
                                simp only at HCH
                                obtain ⟨sn, hsn⟩ : ∃ sn, rest.length - s.length = sn := ⟨_, rfl⟩
                                rw [hsn] at HCH HE
                                have hsn2 : sn ≤ rl := by rw [← hsn, HRLN.out]; omega
                                have t1 : (p : Int) ≤ (bl : Int) := by omega
                                have t2 : (bl : Int) ≤ (c : Int) := by omega
                                have t3 : (p : Int) ≤ (c : Int) := by omega
                                clear hO hsn
                                (rcases (show p = c ∨ p < c by omega) with hpc | hpc) <;> (try have t4 : (p : Int) < (c : Int) := by omega) <;> go_wp2_with fail
                                all_goals
                                  refine (HCH.out _ _ (by first | exact .inl rfl | exact .inr rfl | exact .inr (by omega)) (by omega) _ (by omega)).mono ?_
                                  rintro _ w10 ⟨⟨vb, rfl, hrow⟩, hs10⟩
                                  have HBK10 := Lib.hid (hs10.heap HBK9.out (fun h => h))
                                  have HQ10 := Lib.hid (HQ9.out.quiet hs10)
                                  have HOW10 := Lib.hid (hs10.own HOW9.out (fun _ _ h => h))
                                  have HROW10 := Lib.hid hrow
                                  have HNN : Hid (b.length - rest.length + sn = p + sn) := Lib.hid (by rw [← HPD.out])
                                  clear hs10 hrow
                                  obtain ⟨ab, cb, hvb, _⟩ := HROW10.out.shape
                                  subst hvb
                                  have u3 : w10.cell? ⟨r, 3, none⟩ = some (.slice none 0 0) := (Lib.cell_of_heap HBK10.out 3).trans rfl
                                  have v3 : w10.frozen? ⟨r, 3, none⟩ = false := Lib.frozen_of_heap HBK10.out 3
                                  obtain ⟨w11, hw11⟩ : ∃ w11, w10.setCell ⟨r, 3, none⟩ (.slice ab body.length cb) = w11 := ⟨_, rfl⟩
                                  have hsp11 : Spares (fun k => k = r) w10 w11 := by rw [← hw11]; exact Spares.setCell (F := fun k => k = r) (Spares.refl _ w10) (p := ⟨r, 3, none⟩) (.inl rfl) _
                                  have hbk11 : w11.heap[r]? = some (.cells #[.string M, .string T, .slice fa k fc, .slice ab body.length cb] 25 (0, 0)) := by rw [← hw11]; exact (set_at (i := 3) HBK10.out _).trans rfl
                                  have HQ11 : Hid (QAt 25 w (.string ⟨#[]⟩) (.string ⟨#[]⟩) (.slice none 0 0) (.slice none 0 0) w11) := Lib.hid ⟨hsp11.heap HQ10.out.b0 (fun e => by have := HWR.out; omega), HQ10.out.sp.trans' hsp11 (fun k hk => .inr (by have := HWR.out; omega))⟩
                                  have HOW11 : Hid (w11.ownsRow w2.heap.size 59 2 (.slice fa k fc) fs.length (fieldCells fs)) := Lib.hid (own_not HOW10.out HRF.out hsp11)
                                  have HROW11 : Hid (Row8 w9.heap.size w11 (.slice ab body.length cb) body) := Lib.hid (own_off HROW10.out HR9.out hsp11)
                                  have j0 : w11.cell? ⟨r, 0, none⟩ = some (.string M) := (Lib.cell_of_heap hbk11 0).trans rfl
                                  have j1 : w11.cell? ⟨r, 1, none⟩ = some (.string T) := (Lib.cell_of_heap hbk11 1).trans rfl
                                  have j2 : w11.cell? ⟨r, 2, none⟩ = some (.slice fa k fc) := (Lib.cell_of_heap hbk11 2).trans rfl
                                  have j3 : w11.cell? ⟨r, 3, none⟩ = some (.slice ab body.length cb) := (Lib.cell_of_heap hbk11 3).trans rfl
                                  obtain ⟨u, hP⟩ := put_at HQ11.out.b0 (.string M) (.string T) (.slice fa k fc) (.slice ab body.length cb)
                                  have HP := Lib.hid hP
                                  obtain ⟨k1, ⟨_, k2⟩, k3, ⟨_, k4⟩, k5, ⟨_, k6⟩, k7, ⟨_, k8⟩, k9, _, _⟩ := hP
                                  clear hsp11 hbk11
                                  go_wp2
                                  refine bodyPost_ret (results_refq _ rfl HP.out.h0) rfl ?_
                                  exact refq_ok HE.out (by rw [HMM.out, HTT.out, HNN.out]; go_num) (own_put HOW11.out HP.out.sp HQL3.out) (own_put HROW11.out HP.out.sp HQ9.out.lt) (HQ11.out.put HP.out).sp
                            | false =>
                              have HF6 : Hid (reqB m t fs b rest (if rest.length < nn then .error 92 else .ok (rest.take nn, nn)) = R) := Lib.hid (by have h := HF5.out; simp only [Bool.false_eq_true, if_false] at h; exact h)
                              by_cases hsh : rl < nn
                              · have HF7 : Hid (R = .error 92) := Lib.hid (by rw [← HF6.out, if_pos (by rw [HRLN.out]; exact hsh)]; rfl)
                                have d1 : (bl : Int) - (p : Int) < (nn : Int) := by omega
                                obtain ⟨u, hP⟩ := put_at HQ9.out.b0 (.string ⟨#[]⟩) (.string ⟨#[]⟩) (.slice none 0 0) (.slice none 0 0)
                                have HP := Lib.hid hP
                                obtain ⟨k1, ⟨_, k2⟩, k3, ⟨_, k4⟩, k5, ⟨_, k6⟩, k7, ⟨_, k8⟩, k9, _, _⟩ := hP
                                go_wp2
                                refine bodyPost_ret (results_refq _ rfl HP.out.h0) rfl ?_
                                exact refq_error HF7.out rfl (HQ9.out.put HP.out).sp
                              · have HE : Hid (R = .ok (m, t, fs, rest.take nn, b.length - rest.length + nn)) := Lib.hid (by rw [← HF6.out, if_neg (by rw [HRLN.out]; exact hsh)]; rfl)
                                have d1 : ¬ ((bl : Int) - (p : Int) < (nn : Int)) := by omega
                                have HTL : Hid ((rest.take nn).length = nn) := Lib.hid (by rw [List.length_take, HRLN.out]; omega)
                                have HTK : Hid (∀ ga : Addr, (ga = ⟨y, z + p, none⟩ ∨ rl = 0) → BytesAt w9 (some ga) (rest.take nn)) := Lib.hid (fun ga hga => by
                                  rcases hga with rfl | h0
                                  · exact bytesAt_take8 (HBY.out w9 (Spares.refl _ _)) nn
                                  · rw [List.eq_nil_of_length_eq_zero (HRLN.out.trans h0), List.take_nil]
                                    exact fun j hj => absurd hj (Nat.not_lt_zero _))
                                have HNN : Hid (b.length - rest.length + nn = p + nn) := Lib.hid (by rw [← HPD.out])
                                have t1 : (p : Int) ≤ (p : Int) + (nn : Int) := by omega
                                have t2 : (p : Int) + (nn : Int) ≤ (c : Int) := by omega
                                have t3 : (p : Int) ≤ (c : Int) := by omega
                                have hn1000 : nn ≤ 60000 := by omega
                                obtain ⟨body, hbody⟩ : ∃ body, rest.take nn = body := ⟨_, rfl⟩
                                rw [hbody] at HE HTL HTK
                                clear hbody
                                (rcases (show p = c ∨ p < c by omega) with hpc | hpc) <;> (try have t4 : (p : Int) < (c : Int) := by omega)
                                all_goals
                                  go_wp2_with (first
                                    | (with_reducible show wpList _ _ _ (⟨some 152, _, _, _, _, _⟩ :: _) _ _
                                       refine wpList_row_bytes rfl _ _ rfl w9.heap.size _ [] rfl (row8_nil _ _) (some _) _ _ body rfl (by have := HTL.out; omega) (HTK.out _ (by first | exact .inl rfl | exact .inr (by omega))) (fun e => by cases e) (by simp; omega) (Nat.le_refl _) ?_
                                       intro vb w10 hrow hs10
                                       have hs10' : Spares nowhere w9 w10 := atLeast_none hs10 (Nat.le_refl _) (Spares.refl _ _)
                                       have HBK10 := Lib.hid (hs10'.heap HBK9.out (fun h => h))
                                       have HQ10 := Lib.hid (HQ9.out.quiet hs10')
                                       have HOW10 := Lib.hid (hs10'.own HOW9.out (fun _ _ h => h))
                                       have HROW10 : Hid (Row8 w9.heap.size w10 vb body) := Lib.hid hrow
                                       clear hs10 hs10' hrow
                                       obtain ⟨ab, cb, hvb, _⟩ := HROW10.out.shape
                                       subst hvb
                                       have u3 : w10.cell? ⟨r, 3, none⟩ = some (.slice none 0 0) := (Lib.cell_of_heap HBK10.out 3).trans rfl
                                       have v3 : w10.frozen? ⟨r, 3, none⟩ = false := Lib.frozen_of_heap HBK10.out 3
                                       obtain ⟨w11, hw11⟩ : ∃ w11, w10.setCell ⟨r, 3, none⟩ (.slice ab body.length cb) = w11 := ⟨_, rfl⟩
                                       have hsp11 : Spares (fun k => k = r) w10 w11 := by rw [← hw11]; exact Spares.setCell (F := fun k => k = r) (Spares.refl _ w10) (p := ⟨r, 3, none⟩) (.inl rfl) _
                                       have hbk11 : w11.heap[r]? = some (.cells #[.string M, .string T, .slice fa k fc, .slice ab body.length cb] 25 (0, 0)) := by rw [← hw11]; exact (set_at (i := 3) HBK10.out _).trans rfl
                                       have HQ11 : Hid (QAt 25 w (.string ⟨#[]⟩) (.string ⟨#[]⟩) (.slice none 0 0) (.slice none 0 0) w11) := Lib.hid ⟨hsp11.heap HQ10.out.b0 (fun e => by have := HWR.out; omega), HQ10.out.sp.trans' hsp11 (fun k hk => .inr (by have := HWR.out; omega))⟩
                                       have HOW11 : Hid (w11.ownsRow w2.heap.size 59 2 (.slice fa k fc) fs.length (fieldCells fs)) := Lib.hid (own_not HOW10.out HRF.out hsp11)
                                       have HROW11 : Hid (Row8 w9.heap.size w11 (.slice ab body.length cb) body) := Lib.hid (own_off HROW10.out HR9.out hsp11)
                                       have j0 : w11.cell? ⟨r, 0, none⟩ = some (.string M) := (Lib.cell_of_heap hbk11 0).trans rfl
                                       have j1 : w11.cell? ⟨r, 1, none⟩ = some (.string T) := (Lib.cell_of_heap hbk11 1).trans rfl
                                       have j2 : w11.cell? ⟨r, 2, none⟩ = some (.slice fa k fc) := (Lib.cell_of_heap hbk11 2).trans rfl
                                       have j3 : w11.cell? ⟨r, 3, none⟩ = some (.slice ab body.length cb) := (Lib.cell_of_heap hbk11 3).trans rfl
                                       obtain ⟨u, hP⟩ := put_at HQ11.out.b0 (.string M) (.string T) (.slice fa k fc) (.slice ab body.length cb)
                                       have HP := Lib.hid hP
                                       obtain ⟨k1, ⟨_, k2⟩, k3, ⟨_, k4⟩, k5, ⟨_, k6⟩, k7, ⟨_, k8⟩, k9, _, _⟩ := hP
                                       clear hsp11 hbk11)
                                    | fail)
                                  refine bodyPost_ret (results_refq _ rfl HP.out.h0) rfl ?_
                                  exact refq_ok HE.out (by rw [HMM.out, HTT.out, HNN.out]; go_num) (own_put HOW11.out HP.out.sp HQL3.out) (own_put HROW11.out HP.out.sp HQ9.out.lt) (HQ11.out.put HP.out).sp
                        · have q1 : ((na : Int) == 1) = false := by rw [beq_eq_false_iff_ne]; omega
                          have q2 : ((na : Int) != 1) = true := by unfold bne; rw [q1]; rfl
                          have q3 : ¬ (na : Int) = 1 := by omega
                          have HF5 : Hid (R = .error 90) := Lib.hid (by rw [← HF3.out, if_neg hn1])
                          clear hn1 cF
                          obtain ⟨u, hP⟩ := put_at HQ7.out.b0 (.string ⟨#[]⟩) (.string ⟨#[]⟩) (.slice none 0 0) (.slice none 0 0)
                          have HP := Lib.hid hP
                          obtain ⟨k1, ⟨_, k2⟩, k3, ⟨_, k4⟩, k5, ⟨_, k6⟩, k7, ⟨_, k8⟩, k9, _, _⟩ := hP
                          go_wp2
                          refine bodyPost_ret (results_refq _ rfl HP.out.h0) rfl ?_
                          exact refq_error HF5.out rfl (HQ7.out.put HP.out).sp
              · have z3 : (((T[0]'z1).toNat : Int) != 47) = true := by
                  have h := u8_no (x := t0) (n := 47) (fun e => h47 (UInt8.toNat_inj.1 e))
                  rw [hT0]
                  show (!((t0.toNat : Int) == 47)) = true
                  rw [show ((t0.toNat : Int) == 47) = false from h]
                  rfl
                have HF : Hid (R = .error 95) := Lib.hid (by
                  rw [← HRL4.out, if_neg]
                  intro h
                  unfold targetF at h
                  rw [Bool.and_eq_true] at h
                  have h2 := h.2
                  rw [htt] at h2
                  simp [List.isPrefixOf] at h2
                  exact h47 h2.symm)
                clear h47 htt hT0 ht0
                go_wp2_with fail
                refine (cTok _).mono ?_
                rintro _ w4 ⟨rfl, hw⟩
                subst hw
                obtain ⟨u, hP⟩ := put_at HQ3.out.b0 (.string ⟨#[]⟩) (.string ⟨#[]⟩) (.slice none 0 0) (.slice none 0 0)
                have HP := Lib.hid hP
                obtain ⟨k1, ⟨_, k2⟩, k3, ⟨_, k4⟩, k5, ⟨_, k6⟩, k7, ⟨_, k8⟩, k9, _, _⟩ := hP
                go_wp2
                refine bodyPost_ret (results_refq _ rfl HP.out.h0) rfl ?_
                exact refq_error HF.out rfl (HQ3.out.put HP.out).sp
      · have q1 : ((k3 : Int) == 3) = false := by rw [beq_eq_false_iff_ne]; omega
        have q2 : ((k3 : Int) != 3) = true := by unfold bne; rw [q1]; rfl
        have q3 : ¬ (k3 : Int) = 3 := by omega
        have HF : Hid (R = .error 95) := Lib.hid (by rw [← HRL2.out, firstL_len (by rw [HK3.out]; exact h3)])
        clear h3 hin3
        obtain ⟨u, hP⟩ := put_at HQ3.out.b0 (.string ⟨#[]⟩) (.string ⟨#[]⟩) (.slice none 0 0) (.slice none 0 0)
        have HP := Lib.hid hP
        obtain ⟨k1, ⟨_, k2⟩, k3, ⟨_, k4⟩, k5, ⟨_, k6⟩, k7, ⟨_, k8⟩, k9, _, _⟩ := hP
        go_wp2
        refine bodyPost_ret (results_refq _ rfl HP.out.h0) rfl ?_
        exact refq_error HF.out rfl (HQ3.out.put HP.out).sp
end Go.Proofs.YtjpmofnnjdhamaaGreatDoor
namespace Go.Proofs.YtjpmofnnjdhamaaGreatDoor
open Go.RowKit HeadMath NormMath NormS HeadS ChunkMath HttpMath

def exQ : Bs := [71, 69, 84, 32, 47, 32, 72, 84, 84, 80, 47, 49, 46, 49, 13, 10, 72, 111, 115, 116, 58, 32, 104, 13, 10, 13, 10, 109, 111, 114, 101]
def exB : Bs := [71, 69, 84, 32, 47, 13, 10, 13, 10]
def exR : Bs := [72, 84, 84, 80, 47, 49, 46, 49, 32, 50, 48, 48, 32, 79, 75, 13, 10, 67, 111, 110, 116, 101, 110, 116, 45, 76, 101, 110, 103, 116, 104, 58, 32, 50, 13, 10, 13, 10, 104, 105, 33]
def getM : ByteArray := ⟨#[71, 69, 84]⟩
def hostF : Fs := [(nHost, ⟨#[104]⟩)]
def twoF : Fs := [(nCL, ⟨#[50]⟩)]
theorem parts_num {v : ByteArray} (h0 : v.data.toList ≠ []) (h : ∀ c ∈ v.data.toList, DateMath.digitD c = true) : partsF v = [v] := by
  have hd : ∀ c ∈ v.data.toList, c ≠ 34 ∧ c ≠ 44 ∧ blankB c = false := by
    intro c hc
    have := h c hc
    unfold DateMath.digitD at this
    rw [decide_eq_true_iff] at this
    refine ⟨fun e => ?_, fun e => ?_, ?_⟩
    · subst e; exact absurd this (by decide)
    · subst e; exact absurd this (by decide)
    · unfold blankB
      rw [Bool.or_eq_false_iff]
      constructor <;> (rw [beq_eq_false_iff_ne]; intro e; subst e; exact absurd this (by decide))
  have hp := parts_step v.data.toList [] [] (Closed.plain (fun c hc => ⟨(hd c hc).1, (hd c hc).2.1⟩)) (.inl ⟨rfl, rfl⟩)
  rw [List.append_nil] at hp
  have ht : trimF v.data.toList = v.data.toList := trimF_id ⟨fun c hc => (hd c (List.mem_of_mem_head? hc)).2.2, fun c hc => (hd c (List.mem_of_getLast? hc)).2.2⟩
  rw [ht] at hp
  have ha : arr v.data.toList = v := rfl
  rw [ha] at hp
  rw [hp, partsF_nil (v := arr []) rfl, List.append_nil]
  unfold told
  rw [if_neg]
  intro e
  exact h0 (List.eq_nil_of_length_eq_zero (by rw [size_list]; exact e))
set_option maxRecDepth 100000 in
theorem req_exQ : requestF exQ = .ok ([71, 69, 84], [47], hostF, [], 27) := by kernel_rfl
set_option maxRecDepth 100000 in
theorem req_exB : requestF exB = .error 95 := by kernel_rfl
theorem rsp_nil : responseF [] getM = .error 92 := by kernel_rfl
set_option maxRecDepth 100000 in
theorem rsp_exR0 : headF exR = .ok ([[72, 84, 84, 80, 47, 49, 46, 49, 32, 50, 48, 48, 32, 79, 75], [67, 111, 110, 116, 101, 110, 116, 45, 76, 101, 110, 103, 116, 104, 58, 32, 50]], [104, 105, 33]) := by kernel_rfl
theorem size_two : sizeF twoF = .ok 2 := by
  unfold sizeF
  have h1 : allF nCL twoF = [⟨#[50]⟩] := by kernel_rfl
  have h2 : listF nCL twoF = [⟨#[50]⟩] := by
    unfold listF
    rw [h1, List.flatMap_cons, List.flatMap_nil, parts_num (by decide) (by decide)]
    rfl
  rw [h2]
  exact (show sizeL [⟨#[50]⟩] = .ok 2 by kernel_rfl)
set_option maxRecDepth 100000 in
theorem rsp_exR : responseF exR getM = .ok (200, [79, 75], twoF, [104, 105]) := by
  unfold responseF
  rw [rsp_exR0]
  have h1 : statusF [72, 84, 84, 80, 47, 49, 46, 49, 32, 50, 48, 48, 32, 79, 75] = some (200, [79, 75]) := by kernel_rfl
  have h2 : fieldsF [[67, 111, 110, 116, 101, 110, 116, 45, 76, 101, 110, 103, 116, 104, 58, 32, 50]] = .ok twoF := by kernel_rfl
  have h3 : rspW twoF [104, 105, 33] = .ok ([104, 105], 2) := by
    unfold rspW
    rw [if_neg (by rw [show getF nCL twoF = some ⟨#[50]⟩ by kernel_rfl]; simp)]
    unfold framedF
    rw [if_pos (by kernel_rfl), size_two]
    rfl
  have h4 : rspH 200 [79, 75] getM [104, 105, 33] (.ok twoF) = .ok (200, [79, 75], twoF, [104, 105]) := by
    show (if bodilessF 200 getM = true then (.ok (200, [79, 75], twoF, []) : Except Nat Rsp) else rspB 200 [79, 75] twoF (rspW twoF [104, 105, 33])) = _
    rw [if_neg (by rw [show bodilessF 200 getM = false by kernel_rfl]; decide), h3]
    rfl
  have h5 : rspL getM [72, 84, 84, 80, 47, 49, 46, 49, 32, 50, 48, 48, 32, 79, 75] [[67, 111, 110, 116, 101, 110, 116, 45, 76, 101, 110, 103, 116, 104, 58, 32, 50]] [104, 105, 33] = .ok (200, [79, 75], twoF, [104, 105]) := by
    unfold rspL
    rw [h1, h2]
    exact h4
  exact h5
end Go.Proofs.YtjpmofnnjdhamaaGreatDoor
namespace Go.Proofs.YtjpmofnnjdhamaaGreatDoor
open Go.RowKit HeadMath NormMath NormS HeadS ChunkMath HttpMath

def dg (k : Nat) : UInt8 := UInt8.ofNat (48 + k)
theorem dg_nat {k : Nat} (h : k ≤ 9) : (dg k).toNat = 48 + k := by unfold dg; simp; omega
theorem dg_digit {k : Nat} (h : k ≤ 9) : DateMath.digitD (dg k) = true := by
  unfold DateMath.digitD; rw [dg_nat h]; simp; omega
def digs (n : Nat) : Bs := [dg (n / 100), dg (n / 10 % 10), dg (n % 10)]
theorem num_digs {n : Nat} (h : n < 1000) : DateMath.numF (digs n) 3 = some n := by
  have h1 : n / 100 ≤ 9 := by omega
  have h2 : n / 10 % 10 ≤ 9 := by omega
  have h3 : n % 10 ≤ 9 := by omega
  unfold DateMath.numF
  rw [if_pos ⟨by simp [digs], by simp [digs], by simp [digs, dg_digit h1, dg_digit h2, dg_digit h3]⟩]
  unfold DateMath.valD digs
  simp only [List.foldl_cons, List.foldl_nil, dg_nat h1, dg_nat h2, dg_nat h3]
  congr 1; omega
def respL (n : Nat) (reason : Bs) : Bs := (http11 ++ [32]) ++ (digs n ++ (32 :: reason))
theorem dg_ne {k : Nat} (h : k ≤ 9) (c : UInt8) (hc : c.toNat < 48) : dg k ≠ c := fun e => by
  have := dg_nat h; rw [e] at this; omega
theorem index_blank {n : Nat} (h : n < 1000) (reason : Bs) : Lib.indexByte (digs n ++ (32 :: reason)) 32 = 3 := by
  have h1 := dg_ne (k := n / 100) (by omega) 32 (by decide)
  have h2 := dg_ne (k := n / 10 % 10) (by omega) 32 (by decide)
  have h3 := dg_ne (k := n % 10) (by omega) 32 (by decide)
  unfold digs
  simp [Lib.indexByte, h1, h2, h3]
theorem status_line {n : Nat} (h : n < 1000) {reason : Bs} (hr : reason.all textB = true) : statusF (respL n reason) = if 200 ≤ n ∧ n ≤ 599 then some (n, reason) else none := by
  have hd : (respL n reason).drop 9 = digs n ++ (32 :: reason) := rfl
  unfold statusF
  rw [if_pos (by rw [List.isPrefixOf_iff_prefix]; exact List.prefix_append _ _), hd]
  have hi := index_blank h reason
  have h1 : codeOf (digs n ++ (32 :: reason)) = digs n := by
    unfold codeOf
    rw [hi, if_neg (by decide)]
    rfl
  have h2 : reasonOf (digs n ++ (32 :: reason)) = reason := by
    unfold reasonOf
    rw [hi, if_neg (by decide)]
    rfl
  rw [h1, h2]
  unfold codeF
  rw [num_digs h]
  simp only [hr, and_true]
  have hl : (digs n).length = 3 := rfl
  simp only [hl, true_and]
theorem text_bare {c : UInt8} (h : textB c = true) : bareC c = true := by
  unfold bareC
  simp only [Bool.and_eq_true, bne_iff_ne]
  constructor
  · intro e; subst e; exact absurd h (by decide)
  · intro e; subst e; exact absurd h (by decide)
theorem dg_bare {k : Nat} (h : k ≤ 9) : bareC (dg k) = true := by
  refine text_bare ?_
  have hn := dg_nat h
  unfold textB
  rw [Bool.or_eq_true]
  right
  simp only [Bool.not_eq_true', Bool.or_eq_false_iff, decide_eq_false_iff_not, beq_eq_false_iff_ne]
  exact ⟨by omega, fun e => by rw [e] at hn; simp at hn; omega⟩
theorem respL_bare {n : Nat} (h : n < 1000) {reason : Bs} (hr : reason.all textB = true) : bareL (respL n reason) = true := by
  unfold bareL respL
  have h1 : http11.all bareC = true := by decide
  have h0 : bareC 32 = true := by decide
  have h2 : (digs n).all bareC = true := by
    unfold digs
    simp only [List.all_cons, List.all_nil, dg_bare (k := n / 100) (by omega), dg_bare (k := n / 10 % 10) (by omega), dg_bare (k := n % 10) (by omega)]
    rfl
  have h3 : reason.all bareC = true := by
    rw [List.all_eq_true] at hr ⊢
    exact fun c hc => text_bare (hr c hc)
  simp only [List.all_append, List.all_cons, List.all_nil, h0, h1, h2, h3]
  rfl
def clL2 : Bs := [67, 111, 110, 116, 101, 110, 116, 45, 76, 101, 110, 103, 116, 104, 58, 32, 50]
def tailS : Bs := 13 :: 10 :: (clL2 ++ [13, 10, 13, 10, 104, 105])
theorem head_status {n : Nat} (h : n < 1000) {reason : Bs} (hr : reason.all textB = true) (hl : reason.length ≤ 1000) : headF (respL n reason ++ tailS) = .ok ([respL n reason, clL2], [104, 105]) := by
  have e : respL n reason ++ tailS = joinL (respL n reason) [clL2] ++ (end4 ++ [104, 105]) := by
    unfold joinL
    simp [tailS, end4, crlf2]
  rw [e]
  refine headF_lines _ _ _ (respL_bare h hr) (fun l hl => ?_) ?_
  · rw [List.mem_singleton] at hl
    subst hl
    exact ⟨by decide, by decide⟩
  · unfold joinL respL
    simp [crlf2, http11, digs, clL2]
    omega
def noneB (n : Nat) : Bool := n == 204 || n == 304
theorem bodiless_get {n : Nat} (h : 200 ≤ n) : bodilessF n getM = noneB n := by
  have h1 : (getM.data.toList == headM.data.toList) = false := by kernel_rfl
  have h2 : decide ((n : Int) < 200) = false := decide_eq_false (by omega)
  have h3 : ((n : Int) == 204) = (n == 204) := by
    by_cases e : n = 204
    · rw [e]; rfl
    · rw [beq_eq_false_iff_ne.2 e, beq_eq_false_iff_ne.2 (by omega)]
  have h4 : ((n : Int) == 304) = (n == 304) := by
    by_cases e : n = 304
    · rw [e]; rfl
    · rw [beq_eq_false_iff_ne.2 e, beq_eq_false_iff_ne.2 (by omega)]
  show ((getM.data.toList == headM.data.toList) || ((n : Int) == 204) || ((n : Int) == 304) || decide ((n : Int) < 200)) = _
  rw [h1, h2, h3, h4, Bool.or_false, Bool.false_or]
  rfl
theorem bodiless_head (n : Nat) : bodilessF n headM = true := by unfold bodilessF; simp
theorem rspW_two : rspW twoF [104, 105] = .ok ([104, 105], 2) := by
  unfold rspW
  rw [if_neg (by rw [show getF nCL twoF = some ⟨#[50]⟩ by kernel_rfl]; simp)]
  unfold framedF
  rw [if_pos (by kernel_rfl), size_two]
  rfl
/-- What is answered. -/
def stBody (n : Nat) : Bs := if noneB n = true then [] else [104, 105]
theorem rsp_status {n : Nat} (h : n < 1000) {reason : Bs} (hr : reason.all textB = true) (hl : reason.length ≤ 1000) : responseF (respL n reason ++ tailS) getM = if 200 ≤ n ∧ n ≤ 599 then .ok (n, reason, twoF, stBody n) else .error 95 := by
  unfold responseF
  rw [head_status h hr hl]
  have h5 : rspL getM (respL n reason) [clL2] [104, 105] = if 200 ≤ n ∧ n ≤ 599 then .ok (n, reason, twoF, stBody n) else .error 95 := by
    unfold rspL
    rw [status_line h hr]
    by_cases hc : 200 ≤ n ∧ n ≤ 599
    · rw [if_pos hc, if_pos hc]
      have h2 : fieldsF [clL2] = .ok twoF := by kernel_rfl
      simp only [h2]
      unfold rspH
      simp only
      rw [bodiless_get hc.1]
      unfold stBody
      cases hb : noneB n with
      | true => rfl
      | false =>
        rw [if_neg (by decide), if_neg (by decide), rspW_two]
        rfl
    · rw [if_neg hc, if_neg hc]
  exact h5
end Go.Proofs.YtjpmofnnjdhamaaGreatDoor
namespace Go.Proofs.YtjpmofnnjdhamaaGreatDoor
open Go.RowKit HeadMath NormMath NormS HeadS ChunkMath HttpMath

def codeR (r : Bs) : Option (Nat × Bs) :=
  if (r.take 3).all DateMath.digitD = true then (if 200 ≤ DateMath.valD (r.take 3) ∧ DateMath.valD (r.take 3) ≤ 599 ∧ (r.drop 4).all textB = true then some (DateMath.valD (r.take 3), r.drop 4) else none) else none
/-- A response's first line, as the reference looks at it. -/
def statusR (s : Bs) : Option (Nat × Bs) :=
  if s.length < 12 then none else if (s.take 9 == http11 ++ [32]) = false then none else if 12 < s.length ∧ s[12]? ≠ some 32 then none else codeR (s.drop 9)
theorem digit_ne {c : UInt8} (h : DateMath.digitD c = true) : c ≠ 32 := by
  intro e; subst e; exact absurd h (by decide)
theorem code_good {a b c : UInt8} {t : Bs} (ha : DateMath.digitD a = true) (hb : DateMath.digitD b = true) (hc : DateMath.digitD c = true) (ht : t = [] ∨ t.head? = some 32) :
    codeF (codeOf (a :: b :: c :: t)) (reasonOf (a :: b :: c :: t)) = codeR (a :: b :: c :: t) := by
  have h1 := digit_ne ha
  have h2 := digit_ne hb
  have h3 := digit_ne hc
  have hcode : codeOf (a :: b :: c :: t) = [a, b, c] ∧ reasonOf (a :: b :: c :: t) = (a :: b :: c :: t).drop 4 := by
    rcases ht with rfl | ht
    · have hi : Lib.indexByte [a, b, c] 32 = -1 := by simp [Lib.indexByte, h1, h2, h3]
      unfold codeOf reasonOf
      rw [hi, if_pos (by decide), if_pos (by decide)]
      exact ⟨rfl, rfl⟩
    · cases t with
      | nil => cases ht
      | cons x t =>
        injection ht with ht
        subst ht
        have hi : Lib.indexByte (a :: b :: c :: 32 :: t) 32 = 3 := by simp [Lib.indexByte, h1, h2, h3]
        unfold codeOf reasonOf
        rw [hi, if_neg (by decide), if_neg (by decide)]
        exact ⟨rfl, rfl⟩
  rw [hcode.1, hcode.2]
  unfold codeF codeR
  have hn : DateMath.numF [a, b, c] 3 = some (DateMath.valD [a, b, c]) := by
    unfold DateMath.numF
    rw [if_pos ⟨by simp, by simp, by simp [ha, hb, hc]⟩]
  have ht3 : (a :: b :: c :: t).take 3 = [a, b, c] := rfl
  rw [hn, ht3, if_pos (by simp [ha, hb, hc])]
  simp only [List.length_cons, List.length_nil, true_and]
theorem codeF_some {code reason : Bs} {x : Nat × Bs} (h : codeF code reason = some x) : ∃ a b c, code = [a, b, c] ∧ DateMath.digitD a = true ∧ DateMath.digitD b = true ∧ DateMath.digitD c = true := by
  unfold codeF at h
  split at h
  · cases h
  · rename_i n hn
    split at h
    · rename_i hc
      obtain ⟨a, b, c, rfl⟩ := list_three hc.1
      unfold DateMath.numF at hn
      split at hn
      · rename_i hd
        have := hd.2.2
        simp at this
        exact ⟨a, b, c, rfl, this.1, this.2.1, this.2.2⟩
      · cases hn
    · cases h
theorem code_shape {r : Bs} {x : Nat × Bs} (h : codeF (codeOf r) (reasonOf r) = some x) : ∃ a b c t, r = a :: b :: c :: t ∧ DateMath.digitD a = true ∧ DateMath.digitD b = true ∧ DateMath.digitD c = true ∧ (t = [] ∨ t.head? = some 32) := by
  obtain ⟨a, b, c, hc, h1, h2, h3⟩ := codeF_some h
  unfold codeOf at hc
  by_cases hi : Lib.indexByte r 32 < 0
  · rw [if_pos hi] at hc
    exact ⟨a, b, c, [], hc, h1, h2, h3, .inl rfl⟩
  · rw [if_neg hi] at hc
    obtain ⟨o, ho⟩ : ∃ o : Nat, Lib.indexByte r 32 = o := ⟨(Lib.indexByte r 32).toNat, by omega⟩
    rw [ho] at hc
    simp only [Int.toNat_natCast] at hc
    obtain ⟨g1, _⟩ := Lib.indexByte_some ho
    have hl : o < r.length := (List.getElem?_eq_some_iff.1 g1).1
    have ho3 : o = 3 := by have := congrArg List.length hc; rw [List.length_take] at this; simp at this; omega
    subst ho3
    refine ⟨a, b, c, r.drop 3, ?_, h1, h2, h3, .inr ?_⟩
    · conv => lhs; rw [← List.take_append_drop 3 r, hc]
      rfl
    · rw [List.head?_drop]; exact g1
theorem status_ref (s : Bs) : statusF s = statusR s := by
  unfold statusF statusR
  by_cases hp : (http11 ++ [32]).isPrefixOf s = true
  · rw [if_pos hp]
    have hpre := List.isPrefixOf_iff_prefix.1 hp
    obtain ⟨r, hr⟩ := hpre
    have hl9 : (http11 ++ [32]).length = 9 := rfl
    have hd : s.drop 9 = r := by rw [← hr]; exact List.drop_left' hl9
    have ht : s.take 9 = http11 ++ [32] := by rw [← hr]; exact List.take_left' hl9
    have hsl : s.length = 9 + r.length := by rw [← hr, List.length_append, hl9]
    rw [hd, ht]
    have hb : (http11 ++ [32] == http11 ++ [32]) = true := by decide
    rw [hb, if_neg (show ¬ (true = false) by decide)]
    have h12 : s[12]? = r[3]? := by rw [← hd, List.getElem?_drop]
    rw [h12]
    cases hx : codeF (codeOf r) (reasonOf r) with
    | some x =>
      obtain ⟨a, b, c, t, rfl, h1, h2, h3, h4⟩ := code_shape hx
      rw [if_neg (by simp at hsl; omega), if_neg (by
        rintro ⟨g1, g2⟩
        rcases h4 with rfl | h4
        · simp at hsl; omega
        · apply g2
          show t[0]? = _
          rw [← List.head?_eq_getElem?]
          exact h4)]
      rw [← hx]
      exact code_good h1 h2 h3 h4
    | none =>
      split
      · rfl
      · split
        · rfl
        · rename_i g1 g2
          unfold codeR
          split
          · rename_i hdg
            match r, hd, hsl, g2, hdg, hx with
            | [], _, hsl, _, _, _ => simp at hsl; omega
            | [_], _, hsl, _, _, _ => simp at hsl; omega
            | [_, _], _, hsl, _, _, _ => simp at hsl; omega
            | a :: b :: c :: t, _, hsl, g2, hdg, hx =>
              have hdg' : DateMath.digitD a = true ∧ DateMath.digitD b = true ∧ DateMath.digitD c = true := by simpa using hdg
              have h4 : t = [] ∨ t.head? = some 32 := by
                cases t with
                | nil => exact .inl rfl
                | cons y t =>
                  right
                  rw [List.head?_cons]
                  by_cases h : (some y : Option UInt8) = some 32
                  · exact h
                  · exact absurd ⟨by simp at hsl; omega, h⟩ g2
              have := code_good hdg'.1 hdg'.2.1 hdg'.2.2 h4
              rw [hx] at this
              unfold codeR at this
              rw [if_pos hdg] at this
              exact this
          · rfl
  · rw [if_neg hp]
    split
    · rfl
    · rename_i h12
      rw [if_pos]
      rw [beq_eq_false_iff_ne]
      intro h
      apply hp
      rw [List.isPrefixOf_iff_prefix, ← h]
      exact List.take_prefix _ _
end Go.Proofs.YtjpmofnnjdhamaaGreatDoor
namespace Go.Proofs.YtjpmofnnjdhamaaGreatDoor
open Go.RowKit HeadMath NormMath NormS HeadS ChunkMath HttpMath

theorem refr_error {r : Except Nat Rsp} {n : Nat} {w w' : World} {e : Ending} (h : r = .error n) (he : e = .returned (.tuple #[.agg #[.int .i64 0, .string ⟨#[]⟩, .slice none 0 0, .slice none 0 0], .int .i64 n])) (hs : Spares nowhere w w') : RspPost r w e w' := by subst h; exact ⟨he, hs⟩
theorem refr_ok {r : Except Nat Rsp} {st : Nat} {reason : Bs} {fs : Fs} {body : Bs} {vf vb : Value} {w w' : World} {e : Ending} (h : r = .ok (st, reason, fs, body)) (he : e = .returned (.tuple #[.agg #[.int .i64 st, .string (ba reason), vf, vb], .int .i64 0])) (hf : w'.ownsRow w.heap.size 59 2 vf fs.length (fieldCells fs)) (hb : Row8 w.heap.size w' vb body) (hs : Spares nowhere w w') : RspPost r w e w' := by subst h; exact ⟨⟨vf, vb, he, hf, hb⟩, hs⟩
theorem bodilessR_any (n : Int) (method : ByteArray) (w : World) : Calls Tryz.prog 18 #[.int .i64 n, .string method] w fun e w' => e = .returned (.bool (bodilessF n method)) ∧ w' = w := by
  have HB := Lib.hid (bodiless_eq n method)
  cases h1 : method.toList == [72, 69, 65, 68] with
  | true =>
    rw [h1] at HB
    go_enter Tryz.func18, Tryz.ntmps18
    go_wp2
    go_ret
    exact ⟨by rw [HB.out]; rfl, rfl⟩
  | false =>
    rw [h1] at HB
    cases h2 : n == 204 with
    | true =>
      rw [h2] at HB
      go_enter Tryz.func18, Tryz.ntmps18
      go_wp2
      go_ret
      exact ⟨by rw [HB.out]; rfl, rfl⟩
    | false =>
      rw [h2] at HB
      cases h3 : n == 304 with
      | true =>
        rw [h3] at HB
        go_enter Tryz.func18, Tryz.ntmps18
        go_wp2
        go_ret
        exact ⟨by rw [HB.out]; rfl, rfl⟩
      | false =>
        rw [h3] at HB
        go_enter Tryz.func18, Tryz.ntmps18
        go_wp2
        go_ret
        exact ⟨by rw [HB.out]; simp, rfl⟩
def wR (rest : Bs) : Except Nat (Bool × Nat × Bool) → Except Nat (Bs × Nat)
  | .error e => .error e
  | .ok (c, n, t) => if c = true then chunkF rest else if t = true then (if rest.length < n then .error 92 else .ok (rest.take n, n)) else (if 65536 < rest.length then .error 93 else .ok (rest, rest.length))
theorem rspW_fr {fs : Fs} {rest : Bs} {r : Except Nat (Bool × Nat × Bool)} (h : frF fs = r) : rspW fs rest = wR rest r := by
  subst h
  unfold rspW
  by_cases hT : getF nTE fs = none
  · by_cases hC : getF nCL fs = none
    · have e : frF fs = .ok (false, 0, false) := by unfold frF; rw [if_pos (by rw [getF_all hT]; rfl), if_pos hC]
      rw [if_pos ⟨hT, hC⟩, e]
      rfl
    · have e : frF fs = frLen (sizeF fs) := by unfold frF; rw [if_pos (by rw [getF_all hT]; rfl), if_neg hC]
      rw [if_neg (fun h => hC h.2), framed_fr, e]
      cases sizeF fs with
      | error e => rfl
      | ok n =>
        unfold frLen
        by_cases hn : 65536 < n
        · simp only [if_pos hn]; rfl
        · simp only [if_neg hn]
          rfl
  · have hl : (allF nTE fs).length ≠ 0 := by
      intro h
      apply hT
      refine getF_none (fun j hj => ?_)
      have h0 := List.eq_nil_of_length_eq_zero h
      unfold allF at h0
      rw [List.map_eq_nil_iff, List.filter_eq_nil_iff] at h0
      have := h0 _ (List.getElem_mem hj)
      simpa using this
    have e : frF fs = if onlyF (allF nTE fs) = true ∧ getF nCL fs = none then .ok (true, 0, true) else .error 94 := by unfold frF; rw [if_neg hl]
    rw [if_neg (fun h => hT h.1), framed_fr, e]
    by_cases hg : onlyF (allF nTE fs) = true ∧ getF nCL fs = none
    · rw [if_pos hg]; rfl
    · rw [if_neg hg]; rfl
end Go.Proofs.YtjpmofnnjdhamaaGreatDoor
namespace Go.Proofs.YtjpmofnnjdhamaaGreatDoor
open Go.RowKit HeadMath NormMath NormS HeadS ChunkMath HttpMath

set_option maxRecDepth 100000 in
set_option maxHeartbeats 16000000 in
theorem refRsp_head (b : Bs) (method : ByteArray) (a : Option Addr) (c : Nat) (w : World) (hat : BytesAt w a b) (hcap : b.length ≤ c) (hz : b.length ≤ 1000000) (x : Nat) (hH : headF b = .error x) :
    Calls Tryz.prog 26 #[.slice a b.length c, .string method] w (RspPost (responseF b method) w) := by
  obtain ⟨v1, hv1⟩ : ∃ v1, w.alloc (.cells #[.int .i64 0, .string ⟨#[]⟩, .slice none 0 0, .slice none 0 0] 27) = v1 := ⟨_, rfl⟩
  have hq1 : QAt 27 w (.int .i64 0) (.string ⟨#[]⟩) (.slice none 0 0) (.slice none 0 0) v1 := ⟨by rw [← hv1]; exact heap_alloc_new _ _, by rw [← hv1]; exact (Spares.refl _ _).alloc _⟩
  have cH := refHead_any a c b v1 (hat.spares' hq1.sp (fun _ _ _ _ h => h)) hcap hz
  obtain ⟨R, hR⟩ : ∃ R, responseF b method = R := ⟨_, rfl⟩
  rw [hR]
  have HR : Hid (rspR method (headF b) = R) := Lib.hid hR
  have HQ1 := Lib.hid hq1
  have HV1 := Lib.hid hv1
  have HAT := Lib.hid hat
  obtain ⟨bl, hbl⟩ : ∃ bl, b.length = bl := ⟨_, rfl⟩
  have HBL := Lib.hid hbl
  clear hv1 hq1 hR hat
  have hx0 := headF_err hH
  rw [hH] at cH HR
  have HF : Hid (R = .error x) := Lib.hid HR.out.symm
  unfold RHead at cH
  simp only at cH
  have q1 : ((x : Int) == 0) = false := by rw [beq_eq_false_iff_ne]; omega
  have q2 : ((x : Int) != 0) = true := by unfold bne; rw [q1]; rfl
  have q3 : ¬ (x : Int) = 0 := by omega
  rw [hbl] at cH hcap hz ⊢
  clear hH hx0 hbl
  go_enter Tryz.func26, Tryz.ntmps26
  go_wp2_with fail
  rw [HV1.out]
  refine cH.mono ?_
  rintro _ w1 ⟨rfl, hs1⟩
  have HQ2 := Lib.hid (HQ1.out.quiet hs1)
  clear hs1 cH
  obtain ⟨u, hP⟩ := put_at HQ2.out.b0 (.int .i64 0) (.string ⟨#[]⟩) (.slice none 0 0) (.slice none 0 0)
  have HP := Lib.hid hP
  obtain ⟨k1, ⟨_, k2⟩, k3, ⟨_, k4⟩, k5, ⟨_, k6⟩, k7, ⟨_, k8⟩, k9, _, _⟩ := hP
  go_wp2
  refine bodyPost_ret (results_refr _ rfl HP.out.h0) rfl ?_
  exact refr_error HF.out rfl (HQ2.out.put HP.out).sp
set_option maxRecDepth 100000 in
set_option maxHeartbeats 16000000 in
theorem refRsp_bad (b : Bs) (method : ByteArray) (a : Option Addr) (c : Nat) (w : World) (hat : BytesAt w a b) (hcap : b.length ≤ c) (hz : b.length ≤ 1000000) (l0 rest : Bs) (ls : List Bs) (hH : headF b = .ok (l0 :: ls, rest)) (hbad : l0.length < 12 ∨ (l0.take 9 == http11 ++ [32]) = false ∨ (12 < l0.length ∧ l0[12]? ≠ some 32)) :
    Calls Tryz.prog 26 #[.slice a b.length c, .string method] w (RspPost (responseF b method) w) := by
  obtain ⟨v1, hv1⟩ : ∃ v1, w.alloc (.cells #[.int .i64 0, .string ⟨#[]⟩, .slice none 0 0, .slice none 0 0] 27) = v1 := ⟨_, rfl⟩
  have hq1 : QAt 27 w (.int .i64 0) (.string ⟨#[]⟩) (.slice none 0 0) (.slice none 0 0) v1 := ⟨by rw [← hv1]; exact heap_alloc_new _ _, by rw [← hv1]; exact (Spares.refl _ _).alloc _⟩
  have cH := refHead_any a c b v1 (hat.spares' hq1.sp (fun _ _ _ _ h => h)) hcap hz
  obtain ⟨R, hR⟩ : ∃ R, responseF b method = R := ⟨_, rfl⟩
  rw [hR]
  have HR : Hid (rspR method (headF b) = R) := Lib.hid hR
  have HQ1 := Lib.hid hq1
  have HV1 := Lib.hid hv1
  have HAT := Lib.hid hat
  obtain ⟨bl, hbl⟩ : ∃ bl, b.length = bl := ⟨_, rfl⟩
  have HBL := Lib.hid hbl
  clear hv1 hq1 hR hat
  obtain ⟨hne, hl1, hl2, hl3⟩ := cuts_lines hH
  rw [hH] at cH HR
  obtain ⟨p1, hb1, hp4, -, -⟩ := headF_split hH
  obtain ⟨p, hp⟩ : ∃ p, b.length - rest.length = p := ⟨_, rfl⟩
  obtain ⟨rl, hrl⟩ : ∃ rl, rest.length = rl := ⟨_, rfl⟩
  have HRLN := Lib.hid hrl
  have hpl : p1.length = p := by have := congrArg List.length hb1; rw [List.length_append] at this; omega
  have HDR : Hid (rest = b.drop p) := Lib.hid (by rw [← hpl]; conv => rhs; rw [hb1]; rw [List.drop_left])
  have hpb : p + rl = bl := by omega
  have HRL : Hid ((match statusR l0 with
    | none => .error 95
    | some (st, reason) => rspH st reason method rest (fieldsF ls)) = R) := Lib.hid (by rw [← status_ref]; exact HR.out)
  unfold RHead at cH
  simp only at cH
  rw [hp] at cH
  obtain ⟨q, hq⟩ : ∃ q, (l0 :: ls).length = q := ⟨_, rfl⟩
  have HQL : Hid (ls.length + 1 = q) := Lib.hid (by rw [← hq]; rfl)
  have hql : q ≤ 1000001 := by rw [← hq]; omega
  have hqp : 1 ≤ q := by rw [← hq]; simp
  have hl0 : l0.length ≤ 1000000 := by have := hl2 l0 (by simp); omega
  have HL2 : Hid (∀ l ∈ ls, l.length ≤ 1000000) := Lib.hid (fun l hl => by have := hl2 l (by simp [hl]); omega)
  have HPD : Hid (p = b.length - rest.length) := Lib.hid hp.symm
  rw [hbl] at cH hcap hz ⊢
  have hp4' : 4 ≤ p := by omega
  obtain ⟨y, z, hay, -⟩ := HAT.out 0 (by have := HBL.out; omega)
  subst hay
  clear hH hbl hp hrl hl1 hl2 hl3 hne HR hb1 hp4 hpl
  go_enter Tryz.func26, Tryz.ntmps26
  go_wp2_with fail
  rw [HV1.out]
  refine cH.mono ?_
  rintro _ w1 ⟨⟨v2, rfl, hrow⟩, hs1⟩
  have HQ3 := Lib.hid (HQ1.out.quiet hs1)
  obtain ⟨a2, c2, hv2, hin⟩ := rowS_in hrow
  rw [List.length_map, hq] at hv2
  subst hv2
  have hqc : q ≤ c2 := by
    rcases hrow.shape with ⟨h1, h2⟩ | ⟨g, cc, h1, _, _, h2, _⟩
    · cases h1; omega
    · cases h1
      rw [List.length_map, hq] at h2
      exact h2
  obtain ⟨g, o, e, hg, x0⟩ := hin 0 (by simp)
  subst e
  have HIN2 := Lib.hid hin
  obtain ⟨S0, hS0⟩ : ∃ S0, ba l0 = S0 := ⟨_, rfl⟩
  have x0' : w1.cell? ⟨g, o, none⟩ = some (.string S0) := by rw [← hS0]; exact x0
  have HSD : Hid (S0.data.toList = l0) := Lib.hid (by rw [← hS0, ba_data])
  have hsz0 : S0.size = l0.length := by rw [← hS0, ba_size]
  have hszb : S0.size ≤ 1000000 := by omega
  have HSZ := Lib.hid hsz0
  obtain ⟨X, hX⟩ : ∃ X, S0.extract 0 9 = X := ⟨_, rfl⟩
  have hXd : X.data.toList = l0.take 9 := by
    rw [← hX, ba_cut, HSD.out]; rfl
  obtain ⟨qb, hqb⟩ : ∃ qb, (l0.take 9 == http11 ++ [32]) = qb := ⟨_, rfl⟩
  have hX1 : (X.toList == [72, 84, 84, 80, 47, 49, 46, 49, 32]) = qb := by rw [Lib.toList_data, hXd]; exact hqb
  have hX2 : (X.toList != [72, 84, 84, 80, 47, 49, 46, 49, 32]) = !qb := by unfold bne; rw [hX1]
  clear x0 hin hrow hs1 cH HQ1 hS0 hq hXd
  by_cases h12 : S0.size < 12
  · have d0 : decide ((S0.size : Int) < 12) = true := by simp; omega
    have d0' : (S0.size : Int) < 12 := by omega
    have HF : Hid (R = .error 95) := Lib.hid (by rw [← HRL.out]; unfold statusR; rw [if_pos (by rw [← HSZ.out]; exact h12)])
    clear hsz0 hqb hbad
    obtain ⟨u, hP⟩ := put_at HQ3.out.b0 (.int .i64 0) (.string ⟨#[]⟩) (.slice none 0 0) (.slice none 0 0)
    have HP := Lib.hid hP
    obtain ⟨k1, ⟨_, k2⟩, k3, ⟨_, k4⟩, k5, ⟨_, k6⟩, k7, ⟨_, k8⟩, k9, _, _⟩ := hP
    go_wp2
    refine bodyPost_ret (results_refr _ rfl HP.out.h0) rfl ?_
    exact refr_error HF.out rfl (HQ3.out.put HP.out).sp
  · have d0 : decide ((S0.size : Int) < 12) = false := by simp; omega
    have d0' : ¬ (S0.size : Int) < 12 := by omega
    have s1 : (9 : Int) ≤ (S0.size : Int) := by omega
    have s2 : 9 ≤ S0.size := by omega
    cases qb with
    | false =>
      have HF : Hid (R = .error 95) := Lib.hid (by rw [← HRL.out]; unfold statusR; rw [if_neg (by rw [← HSZ.out]; exact h12), if_pos hqb])
      clear hsz0 hqb hbad
      obtain ⟨u, hP⟩ := put_at HQ3.out.b0 (.int .i64 0) (.string ⟨#[]⟩) (.slice none 0 0) (.slice none 0 0)
      have HP := Lib.hid hP
      obtain ⟨k1, ⟨_, k2⟩, k3, ⟨_, k4⟩, k5, ⟨_, k6⟩, k7, ⟨_, k8⟩, k9, _, _⟩ := hP
      go_wp2
      refine bodyPost_ret (results_refr _ rfl HP.out.h0) rfl ?_
      exact refr_error HF.out rfl (HQ3.out.put HP.out).sp
    | true =>
      have h13 : 12 < S0.size ∧ l0[12]? ≠ some 32 := by
        rcases hbad with h | h | h
        · exact absurd (by rw [hsz0]; exact h) h12
        · rw [hqb] at h; cases h
        · rw [hsz0]; exact h
      have HF : Hid (R = .error 95) := Lib.hid (by rw [← HRL.out]; unfold statusR; rw [if_neg (by rw [← HSZ.out]; exact h12), if_neg (by rw [hqb]; decide), if_pos (by rw [← HSZ.out]; exact h13)])
      have d1 : decide ((12 : Int) < (S0.size : Int)) = true := by simp; omega
      have d1' : (12 : Int) < (S0.size : Int) := by omega
      have h13s : 12 < S0.size := h13.1
      have hne : S0[12]'h13s ≠ 32 := by
        intro e
        apply h13.2
        rw [← HSD.out, List.getElem?_eq_getElem (by rw [size_toList]; exact h13s)]
        exact congrArg some e
      have e1 : (((S0[12]'h13s).toNat : Int) == 32) = false := u8_no (n := 32) (fun e => hne (UInt8.toNat_inj.1 e))
      have e2 : (((S0[12]'h13s).toNat : Int) != 32) = true := by unfold bne; rw [e1]; rfl
      clear hsz0 hqb hbad h13 hne
      obtain ⟨u, hP⟩ := put_at HQ3.out.b0 (.int .i64 0) (.string ⟨#[]⟩) (.slice none 0 0) (.slice none 0 0)
      have HP := Lib.hid hP
      obtain ⟨k1, ⟨_, k2⟩, k3, ⟨_, k4⟩, k5, ⟨_, k6⟩, k7, ⟨_, k8⟩, k9, _, _⟩ := hP
      go_wp2
      refine bodyPost_ret (results_refr _ rfl HP.out.h0) rfl ?_
      exact refr_error HF.out rfl (HQ3.out.put HP.out).sp
end Go.Proofs.YtjpmofnnjdhamaaGreatDoor
namespace Go.Proofs.YtjpmofnnjdhamaaGreatDoor
open Go.RowKit HeadMath NormMath NormS HeadS ChunkMath HttpMath

set_option maxRecDepth 100000 in
set_option maxHeartbeats 16000000 in
theorem refRsp_short (b : Bs) (method : ByteArray) (a : Option Addr) (c : Nat) (w : World) (hat : BytesAt w a b) (hcap : b.length ≤ c) (hz : b.length ≤ 1000000) (l0 rest : Bs) (ls : List Bs) (hH : headF b = .ok (l0 :: ls, rest)) (hr24 : FitL rest) (hgood : 12 ≤ l0.length ∧ (l0.take 9 == http11 ++ [32]) = true ∧ l0.length = 12) :
    Calls Tryz.prog 26 #[.slice a b.length c, .string method] w (RspPost (responseF b method) w) := by
  obtain ⟨v1, hv1⟩ : ∃ v1, w.alloc (.cells #[.int .i64 0, .string ⟨#[]⟩, .slice none 0 0, .slice none 0 0] 27) = v1 := ⟨_, rfl⟩
  have hq1 : QAt 27 w (.int .i64 0) (.string ⟨#[]⟩) (.slice none 0 0) (.slice none 0 0) v1 := ⟨by rw [← hv1]; exact heap_alloc_new _ _, by rw [← hv1]; exact (Spares.refl _ _).alloc _⟩
  have cH := refHead_any a c b v1 (hat.spares' hq1.sp (fun _ _ _ _ h => h)) hcap hz
  obtain ⟨R, hR⟩ : ∃ R, responseF b method = R := ⟨_, rfl⟩
  rw [hR]
  have HR : Hid (rspR method (headF b) = R) := Lib.hid hR
  have HQ1 := Lib.hid hq1
  have HV1 := Lib.hid hv1
  have HAT := Lib.hid hat
  obtain ⟨bl, hbl⟩ : ∃ bl, b.length = bl := ⟨_, rfl⟩
  have HBL := Lib.hid hbl
  clear hv1 hq1 hR hat
  obtain ⟨hne, hl1, hl2, hl3⟩ := cuts_lines hH
  rw [hH] at cH HR
  obtain ⟨p1, hb1, hp4, -, -⟩ := headF_split hH
  obtain ⟨p, hp⟩ : ∃ p, b.length - rest.length = p := ⟨_, rfl⟩
  obtain ⟨rl, hrl⟩ : ∃ rl, rest.length = rl := ⟨_, rfl⟩
  have HRLN := Lib.hid hrl
  have hpl : p1.length = p := by have := congrArg List.length hb1; rw [List.length_append] at this; omega
  have HDR : Hid (rest = b.drop p) := Lib.hid (by rw [← hpl]; conv => rhs; rw [hb1]; rw [List.drop_left])
  have hpb : p + rl = bl := by omega
  have HRL : Hid ((match statusR l0 with
    | none => .error 95
    | some (st, reason) => rspH st reason method rest (fieldsF ls)) = R) := Lib.hid (by rw [← status_ref]; exact HR.out)
  unfold RHead at cH
  simp only at cH
  rw [hp] at cH
  obtain ⟨q, hq⟩ : ∃ q, (l0 :: ls).length = q := ⟨_, rfl⟩
  have HQL : Hid (ls.length + 1 = q) := Lib.hid (by rw [← hq]; rfl)
  have hql : q ≤ 1000001 := by rw [← hq]; omega
  have hqp : 1 ≤ q := by rw [← hq]; simp
  have hl0 : l0.length ≤ 1000000 := by have := hl2 l0 (by simp); omega
  have HL2 : Hid (∀ l ∈ ls, l.length ≤ 1000000) := Lib.hid (fun l hl => by have := hl2 l (by simp [hl]); omega)
  have HPD : Hid (p = b.length - rest.length) := Lib.hid hp.symm
  rw [hbl] at cH hcap hz ⊢
  have hp4' : 4 ≤ p := by omega
  obtain ⟨y, z, hay, -⟩ := HAT.out 0 (by have := HBL.out; omega)
  subst hay
  clear hH hbl hp hrl hl1 hl2 hl3 hne HR hb1 hp4 hpl
  go_enter Tryz.func26, Tryz.ntmps26
  go_wp2_with fail
  rw [HV1.out]
  refine cH.mono ?_
  rintro _ w1 ⟨⟨v2, rfl, hrow⟩, hs1⟩
  have HQ3 := Lib.hid (HQ1.out.quiet hs1)
  obtain ⟨a2, c2, hv2, hin⟩ := rowS_in hrow
  rw [List.length_map, hq] at hv2
  subst hv2
  have hqc : q ≤ c2 := by
    rcases hrow.shape with ⟨h1, h2⟩ | ⟨g, cc, h1, _, _, h2, _⟩
    · cases h1; omega
    · cases h1
      rw [List.length_map, hq] at h2
      exact h2
  obtain ⟨g, o, e, hg, x0⟩ := hin 0 (by simp)
  subst e
  have HIN2 := Lib.hid hin
  obtain ⟨S0, hS0⟩ : ∃ S0, ba l0 = S0 := ⟨_, rfl⟩
  have x0' : w1.cell? ⟨g, o, none⟩ = some (.string S0) := by rw [← hS0]; exact x0
  have HSD : Hid (S0.data.toList = l0) := Lib.hid (by rw [← hS0, ba_data])
  have hsz0 : S0.size = l0.length := by rw [← hS0, ba_size]
  have hszb : S0.size ≤ 1000000 := by omega
  have HSZ := Lib.hid hsz0
  obtain ⟨X, hX⟩ : ∃ X, S0.extract 0 9 = X := ⟨_, rfl⟩
  have hXd : X.data.toList = l0.take 9 := by
    rw [← hX, ba_cut, HSD.out]; rfl
  obtain ⟨qb, hqb⟩ : ∃ qb, (l0.take 9 == http11 ++ [32]) = qb := ⟨_, rfl⟩
  have hX1 : (X.toList == [72, 84, 84, 80, 47, 49, 46, 49, 32]) = qb := by rw [Lib.toList_data, hXd]; exact hqb
  have hX2 : (X.toList != [72, 84, 84, 80, 47, 49, 46, 49, 32]) = !qb := by unfold bne; rw [hX1]
  clear x0 hin hrow hs1 cH HQ1 hS0 hq hXd
  have hrl24 : rl ≤ 60000 := by rw [← HRLN.out]; exact hr24.1
  have hqt : qb = true := hqb.symm.trans hgood.2.1
  subst hqt
  have d0 : decide ((S0.size : Int) < 12) = false := by have := hgood.1; simp; omega
  have d0' : ¬ (S0.size : Int) < 12 := by have := hgood.1; omega
  have s1 : (9 : Int) ≤ (S0.size : Int) := by have := hgood.1; omega
  have s2 : 12 ≤ S0.size := by have := hgood.1; omega
  have HCR : Hid ((match codeR (l0.drop 9) with
    | none => .error 95
    | some (st, reason) => rspH st reason method rest (fieldsF ls)) = R) := Lib.hid (by
    rw [← HRL.out]
    unfold statusR
    rw [if_neg (by have := hgood.1; omega), if_neg (by rw [hqb]; decide), if_neg (by have := hgood.2.2; omega)])
  have h12s : S0.size = 12 := by have := hgood.2.2; omega
  have d1 : decide ((12 : Int) < (S0.size : Int)) = false := by simp; omega
  have d1' : ¬ (12 : Int) < (S0.size : Int) := by omega
  have HRD : Hid ((⟨#[]⟩ : ByteArray).data.toList = (l0.drop 9).drop 4) := Lib.hid (by
    rw [List.drop_drop, List.drop_of_length_le (by omega)])
  have hRSz : (⟨#[]⟩ : ByteArray).size ≤ 1000000 := by decide
  obtain ⟨D9, hD9⟩ : ∃ D9, l0.drop 9 = D9 := ⟨_, rfl⟩
  have HD9 := Lib.hid hD9
  rw [hD9] at HCR HRD
  have hD9l : 3 ≤ D9.length := by rw [← hD9, List.length_drop]; omega
  have HAT9 : Hid (∀ (k : Nat) (hk : 9 + k < S0.size), D9[k]? = some (S0[9 + k]'hk)) := Lib.hid (fun k hk => by
    rw [← hD9, List.getElem?_drop, ← HSD.out, List.getElem?_eq_getElem (by rw [size_toList]; exact hk)]
    rfl)
  have HL3 := Lib.hid hD9l
  have cTx := fun W => refText_any (⟨#[]⟩ : ByteArray) W (by omega)
  obtain ⟨tx, htx⟩ : ∃ tx, textF (⟨#[]⟩ : ByteArray) = tx := ⟨_, rfl⟩
  simp only [htx] at cTx
  have HTX : Hid ((D9.drop 4).all textB = tx) := Lib.hid (by rw [← htx, ← HRD.out]; rfl)
  clear hD9 hD9l htx hsz0 hqb hgood hl0
  go_wp2
  go_loop [10, 11] (fun n i => ∃ k : Nat, k ≤ 3 ∧ i = .int .i64 ((9 + k : Nat) : Int) ∧ n = .int .i64 (DateMath.valD (D9.take k)) ∧ Hid ((D9.take k).all DateMath.digitD = true)) (fun _ i => 12 - (intOf i).toNat)
  case atStart => exact ⟨0, by omega, rfl, rfl, Lib.hid rfl⟩
  case round =>
    obtain ⟨k, hk, rfl, rfl, HK⟩ := hrel
    have hb := valD_lt _ HK.out
    have hkl : (D9.take k).length = k := by rw [List.length_take]; have := HL3.out; omega
    rw [hkl] at hb
    have hp10 : (10 : Nat) ^ k ≤ 10 ^ 3 := Nat.pow_le_pow_right (by decide) hk
    have hv : DateMath.valD (D9.take k) ≤ 999 := by
      rw [show (10 : Nat) ^ 3 = 1000 from by decide] at hp10
      omega
    by_cases hlt : k < 3
    · have i1 : (9 : Int) + (k : Int) < 12 := by omega
      have i2 : ((9 + k : Nat) : Int) < 12 := by omega
      have hks : 9 + k < S0.size := by omega
      have hdk := HAT9.out k hks
      have hts : D9.take (k + 1) = D9.take k ++ [S0[9 + k]'hks] := by
        rw [List.take_succ_eq_append_getElem (by have := HL3.out; omega), (List.getElem?_eq_some_iff.1 hdk).2]
      obtain ⟨x, hx⟩ : ∃ x, S0[9 + k]'hks = x := ⟨_, rfl⟩
      have hxl := x.toNat_lt
      have hsn := valD_snoc (D9.take k) x
      rw [hx] at hts hdk
      have HT : Hid (DateMath.valD (D9.take (k + 1)) = DateMath.valD (D9.take k) * 10 + (x.toNat - 48)) := Lib.hid (by rw [hts, hsn])
      have HTA : Hid ((D9.take (k + 1)).all DateMath.digitD = ((D9.take k).all DateMath.digitD && DateMath.digitD x)) := Lib.hid (by rw [hts]; simp)
      have hdd : DateMath.digitD x = decide (48 ≤ x.toNat ∧ x.toNat ≤ 57) := rfl
      have HMX : Hid (x ∈ D9.take 3) := Lib.hid (List.mem_of_getElem? (i := k) (by rw [List.getElem?_take, if_pos hlt]; exact hdk))
      obtain ⟨V, hV⟩ : ∃ V, DateMath.valD (D9.take k) = V := ⟨_, rfl⟩
      rw [hV] at hv HT ⊢
      clear hts hb hkl hp10 hsn hV hdk
      by_cases hd : DateMath.digitD x = true
      · have hd2 := hd
        rw [hdd, decide_eq_true_iff] at hd2
        have HTA2 : Hid ((D9.take (k + 1)).all DateMath.digitD = true) := Lib.hid (by rw [HTA.out, HK.out, hd]; rfl)
        have g1 : ¬ (x.toNat : Int) < 48 := by omega
        have g2 : ¬ (57 : Int) < (x.toNat : Int) := by omega
        have f1 : decide ((x.toNat : Int) < 48) = false := by simp; omega
        have f2 : decide ((57 : Int) < (x.toNat : Int)) = false := by simp; omega
        clear hd hdd
        go_wp2
        go_round
        case rel => exact ⟨k + 1, by omega, by go_num, by rw [HT.out]; congr 1; go_num, HTA2⟩
        case measure => simp [intOf]; omega
      · have hd2 : ¬ (48 ≤ x.toNat ∧ x.toNat ≤ 57) := fun h => hd (by rw [hdd]; exact decide_eq_true h)
        have HF : Hid (R = .error 95) := Lib.hid (by
          rw [← HCR.out]
          unfold codeR
          rw [if_neg]
          intro h
          exact hd (List.all_eq_true.1 h _ HMX.out))
        clear hd hdd
        by_cases h48 : x.toNat < 48
        · have f1 : decide ((x.toNat : Int) < 48) = true := by simp; omega
          clear hd2
          obtain ⟨u, hP⟩ := put_at HQ3.out.b0 (.int .i64 0) (.string ⟨#[]⟩) (.slice none 0 0) (.slice none 0 0)
          have HP := Lib.hid hP
          obtain ⟨k1, ⟨_, k2⟩, k3, ⟨_, k4⟩, k5, ⟨_, k6⟩, k7, ⟨_, k8⟩, k9, _, _⟩ := hP
          go_wp2
          refine bodyPost_ret (results_refr _ rfl HP.out.h0) rfl ?_
          exact refr_error HF.out rfl (HQ3.out.put HP.out).sp
        · have f1 : decide ((x.toNat : Int) < 48) = false := by simp; omega
          have f2 : decide ((57 : Int) < (x.toNat : Int)) = true := by simp; omega
          clear hd2
          obtain ⟨u, hP⟩ := put_at HQ3.out.b0 (.int .i64 0) (.string ⟨#[]⟩) (.slice none 0 0) (.slice none 0 0)
          have HP := Lib.hid hP
          obtain ⟨k1, ⟨_, k2⟩, k3, ⟨_, k4⟩, k5, ⟨_, k6⟩, k7, ⟨_, k8⟩, k9, _, _⟩ := hP
          go_wp2
          refine bodyPost_ret (results_refr _ rfl HP.out.h0) rfl ?_
          exact refr_error HF.out rfl (HQ3.out.put HP.out).sp
    · obtain rfl : k = 3 := by omega
      have i2 : ¬ ((9 + 3 : Nat) : Int) < 12 := by omega
      obtain ⟨st, hst⟩ : ∃ st, DateMath.valD (D9.take 3) = st := ⟨_, rfl⟩
      rw [hst] at hv ⊢
      have HC2 : Hid ((match (if 200 ≤ st ∧ st ≤ 599 ∧ tx = true then some (st, D9.drop 4) else none) with
        | none => .error 95
        | some (st, reason) => rspH st reason method rest (fieldsF ls)) = R) := Lib.hid (by
        rw [← HCR.out]
        unfold codeR
        rw [if_pos HK.out, hst, HTX.out]; rfl)
      clear hb hkl hp10 hst hlt hk HK
      by_cases h2 : st < 200
      · have f1 : decide ((st : Int) < 200) = true := by simp; omega
        have HF : Hid (R = .error 95) := Lib.hid (by rw [← HC2.out, if_neg (by omega)])
        obtain ⟨u, hP⟩ := put_at HQ3.out.b0 (.int .i64 0) (.string ⟨#[]⟩) (.slice none 0 0) (.slice none 0 0)
        have HP := Lib.hid hP
        obtain ⟨k1, ⟨_, k2⟩, k3, ⟨_, k4⟩, k5, ⟨_, k6⟩, k7, ⟨_, k8⟩, k9, _, _⟩ := hP
        go_wp2
        refine bodyPost_ret (results_refr _ rfl HP.out.h0) rfl ?_
        exact refr_error HF.out rfl (HQ3.out.put HP.out).sp
      · have f1 : decide ((st : Int) < 200) = false := by simp; omega
        by_cases h5 : 599 < st
        · have f2 : decide ((599 : Int) < (st : Int)) = true := by simp; omega
          have HF : Hid (R = .error 95) := Lib.hid (by rw [← HC2.out, if_neg (by omega)])
          obtain ⟨u, hP⟩ := put_at HQ3.out.b0 (.int .i64 0) (.string ⟨#[]⟩) (.slice none 0 0) (.slice none 0 0)
          have HP := Lib.hid hP
          obtain ⟨k1, ⟨_, k2⟩, k3, ⟨_, k4⟩, k5, ⟨_, k6⟩, k7, ⟨_, k8⟩, k9, _, _⟩ := hP
          go_wp2
          refine bodyPost_ret (results_refr _ rfl HP.out.h0) rfl ?_
          exact refr_error HF.out rfl (HQ3.out.put HP.out).sp
        · have f2 : decide ((599 : Int) < (st : Int)) = false := by simp; omega
          cases tx with
          | false =>
            have HF : Hid (R = .error 95) := Lib.hid (by rw [← HC2.out, if_neg (fun h => by cases h.2.2)])
            go_wp2_with fail
            refine (cTx _).mono ?_
            rintro _ w4 ⟨rfl, hw⟩
            subst hw
            obtain ⟨u, hP⟩ := put_at HQ3.out.b0 (.int .i64 0) (.string ⟨#[]⟩) (.slice none 0 0) (.slice none 0 0)
            have HP := Lib.hid hP
            obtain ⟨k1, ⟨_, k2⟩, k3, ⟨_, k4⟩, k5, ⟨_, k6⟩, k7, ⟨_, k8⟩, k9, _, _⟩ := hP
            go_wp2
            refine bodyPost_ret (results_refr _ rfl HP.out.h0) rfl ?_
            exact refr_error HF.out rfl (HQ3.out.put HP.out).sp
          | true =>
            have HF : Hid (rspH st (D9.drop 4) method rest (fieldsF ls) = R) := Lib.hid (by rw [← HC2.out, if_pos ⟨by omega, by omega, rfl⟩])
            obtain ⟨reason, hreason⟩ : ∃ reason, D9.drop 4 = reason := ⟨_, rfl⟩
            rw [hreason] at HF HRD
            have HRS : Hid ((⟨#[]⟩ : ByteArray) = ba reason) := Lib.hid (by rw [← HRD.out]; rfl)
            clear hreason HC2
            go_wp2_with fail
            refine (cTx _).mono ?_
            rintro _ w4 ⟨rfl, hw⟩
            subst hw
            have HFL : Hid (∀ (ga : Addr) (kx : Nat), (ga = ⟨g, o + 1, none⟩ ∨ kx = 0) → kx = ls.length → ∀ cx, Calls Tryz.prog 57 #[.slice (some ga) kx cx] w1 (RFields (fieldsF ls) w1)) := Lib.hid (fun ga kx hga hkx cx => by
              have hlsl : ls.length ≤ 1000000 := by have := HQL.out; omega
              refine refFields_any ls (some ga) cx kx w1 hkx ?_ HL2.out hlsl
              intro j hj
              have hj2 : j < ls.length := by simpa using hj
              rcases hga with rfl | h0
              · obtain ⟨x, o5, e, hb, hc⟩ := HIN2.out (j + 1) (by simp; omega)
                injection e with e
                injection e with e1 e2
                subst e1; subst e2
                refine ⟨g, o + 1, rfl, hb, ?_⟩
                rw [show o + 1 + j = o + (j + 1) by omega, hc]
                simp
              · omega)
            have HQL3 := Lib.hid HQ3.out.lt
            have s1 : (1 : Int) ≤ (q : Int) := by omega
            have s2 : (q : Int) ≤ (c2 : Int) := by omega
            have s4 : (1 : Int) ≤ (c2 : Int) := by omega
            have s5 : 1 ≤ c2 := by omega
            cases hFR : fieldsF ls with
            | error x =>
              have hx0 := fieldsF_err hFR
              rw [hFR] at HFL HF
              have HF2 : Hid (R = .error x) := Lib.hid HF.out.symm
              unfold RFields at HFL
              simp only at HFL
              have q1 : ((x : Int) == 0) = false := by rw [beq_eq_false_iff_ne]; omega
              have q2 : ((x : Int) != 0) = true := by unfold bne; rw [q1]; rfl
              have q3 : ¬ (x : Int) = 0 := by omega
              clear hFR HF hx0
              (rcases (show c2 = 1 ∨ 1 < c2 by omega) with hc2 | hc2) <;> (try have s3 : (1 : Int) < (c2 : Int) := by omega) <;> go_wp2_with fail
              all_goals
                refine (HFL.out _ _ (by first | exact .inl rfl | exact .inr rfl | exact .inr (by omega)) (by have := HQL.out; omega) _).mono ?_
                rintro _ w6 ⟨rfl, hs6⟩
                have HQ6 := Lib.hid (HQ3.out.quiet hs6)
                clear hs6
                obtain ⟨u, hP⟩ := put_at HQ6.out.b0 (.int .i64 0) (.string ⟨#[]⟩) (.slice none 0 0) (.slice none 0 0)
                have HP := Lib.hid hP
                obtain ⟨k1, ⟨_, k2⟩, k3, ⟨_, k4⟩, k5, ⟨_, k6⟩, k7, ⟨_, k8⟩, k9, _, _⟩ := hP
                go_wp2
                refine bodyPost_ret (results_refr _ rfl HP.out.h0) rfl ?_
                exact refr_error HF2.out rfl (HQ6.out.put HP.out).sp
            | ok fs =>
              rw [hFR] at HFL HF
              have HFW := Lib.hid (fieldsF_few hFR HL2.out)
              obtain ⟨bd, hbd⟩ : ∃ bd, bodilessF (st : Int) method = bd := ⟨_, rfl⟩
              have HF2 : Hid ((if bd = true then .ok (st, reason, fs, []) else rspB st reason fs (rspW fs rest)) = R) := Lib.hid (by rw [← hbd]; exact HF.out)
              have cB := fun W => bodilessR_any (st : Int) method W
              simp only [hbd] at cB
              unfold RFields at HFL
              simp only at HFL
              obtain ⟨k, hk⟩ : ∃ k, fs.length = k := ⟨_, rfl⟩
              rw [hk] at HFL
              have HK2 := Lib.hid hk
              have hk100 : k ≤ 100 := by rw [← hk]; exact HFW.out.1
              clear hFR HF hk HIN2 hbd
              (rcases (show c2 = 1 ∨ 1 < c2 by omega) with hc2 | hc2) <;> (try have s3 : (1 : Int) < (c2 : Int) := by omega) <;> go_wp2_with fail
              all_goals
                refine (HFL.out _ _ (by first | exact .inl rfl | exact .inr rfl | exact .inr (by omega)) (by have := HQL.out; omega) _).mono ?_
                rintro _ w8 ⟨⟨vf, rfl, hown6⟩, hs6⟩
                have HQ8 := Lib.hid (HQ3.out.quiet hs6)
                have HG8 : Hid (Spares nowhere w1 w8) := Lib.hid hs6
                have HOW8 : Hid (w8.ownsRow w1.heap.size 59 2 vf fs.length (fieldCells fs)) := Lib.hid (by rw [HK2.out]; exact hown6)
                obtain ⟨fa, fc, hvf, hfi⟩ := rowF_shape HOW8.out
                rw [HK2.out] at hvf
                subst hvf
                obtain ⟨v9, hv9⟩ : ∃ v9, w8.alloc (.cells #[.int .i64 st, .string (⟨#[]⟩ : ByteArray), .slice fa k fc, .slice none 0 0] 27) = v9 := ⟨_, rfl⟩
                have hs9 : Spares nowhere w8 v9 := by rw [← hv9]; exact (Spares.refl nowhere w8).alloc _
                have HBV9 : Hid (v9.heap[w8.heap.size]? = some (.cells #[.int .i64 st, .string (⟨#[]⟩ : ByteArray), .slice fa k fc, .slice none 0 0] 27 (0, 0))) := Lib.hid (by rw [← hv9]; exact heap_alloc_new w8 _)
                have HQV9 := Lib.hid (HQ8.out.quiet hs9)
                have HOV9 := Lib.hid (hs9.own HOW8.out (fun _ _ h => h))
                have HWR := Lib.hid HQ8.out.lt
                have HRF : Hid (∀ gq, (Value.slice fa k fc).ownBlock = some gq → gq ≠ w8.heap.size) := Lib.hid (fun gq hgq => by have := (World.ownsRow.lt HOW8.out gq hgq).2; omega)
                have HRV9 : Hid (w8.heap.size < v9.heap.size) := Lib.hid (Array.getElem?_eq_some_iff.1 HBV9.out).1
                have cF := refFraming_any fs fa fc k v9 (FieldsIn.quiet hfi (Nat.le_refl _) hs9 hs9.size) HK2.out.symm HFW.out.small (by have := HFW.out.1; omega) (fun j hj => (HFW.out.2 j hj).2)
                obtain ⟨r, hr⟩ : ∃ r, w8.heap.size = r := ⟨_, rfl⟩
                have HRR := Lib.hid hr
                rw [hr] at HBV9 HWR HRF HRV9
                have HV9 := Lib.hid hv9
                clear hown6 hs6 hs9 hfi hr hv9
                go_wp2_with fail
                rw [HV9.out]
                try rw [HRR.out]
                refine (cB _).mono ?_
                rintro _ w7 ⟨rfl, hw⟩
                replace hw := hw.symm
                subst hw
                cases bd with
                | true =>
                  have HE : Hid (R = .ok (st, reason, fs, [])) := Lib.hid (by rw [← HF2.out, if_pos rfl])
                  have j0 : v9.cell? ⟨r, 0, none⟩ = some (.int .i64 st) := (Lib.cell_of_heap HBV9.out 0).trans rfl
                  have j1 : v9.cell? ⟨r, 1, none⟩ = some (.string (⟨#[]⟩ : ByteArray)) := (Lib.cell_of_heap HBV9.out 1).trans rfl
                  have j2 : v9.cell? ⟨r, 2, none⟩ = some (.slice fa k fc) := (Lib.cell_of_heap HBV9.out 2).trans rfl
                  have j3 : v9.cell? ⟨r, 3, none⟩ = some (.slice none 0 0) := (Lib.cell_of_heap HBV9.out 3).trans rfl
                  obtain ⟨u, hP⟩ := put_at HQV9.out.b0 (.int .i64 st) (.string (⟨#[]⟩ : ByteArray)) (.slice fa k fc) (.slice none 0 0)
                  have HP := Lib.hid hP
                  obtain ⟨k1, ⟨_, k2⟩, k3, ⟨_, k4⟩, k5, ⟨_, k6⟩, k7, ⟨_, k8⟩, k9, _, _⟩ := hP
                  clear cF cB
                  go_wp2
                  refine bodyPost_ret (results_refr _ rfl HP.out.h0) rfl ?_
                  exact refr_ok HE.out (by rw [← HRS.out]; rfl) (own_put HOV9.out HP.out.sp HQL3.out) (row8_nil _ _) (HQV9.out.put HP.out).sp
                | false =>
                  have HF5 : Hid (rspB st reason fs (rspW fs rest) = R) := Lib.hid (by rw [← HF2.out, if_neg (by decide)])
                  unfold FrPost at cF
                  cases hfr : frF fs with
                  | error x =>
                    have hx0 := frF_err hfr
                    rw [hfr] at cF
                    have HF7 : Hid (R = .error x) := Lib.hid (by rw [← HF5.out, rspW_fr hfr]; rfl)
                    unfold frV at cF
                    simp only at cF
                    have q1 : ((x : Int) == 0) = false := by rw [beq_eq_false_iff_ne]; omega
                    have q2 : ((x : Int) != 0) = true := by unfold bne; rw [q1]; rfl
                    have q3 : ¬ (x : Int) = 0 := by omega
                    clear hfr hx0 cB
                    go_wp2_with fail
                    refine cF.mono ?_
                    rintro _ w9 ⟨rfl, hs9⟩
                    have HQ9 := Lib.hid (HQV9.out.quiet hs9)
                    clear hs9
                    obtain ⟨u, hP⟩ := put_at HQ9.out.b0 (.int .i64 0) (.string ⟨#[]⟩) (.slice none 0 0) (.slice none 0 0)
                    have HP := Lib.hid hP
                    obtain ⟨k1, ⟨_, k2⟩, k3, ⟨_, k4⟩, k5, ⟨_, k6⟩, k7, ⟨_, k8⟩, k9, _, _⟩ := hP
                    go_wp2
                    refine bodyPost_ret (results_refr _ rfl HP.out.h0) rfl ?_
                    exact refr_error HF7.out rfl (HQ9.out.put HP.out).sp
                  | ok cnt =>
                    obtain ⟨ch, nn, told⟩ := cnt
                    rw [hfr] at cF
                    unfold frV at cF
                    simp only at cF
                    clear cB
                    go_wp2_with fail
                    refine cF.mono ?_
                    rintro _ w9 ⟨rfl, hs9⟩
                    have HBK9 := Lib.hid (hs9.heap HBV9.out (fun h => h))
                    have HQ9 := Lib.hid (HQV9.out.quiet hs9)
                    have HOW9 := Lib.hid (hs9.own HOV9.out (fun _ _ h => h))
                    have HR9 : Hid (r < w9.heap.size) := Lib.hid (Nat.lt_of_lt_of_le HRV9.out hs9.size)
                    have HBY : Hid (∀ wx, Spares nowhere w9 wx → BytesAt wx (some ⟨y, z + p, none⟩) rest) := Lib.hid (fun wx hs => by
                      rw [HDR.out]
                      exact bytesAt_drop8 ((HAT.out.spares' HQ9.out.sp (fun _ _ _ _ h => h)).spares' hs (fun _ _ _ _ h => h)) p)
                    clear hs9 cF HQV9 HOV9 HBV9 HQ8 HG8 HOW8
                    cases ch with
                    | true =>
                      have HF6 : Hid (rspB st reason fs (chunkF rest) = R) := Lib.hid (by rw [← HF5.out, rspW_fr hfr]; rfl)
                      clear hfr
                      have HCH : Hid (∀ (ga : Addr) (kx : Nat), (ga = ⟨y, z + p, none⟩ ∨ kx = 0) → kx = rl → ∀ cx, kx ≤ cx → Calls Tryz.prog 60 #[.slice (some ga) kx cx] w9 (OpenPost rest (openF fieldB rest) w9)) := Lib.hid (fun ga kx hga hkx cx hcx => by
                        subst hkx
                        rw [← HRLN.out] at hcx ⊢
                        refine refChunks_any (some ga) cx rest w9 ?_ hcx (by rw [HRLN.out]; omega) hr24
                        rcases hga with rfl | h0
                        · exact HBY.out w9 (Spares.refl _ _)
                        · rw [List.eq_nil_of_length_eq_zero (HRLN.out.trans h0)]
                          exact fun j hj => absurd hj (Nat.not_lt_zero _))
                      cases hO : openF fieldB rest with
                      | error x =>
                        have hx0 := openF_err hO
                        have HF7 : Hid (R = .error x) := Lib.hid (by rw [← HF6.out]; unfold chunkF; rw [hO]; rfl)
                        rw [hO] at HCH
                        unfold OpenPost at HCH
                        simp only at HCH
                        have q1 : ((x : Int) == 0) = false := by rw [beq_eq_false_iff_ne]; omega
                        have q2 : ((x : Int) != 0) = true := by unfold bne; rw [q1]; rfl
                        have q3 : ¬ (x : Int) = 0 := by omega
                        have t1 : (p : Int) ≤ (bl : Int) := by omega
                        have t2 : (bl : Int) ≤ (c : Int) := by omega
                        have t3 : (p : Int) ≤ (c : Int) := by omega
                        clear hO hx0
                        (rcases (show p = c ∨ p < c by omega) with hpc | hpc) <;> (try have t4 : (p : Int) < (c : Int) := by omega) <;> go_wp2_with fail
                        all_goals
                          refine (HCH.out _ _ (by first | exact .inl rfl | exact .inr rfl | exact .inr (by omega)) (by omega) _ (by omega)).mono ?_
                          rintro _ w10 ⟨rfl, hs10⟩
                          have HQ10 := Lib.hid (HQ9.out.quiet hs10)
                          clear hs10
                          obtain ⟨u, hP⟩ := put_at HQ10.out.b0 (.int .i64 0) (.string ⟨#[]⟩) (.slice none 0 0) (.slice none 0 0)
                          have HP := Lib.hid hP
                          obtain ⟨k1, ⟨_, k2⟩, k3, ⟨_, k4⟩, k5, ⟨_, k6⟩, k7, ⟨_, k8⟩, k9, _, _⟩ := hP
                          go_wp2
                          refine bodyPost_ret (results_refr _ rfl HP.out.h0) rfl ?_
                          exact refr_error HF7.out rfl (HQ10.out.put HP.out).sp
                      | ok bs =>
                        obtain ⟨body, s⟩ := bs
                        have HE : Hid (R = .ok (st, reason, fs, body)) := Lib.hid (by rw [← HF6.out]; unfold chunkF; rw [hO]; rfl)
                        rw [hO] at HCH
                        unfold OpenPost at HCH
                        simp only at HCH
                        have t1 : (p : Int) ≤ (bl : Int) := by omega
                        have t2 : (bl : Int) ≤ (c : Int) := by omega
                        have t3 : (p : Int) ≤ (c : Int) := by omega
                        clear hO
                        (rcases (show p = c ∨ p < c by omega) with hpc | hpc) <;> (try have t4 : (p : Int) < (c : Int) := by omega) <;> go_wp2_with fail
                        all_goals
                          refine (HCH.out _ _ (by first | exact .inl rfl | exact .inr rfl | exact .inr (by omega)) (by omega) _ (by omega)).mono ?_
                          rintro _ w10 ⟨⟨vb, rfl, hrow⟩, hs10⟩
                          have HBK10 := Lib.hid (hs10.heap HBK9.out (fun h => h))
                          have HQ10 := Lib.hid (HQ9.out.quiet hs10)
                          have HOW10 := Lib.hid (hs10.own HOW9.out (fun _ _ h => h))
                          have HROW10 := Lib.hid hrow
                          clear hs10 hrow
                          obtain ⟨ab, cb, hvb, _⟩ := HROW10.out.shape
                          subst hvb
                          have u3 : w10.cell? ⟨r, 3, none⟩ = some (.slice none 0 0) := (Lib.cell_of_heap HBK10.out 3).trans rfl
                          have v3 : w10.frozen? ⟨r, 3, none⟩ = false := Lib.frozen_of_heap HBK10.out 3
                          obtain ⟨w11, hw11⟩ : ∃ w11, w10.setCell ⟨r, 3, none⟩ (.slice ab body.length cb) = w11 := ⟨_, rfl⟩
                          have hsp11 : Spares (fun k => k = r) w10 w11 := by rw [← hw11]; exact Spares.setCell (F := fun k => k = r) (Spares.refl _ w10) (p := ⟨r, 3, none⟩) (.inl rfl) _
                          have hbk11 : w11.heap[r]? = some (.cells #[.int .i64 st, .string (⟨#[]⟩ : ByteArray), .slice fa k fc, .slice ab body.length cb] 27 (0, 0)) := by rw [← hw11]; exact (set_at (i := 3) HBK10.out _).trans rfl
                          have HQ11 : Hid (QAt 27 w (.int .i64 0) (.string ⟨#[]⟩) (.slice none 0 0) (.slice none 0 0) w11) := Lib.hid ⟨hsp11.heap HQ10.out.b0 (fun e => by have := HWR.out; omega), HQ10.out.sp.trans' hsp11 (fun k hk => .inr (by have := HWR.out; omega))⟩
                          have HOW11 : Hid (w11.ownsRow w1.heap.size 59 2 (.slice fa k fc) fs.length (fieldCells fs)) := Lib.hid (own_not HOW10.out HRF.out hsp11)
                          have HROW11 : Hid (Row8 w9.heap.size w11 (.slice ab body.length cb) body) := Lib.hid (own_off HROW10.out HR9.out hsp11)
                          have j0 : w11.cell? ⟨r, 0, none⟩ = some (.int .i64 st) := (Lib.cell_of_heap hbk11 0).trans rfl
                          have j1 : w11.cell? ⟨r, 1, none⟩ = some (.string (⟨#[]⟩ : ByteArray)) := (Lib.cell_of_heap hbk11 1).trans rfl
                          have j2 : w11.cell? ⟨r, 2, none⟩ = some (.slice fa k fc) := (Lib.cell_of_heap hbk11 2).trans rfl
                          have j3 : w11.cell? ⟨r, 3, none⟩ = some (.slice ab body.length cb) := (Lib.cell_of_heap hbk11 3).trans rfl
                          obtain ⟨u, hP⟩ := put_at HQ11.out.b0 (.int .i64 st) (.string (⟨#[]⟩ : ByteArray)) (.slice fa k fc) (.slice ab body.length cb)
                          have HP := Lib.hid hP
                          obtain ⟨k1, ⟨_, k2⟩, k3, ⟨_, k4⟩, k5, ⟨_, k6⟩, k7, ⟨_, k8⟩, k9, _, _⟩ := hP
                          clear hsp11 hbk11
                          go_wp2
                          refine bodyPost_ret (results_refr _ rfl HP.out.h0) rfl ?_
                          exact refr_ok HE.out (by rw [← HRS.out]; rfl) (own_put HOW11.out HP.out.sp HQL3.out) (own_put HROW11.out HP.out.sp HQ9.out.lt) (HQ11.out.put HP.out).sp
                    | false =>
                      cases told with
                      | true =>
                        have HF6 : Hid (rspB st reason fs (if rest.length < nn then .error 92 else .ok (rest.take nn, nn)) = R) := Lib.hid (by rw [← HF5.out, rspW_fr hfr]; rfl)
                        clear hfr
                        by_cases hsh : rl < nn
                        · have HF7 : Hid (R = .error 92) := Lib.hid (by rw [← HF6.out, if_pos (by rw [HRLN.out]; exact hsh)]; rfl)
                          have d1 : (bl : Int) - (p : Int) < (nn : Int) := by omega
                          obtain ⟨u, hP⟩ := put_at HQ9.out.b0 (.int .i64 0) (.string ⟨#[]⟩) (.slice none 0 0) (.slice none 0 0)
                          have HP := Lib.hid hP
                          obtain ⟨k1, ⟨_, k2⟩, k3, ⟨_, k4⟩, k5, ⟨_, k6⟩, k7, ⟨_, k8⟩, k9, _, _⟩ := hP
                          go_wp2
                          refine bodyPost_ret (results_refr _ rfl HP.out.h0) rfl ?_
                          exact refr_error HF7.out rfl (HQ9.out.put HP.out).sp
                        · have HE : Hid (R = .ok (st, reason, fs, rest.take nn)) := Lib.hid (by rw [← HF6.out, if_neg (by rw [HRLN.out]; exact hsh)]; rfl)
                          have d1 : ¬ ((bl : Int) - (p : Int) < (nn : Int)) := by omega
                          have HTL : Hid ((rest.take nn).length = nn) := Lib.hid (by rw [List.length_take, HRLN.out]; omega)
                          have HTK : Hid (∀ ga : Addr, (ga = ⟨y, z + p, none⟩ ∨ rl = 0) → BytesAt w9 (some ga) (rest.take nn)) := Lib.hid (fun ga hga => by
                            rcases hga with rfl | h0
                            · exact bytesAt_take8 (HBY.out w9 (Spares.refl _ _)) nn
                            · rw [List.eq_nil_of_length_eq_zero (HRLN.out.trans h0), List.take_nil]
                              exact fun j hj => absurd hj (Nat.not_lt_zero _))
                          have t1 : (p : Int) ≤ (p : Int) + (nn : Int) := by omega
                          have t2 : (p : Int) + (nn : Int) ≤ (c : Int) := by omega
                          have t3 : (p : Int) ≤ (c : Int) := by omega
                          have hn1000 : nn ≤ 60000 := by omega
                          obtain ⟨body, hbody⟩ : ∃ body, rest.take nn = body := ⟨_, rfl⟩
                          rw [hbody] at HE HTL HTK
                          clear hbody
                          (rcases (show p = c ∨ p < c by omega) with hpc | hpc) <;> (try have t4 : (p : Int) < (c : Int) := by omega)
                          all_goals
                            go_wp2_with (first
                              | (with_reducible show wpList _ _ _ (⟨some 165, _, _, _, _, _⟩ :: _) _ _
                                 refine wpList_row_bytes rfl _ _ rfl w9.heap.size _ [] rfl (row8_nil _ _) (some _) _ _ body rfl (by have := HTL.out; omega) (HTK.out _ (by first | exact .inl rfl | exact .inr (by omega))) (fun e => by cases e) (by simp; omega) (Nat.le_refl _) ?_
                                 intro vb w10 hrow hs10
                                 have hs10' : Spares nowhere w9 w10 := atLeast_none hs10 (Nat.le_refl _) (Spares.refl _ _)
                                 have HBK10 := Lib.hid (hs10'.heap HBK9.out (fun h => h))
                                 have HQ10 := Lib.hid (HQ9.out.quiet hs10')
                                 have HOW10 := Lib.hid (hs10'.own HOW9.out (fun _ _ h => h))
                                 have HROW10 : Hid (Row8 w9.heap.size w10 vb body) := Lib.hid hrow
                                 clear hs10 hs10' hrow
                                 obtain ⟨ab, cb, hvb, _⟩ := HROW10.out.shape
                                 subst hvb
                                 have u3 : w10.cell? ⟨r, 3, none⟩ = some (.slice none 0 0) := (Lib.cell_of_heap HBK10.out 3).trans rfl
                                 have v3 : w10.frozen? ⟨r, 3, none⟩ = false := Lib.frozen_of_heap HBK10.out 3
                                 obtain ⟨w11, hw11⟩ : ∃ w11, w10.setCell ⟨r, 3, none⟩ (.slice ab body.length cb) = w11 := ⟨_, rfl⟩
                                 have hsp11 : Spares (fun k => k = r) w10 w11 := by rw [← hw11]; exact Spares.setCell (F := fun k => k = r) (Spares.refl _ w10) (p := ⟨r, 3, none⟩) (.inl rfl) _
                                 have hbk11 : w11.heap[r]? = some (.cells #[.int .i64 st, .string (⟨#[]⟩ : ByteArray), .slice fa k fc, .slice ab body.length cb] 27 (0, 0)) := by rw [← hw11]; exact (set_at (i := 3) HBK10.out _).trans rfl
                                 have HQ11 : Hid (QAt 27 w (.int .i64 0) (.string ⟨#[]⟩) (.slice none 0 0) (.slice none 0 0) w11) := Lib.hid ⟨hsp11.heap HQ10.out.b0 (fun e => by have := HWR.out; omega), HQ10.out.sp.trans' hsp11 (fun k hk => .inr (by have := HWR.out; omega))⟩
                                 have HOW11 : Hid (w11.ownsRow w1.heap.size 59 2 (.slice fa k fc) fs.length (fieldCells fs)) := Lib.hid (own_not HOW10.out HRF.out hsp11)
                                 have HROW11 : Hid (Row8 w9.heap.size w11 (.slice ab body.length cb) body) := Lib.hid (own_off HROW10.out HR9.out hsp11)
                                 have j0 : w11.cell? ⟨r, 0, none⟩ = some (.int .i64 st) := (Lib.cell_of_heap hbk11 0).trans rfl
                                 have j1 : w11.cell? ⟨r, 1, none⟩ = some (.string (⟨#[]⟩ : ByteArray)) := (Lib.cell_of_heap hbk11 1).trans rfl
                                 have j2 : w11.cell? ⟨r, 2, none⟩ = some (.slice fa k fc) := (Lib.cell_of_heap hbk11 2).trans rfl
                                 have j3 : w11.cell? ⟨r, 3, none⟩ = some (.slice ab body.length cb) := (Lib.cell_of_heap hbk11 3).trans rfl
                                 obtain ⟨u, hP⟩ := put_at HQ11.out.b0 (.int .i64 st) (.string (⟨#[]⟩ : ByteArray)) (.slice fa k fc) (.slice ab body.length cb)
                                 have HP := Lib.hid hP
                                 obtain ⟨k1, ⟨_, k2⟩, k3, ⟨_, k4⟩, k5, ⟨_, k6⟩, k7, ⟨_, k8⟩, k9, _, _⟩ := hP
                                 clear hsp11 hbk11)
                              | fail)
                            refine bodyPost_ret (results_refr _ rfl HP.out.h0) rfl ?_
                            exact refr_ok HE.out (by rw [← HRS.out]; rfl) (own_put HOW11.out HP.out.sp HQL3.out) (own_put HROW11.out HP.out.sp HQ9.out.lt) (HQ11.out.put HP.out).sp
                      | false =>
                        have HE : Hid (R = .ok (st, reason, fs, rest)) := Lib.hid (by rw [← HF5.out, rspW_fr hfr]; show rspB st reason fs (if 65536 < rest.length then .error 93 else .ok (rest, rest.length)) = _; rw [if_neg (by rw [HRLN.out]; omega)]; rfl)
                        clear hfr
                        have d1 : ¬ ((65536 : Int) < (bl : Int) - (p : Int)) := by omega
                        have HTL : Hid (rest.length = rl) := HRLN
                        have HTK : Hid (∀ ga : Addr, (ga = ⟨y, z + p, none⟩ ∨ rl = 0) → BytesAt w9 (some ga) rest) := Lib.hid (fun ga hga => by
                          rcases hga with rfl | h0
                          · exact HBY.out w9 (Spares.refl _ _)
                          · rw [List.eq_nil_of_length_eq_zero (HRLN.out.trans h0)]
                            exact fun j hj => absurd hj (Nat.not_lt_zero _))
                        have t1 : (p : Int) ≤ (bl : Int) := by omega
                        have t2 : (bl : Int) ≤ (c : Int) := by omega
                        have t3 : (p : Int) ≤ (c : Int) := by omega
                        obtain ⟨body, hbody⟩ : ∃ body, rest = body := ⟨_, rfl⟩
                        rw [hbody] at HE HTL HTK
                        clear hbody
                        rcases (show p = c ∨ p < c by omega) with hpc | hpc
                        · have hr0 : body = [] := List.eq_nil_of_length_eq_zero (by have := HTL.out; omega)
                          have HROW10 : Hid (Row8 w9.heap.size w9 (.slice none 0 0) body) := Lib.hid (by rw [hr0]; exact row8_nil _ _)
                          clear hr0
                          have u3 : w9.cell? ⟨r, 3, none⟩ = some (.slice none 0 0) := (Lib.cell_of_heap HBK9.out 3).trans rfl
                          have v3 : w9.frozen? ⟨r, 3, none⟩ = false := Lib.frozen_of_heap HBK9.out 3
                          obtain ⟨w11, hw11⟩ : ∃ w11, w9.setCell ⟨r, 3, none⟩ (.slice none 0 0) = w11 := ⟨_, rfl⟩
                          have hsp11 : Spares (fun k => k = r) w9 w11 := by rw [← hw11]; exact Spares.setCell (F := fun k => k = r) (Spares.refl _ w9) (p := ⟨r, 3, none⟩) (.inl rfl) _
                          have hbk11 : w11.heap[r]? = some (.cells #[.int .i64 st, .string (⟨#[]⟩ : ByteArray), .slice fa k fc, .slice none 0 0] 27 (0, 0)) := by rw [← hw11]; exact (set_at (i := 3) HBK9.out _).trans rfl
                          have HQ11 : Hid (QAt 27 w (.int .i64 0) (.string ⟨#[]⟩) (.slice none 0 0) (.slice none 0 0) w11) := Lib.hid ⟨hsp11.heap HQ9.out.b0 (fun e => by have := HWR.out; omega), HQ9.out.sp.trans' hsp11 (fun k hk => .inr (by have := HWR.out; omega))⟩
                          have HOW11 : Hid (w11.ownsRow w1.heap.size 59 2 (.slice fa k fc) fs.length (fieldCells fs)) := Lib.hid (own_not HOW9.out HRF.out hsp11)
                          have HROW11 : Hid (Row8 w9.heap.size w11 (.slice none 0 0) body) := Lib.hid (own_off HROW10.out HR9.out hsp11)
                          have j0 : w11.cell? ⟨r, 0, none⟩ = some (.int .i64 st) := (Lib.cell_of_heap hbk11 0).trans rfl
                          have j1 : w11.cell? ⟨r, 1, none⟩ = some (.string (⟨#[]⟩ : ByteArray)) := (Lib.cell_of_heap hbk11 1).trans rfl
                          have j2 : w11.cell? ⟨r, 2, none⟩ = some (.slice fa k fc) := (Lib.cell_of_heap hbk11 2).trans rfl
                          have j3 : w11.cell? ⟨r, 3, none⟩ = some (.slice none 0 0) := (Lib.cell_of_heap hbk11 3).trans rfl
                          obtain ⟨u, hP⟩ := put_at HQ11.out.b0 (.int .i64 st) (.string (⟨#[]⟩ : ByteArray)) (.slice fa k fc) (.slice none 0 0)
                          have HP := Lib.hid hP
                          obtain ⟨k1, ⟨_, k2⟩, k3, ⟨_, k4⟩, k5, ⟨_, k6⟩, k7, ⟨_, k8⟩, k9, _, _⟩ := hP
                          clear hsp11 hbk11
                          go_wp2
                          refine bodyPost_ret (results_refr _ rfl HP.out.h0) rfl ?_
                          exact refr_ok HE.out (by rw [← HRS.out]; rfl) (own_put HOW11.out HP.out.sp HQL3.out) (own_put HROW11.out HP.out.sp HQ9.out.lt) (HQ11.out.put HP.out).sp
                        · have t4 : (p : Int) < (c : Int) := by omega
                          go_wp2_with (first
                            | (with_reducible show wpList _ _ _ (⟨some 127, _, _, _, _, _⟩ :: _) _ _
                               refine wpList_row_bytes rfl _ _ rfl w9.heap.size _ [] rfl (row8_nil _ _) (some _) _ _ body rfl (by have := HTL.out; omega) (HTK.out _ (by first | exact .inl rfl | exact .inr (by omega))) (fun e => by cases e) (by simp; omega) (Nat.le_refl _) ?_
                               intro vb w10 hrow hs10
                               have hs10' : Spares nowhere w9 w10 := atLeast_none hs10 (Nat.le_refl _) (Spares.refl _ _)
                               have HBK10 := Lib.hid (hs10'.heap HBK9.out (fun h => h))
                               have HQ10 := Lib.hid (HQ9.out.quiet hs10')
                               have HOW10 := Lib.hid (hs10'.own HOW9.out (fun _ _ h => h))
                               have HROW10 : Hid (Row8 w9.heap.size w10 vb body) := Lib.hid hrow
                               clear hs10 hs10' hrow
                               obtain ⟨ab, cb, hvb, _⟩ := HROW10.out.shape
                               subst hvb
                               have u3 : w10.cell? ⟨r, 3, none⟩ = some (.slice none 0 0) := (Lib.cell_of_heap HBK10.out 3).trans rfl
                               have v3 : w10.frozen? ⟨r, 3, none⟩ = false := Lib.frozen_of_heap HBK10.out 3
                               obtain ⟨w11, hw11⟩ : ∃ w11, w10.setCell ⟨r, 3, none⟩ (.slice ab body.length cb) = w11 := ⟨_, rfl⟩
                               have hsp11 : Spares (fun k => k = r) w10 w11 := by rw [← hw11]; exact Spares.setCell (F := fun k => k = r) (Spares.refl _ w10) (p := ⟨r, 3, none⟩) (.inl rfl) _
                               have hbk11 : w11.heap[r]? = some (.cells #[.int .i64 st, .string (⟨#[]⟩ : ByteArray), .slice fa k fc, .slice ab body.length cb] 27 (0, 0)) := by rw [← hw11]; exact (set_at (i := 3) HBK10.out _).trans rfl
                               have HQ11 : Hid (QAt 27 w (.int .i64 0) (.string ⟨#[]⟩) (.slice none 0 0) (.slice none 0 0) w11) := Lib.hid ⟨hsp11.heap HQ10.out.b0 (fun e => by have := HWR.out; omega), HQ10.out.sp.trans' hsp11 (fun k hk => .inr (by have := HWR.out; omega))⟩
                               have HOW11 : Hid (w11.ownsRow w1.heap.size 59 2 (.slice fa k fc) fs.length (fieldCells fs)) := Lib.hid (own_not HOW10.out HRF.out hsp11)
                               have HROW11 : Hid (Row8 w9.heap.size w11 (.slice ab body.length cb) body) := Lib.hid (own_off HROW10.out HR9.out hsp11)
                               have j0 : w11.cell? ⟨r, 0, none⟩ = some (.int .i64 st) := (Lib.cell_of_heap hbk11 0).trans rfl
                               have j1 : w11.cell? ⟨r, 1, none⟩ = some (.string (⟨#[]⟩ : ByteArray)) := (Lib.cell_of_heap hbk11 1).trans rfl
                               have j2 : w11.cell? ⟨r, 2, none⟩ = some (.slice fa k fc) := (Lib.cell_of_heap hbk11 2).trans rfl
                               have j3 : w11.cell? ⟨r, 3, none⟩ = some (.slice ab body.length cb) := (Lib.cell_of_heap hbk11 3).trans rfl
                               obtain ⟨u, hP⟩ := put_at HQ11.out.b0 (.int .i64 st) (.string (⟨#[]⟩ : ByteArray)) (.slice fa k fc) (.slice ab body.length cb)
                               have HP := Lib.hid hP
                               obtain ⟨k1, ⟨_, k2⟩, k3, ⟨_, k4⟩, k5, ⟨_, k6⟩, k7, ⟨_, k8⟩, k9, _, _⟩ := hP
                               clear hsp11 hbk11)
                            | fail)
                          refine bodyPost_ret (results_refr _ rfl HP.out.h0) rfl ?_
                          exact refr_ok HE.out (by rw [← HRS.out]; rfl) (own_put HOW11.out HP.out.sp HQL3.out) (own_put HROW11.out HP.out.sp HQ9.out.lt) (HQ11.out.put HP.out).sp
end Go.Proofs.YtjpmofnnjdhamaaGreatDoor
namespace Go.Proofs.YtjpmofnnjdhamaaGreatDoor
open Go.RowKit HeadMath NormMath NormS HeadS ChunkMath HttpMath

set_option maxRecDepth 100000 in
set_option maxHeartbeats 16000000 in
theorem refRsp_long (b : Bs) (method : ByteArray) (a : Option Addr) (c : Nat) (w : World) (hat : BytesAt w a b) (hcap : b.length ≤ c) (hz : b.length ≤ 1000000) (l0 rest : Bs) (ls : List Bs) (hH : headF b = .ok (l0 :: ls, rest)) (hr24 : FitL rest) (hgood : 12 < l0.length ∧ (l0.take 9 == http11 ++ [32]) = true ∧ l0[12]? = some 32) :
    Calls Tryz.prog 26 #[.slice a b.length c, .string method] w (RspPost (responseF b method) w) := by
  obtain ⟨v1, hv1⟩ : ∃ v1, w.alloc (.cells #[.int .i64 0, .string ⟨#[]⟩, .slice none 0 0, .slice none 0 0] 27) = v1 := ⟨_, rfl⟩
  have hq1 : QAt 27 w (.int .i64 0) (.string ⟨#[]⟩) (.slice none 0 0) (.slice none 0 0) v1 := ⟨by rw [← hv1]; exact heap_alloc_new _ _, by rw [← hv1]; exact (Spares.refl _ _).alloc _⟩
  have cH := refHead_any a c b v1 (hat.spares' hq1.sp (fun _ _ _ _ h => h)) hcap hz
  obtain ⟨R, hR⟩ : ∃ R, responseF b method = R := ⟨_, rfl⟩
  rw [hR]
  have HR : Hid (rspR method (headF b) = R) := Lib.hid hR
  have HQ1 := Lib.hid hq1
  have HV1 := Lib.hid hv1
  have HAT := Lib.hid hat
  obtain ⟨bl, hbl⟩ : ∃ bl, b.length = bl := ⟨_, rfl⟩
  have HBL := Lib.hid hbl
  clear hv1 hq1 hR hat
  obtain ⟨hne, hl1, hl2, hl3⟩ := cuts_lines hH
  rw [hH] at cH HR
  obtain ⟨p1, hb1, hp4, -, -⟩ := headF_split hH
  obtain ⟨p, hp⟩ : ∃ p, b.length - rest.length = p := ⟨_, rfl⟩
  obtain ⟨rl, hrl⟩ : ∃ rl, rest.length = rl := ⟨_, rfl⟩
  have HRLN := Lib.hid hrl
  have hpl : p1.length = p := by have := congrArg List.length hb1; rw [List.length_append] at this; omega
  have HDR : Hid (rest = b.drop p) := Lib.hid (by rw [← hpl]; conv => rhs; rw [hb1]; rw [List.drop_left])
  have hpb : p + rl = bl := by omega
  have HRL : Hid ((match statusR l0 with
    | none => .error 95
    | some (st, reason) => rspH st reason method rest (fieldsF ls)) = R) := Lib.hid (by rw [← status_ref]; exact HR.out)
  unfold RHead at cH
  simp only at cH
  rw [hp] at cH
  obtain ⟨q, hq⟩ : ∃ q, (l0 :: ls).length = q := ⟨_, rfl⟩
  have HQL : Hid (ls.length + 1 = q) := Lib.hid (by rw [← hq]; rfl)
  have hql : q ≤ 1000001 := by rw [← hq]; omega
  have hqp : 1 ≤ q := by rw [← hq]; simp
  have hl0 : l0.length ≤ 1000000 := by have := hl2 l0 (by simp); omega
  have HL2 : Hid (∀ l ∈ ls, l.length ≤ 1000000) := Lib.hid (fun l hl => by have := hl2 l (by simp [hl]); omega)
  have HPD : Hid (p = b.length - rest.length) := Lib.hid hp.symm
  rw [hbl] at cH hcap hz ⊢
  have hp4' : 4 ≤ p := by omega
  obtain ⟨y, z, hay, -⟩ := HAT.out 0 (by have := HBL.out; omega)
  subst hay
  clear hH hbl hp hrl hl1 hl2 hl3 hne HR hb1 hp4 hpl
  go_enter Tryz.func26, Tryz.ntmps26
  go_wp2_with fail
  rw [HV1.out]
  refine cH.mono ?_
  rintro _ w1 ⟨⟨v2, rfl, hrow⟩, hs1⟩
  have HQ3 := Lib.hid (HQ1.out.quiet hs1)
  obtain ⟨a2, c2, hv2, hin⟩ := rowS_in hrow
  rw [List.length_map, hq] at hv2
  subst hv2
  have hqc : q ≤ c2 := by
    rcases hrow.shape with ⟨h1, h2⟩ | ⟨g, cc, h1, _, _, h2, _⟩
    · cases h1; omega
    · cases h1
      rw [List.length_map, hq] at h2
      exact h2
  obtain ⟨g, o, e, hg, x0⟩ := hin 0 (by simp)
  subst e
  have HIN2 := Lib.hid hin
  obtain ⟨S0, hS0⟩ : ∃ S0, ba l0 = S0 := ⟨_, rfl⟩
  have x0' : w1.cell? ⟨g, o, none⟩ = some (.string S0) := by rw [← hS0]; exact x0
  have HSD : Hid (S0.data.toList = l0) := Lib.hid (by rw [← hS0, ba_data])
  have hsz0 : S0.size = l0.length := by rw [← hS0, ba_size]
  have hszb : S0.size ≤ 1000000 := by omega
  have HSZ := Lib.hid hsz0
  obtain ⟨X, hX⟩ : ∃ X, S0.extract 0 9 = X := ⟨_, rfl⟩
  have hXd : X.data.toList = l0.take 9 := by
    rw [← hX, ba_cut, HSD.out]; rfl
  obtain ⟨qb, hqb⟩ : ∃ qb, (l0.take 9 == http11 ++ [32]) = qb := ⟨_, rfl⟩
  have hX1 : (X.toList == [72, 84, 84, 80, 47, 49, 46, 49, 32]) = qb := by rw [Lib.toList_data, hXd]; exact hqb
  have hX2 : (X.toList != [72, 84, 84, 80, 47, 49, 46, 49, 32]) = !qb := by unfold bne; rw [hX1]
  clear x0 hin hrow hs1 cH HQ1 hS0 hq hXd
  have hrl24 : rl ≤ 60000 := by rw [← HRLN.out]; exact hr24.1
  have hqt : qb = true := hqb.symm.trans hgood.2.1
  subst hqt
  have d0 : decide ((S0.size : Int) < 12) = false := by have := hgood.1; simp; omega
  have d0' : ¬ (S0.size : Int) < 12 := by have := hgood.1; omega
  have s1 : (9 : Int) ≤ (S0.size : Int) := by have := hgood.1; omega
  have s2 : 12 ≤ S0.size := by have := hgood.1; omega
  have HCR : Hid ((match codeR (l0.drop 9) with
    | none => .error 95
    | some (st, reason) => rspH st reason method rest (fieldsF ls)) = R) := Lib.hid (by
    rw [← HRL.out]
    unfold statusR
    rw [if_neg (by have := hgood.1; omega), if_neg (by rw [hqb]; decide), if_neg (by have := hgood.2.2; exact fun h => h.2 this)])
  have h13s : 12 < S0.size := by have := hgood.1; omega
  have d1 : decide ((12 : Int) < (S0.size : Int)) = true := by simp; omega
  have d1' : (12 : Int) < (S0.size : Int) := by omega
  have hsp : S0[12]'h13s = 32 := by
    have h := hgood.2.2
    rw [← HSD.out, List.getElem?_eq_getElem (by rw [size_toList]; exact h13s)] at h
    exact Option.some.inj h
  have e1 : (((S0[12]'h13s).toNat : Int) == 32) = true := by rw [hsp]; rfl
  have e2 : (((S0[12]'h13s).toNat : Int) != 32) = false := by rw [hsp]; rfl
  have e3 : ((S0[12]'h13s).toNat : Int) = 32 := by rw [hsp]; rfl
  obtain ⟨RS, hRS⟩ : ∃ RS, S0.extract 13 S0.size = RS := ⟨_, rfl⟩
  have HRD : Hid (RS.data.toList = (l0.drop 9).drop 4) := Lib.hid (by rw [← hRS, ba_tail, ba_data, HSD.out, List.drop_drop])
  have t13 : (13 : Int) ≤ (S0.size : Int) := by omega
  have hRSz : RS.size ≤ 1000000 := by rw [← size_toList, HRD.out, List.length_drop, List.length_drop]; omega
  clear hsp
  obtain ⟨D9, hD9⟩ : ∃ D9, l0.drop 9 = D9 := ⟨_, rfl⟩
  have HD9 := Lib.hid hD9
  rw [hD9] at HCR HRD
  have hD9l : 3 ≤ D9.length := by rw [← hD9, List.length_drop]; omega
  have HAT9 : Hid (∀ (k : Nat) (hk : 9 + k < S0.size), D9[k]? = some (S0[9 + k]'hk)) := Lib.hid (fun k hk => by
    rw [← hD9, List.getElem?_drop, ← HSD.out, List.getElem?_eq_getElem (by rw [size_toList]; exact hk)]
    rfl)
  have HL3 := Lib.hid hD9l
  have cTx := fun W => refText_any RS W (by omega)
  obtain ⟨tx, htx⟩ : ∃ tx, textF RS = tx := ⟨_, rfl⟩
  simp only [htx] at cTx
  have HTX : Hid ((D9.drop 4).all textB = tx) := Lib.hid (by rw [← htx, ← HRD.out]; rfl)
  clear hD9 hD9l htx hsz0 hqb hgood hl0
  go_wp2
  go_loop [10, 11] (fun n i => ∃ k : Nat, k ≤ 3 ∧ i = .int .i64 ((9 + k : Nat) : Int) ∧ n = .int .i64 (DateMath.valD (D9.take k)) ∧ Hid ((D9.take k).all DateMath.digitD = true)) (fun _ i => 12 - (intOf i).toNat)
  case atStart => exact ⟨0, by omega, rfl, rfl, Lib.hid rfl⟩
  case round =>
    obtain ⟨k, hk, rfl, rfl, HK⟩ := hrel
    have hb := valD_lt _ HK.out
    have hkl : (D9.take k).length = k := by rw [List.length_take]; have := HL3.out; omega
    rw [hkl] at hb
    have hp10 : (10 : Nat) ^ k ≤ 10 ^ 3 := Nat.pow_le_pow_right (by decide) hk
    have hv : DateMath.valD (D9.take k) ≤ 999 := by
      rw [show (10 : Nat) ^ 3 = 1000 from by decide] at hp10
      omega
    by_cases hlt : k < 3
    · have i1 : (9 : Int) + (k : Int) < 12 := by omega
      have i2 : ((9 + k : Nat) : Int) < 12 := by omega
      have hks : 9 + k < S0.size := by omega
      have hdk := HAT9.out k hks
      have hts : D9.take (k + 1) = D9.take k ++ [S0[9 + k]'hks] := by
        rw [List.take_succ_eq_append_getElem (by have := HL3.out; omega), (List.getElem?_eq_some_iff.1 hdk).2]
      obtain ⟨x, hx⟩ : ∃ x, S0[9 + k]'hks = x := ⟨_, rfl⟩
      have hxl := x.toNat_lt
      have hsn := valD_snoc (D9.take k) x
      rw [hx] at hts hdk
      have HT : Hid (DateMath.valD (D9.take (k + 1)) = DateMath.valD (D9.take k) * 10 + (x.toNat - 48)) := Lib.hid (by rw [hts, hsn])
      have HTA : Hid ((D9.take (k + 1)).all DateMath.digitD = ((D9.take k).all DateMath.digitD && DateMath.digitD x)) := Lib.hid (by rw [hts]; simp)
      have hdd : DateMath.digitD x = decide (48 ≤ x.toNat ∧ x.toNat ≤ 57) := rfl
      have HMX : Hid (x ∈ D9.take 3) := Lib.hid (List.mem_of_getElem? (i := k) (by rw [List.getElem?_take, if_pos hlt]; exact hdk))
      obtain ⟨V, hV⟩ : ∃ V, DateMath.valD (D9.take k) = V := ⟨_, rfl⟩
      rw [hV] at hv HT ⊢
      clear hts hb hkl hp10 hsn hV hdk
      by_cases hd : DateMath.digitD x = true
      · have hd2 := hd
        rw [hdd, decide_eq_true_iff] at hd2
        have HTA2 : Hid ((D9.take (k + 1)).all DateMath.digitD = true) := Lib.hid (by rw [HTA.out, HK.out, hd]; rfl)
        have g1 : ¬ (x.toNat : Int) < 48 := by omega
        have g2 : ¬ (57 : Int) < (x.toNat : Int) := by omega
        have f1 : decide ((x.toNat : Int) < 48) = false := by simp; omega
        have f2 : decide ((57 : Int) < (x.toNat : Int)) = false := by simp; omega
        clear hd hdd
        go_wp2
        go_round
        case rel => exact ⟨k + 1, by omega, by go_num, by rw [HT.out]; congr 1; go_num, HTA2⟩
        case measure => simp [intOf]; omega
      · have hd2 : ¬ (48 ≤ x.toNat ∧ x.toNat ≤ 57) := fun h => hd (by rw [hdd]; exact decide_eq_true h)
        have HF : Hid (R = .error 95) := Lib.hid (by
          rw [← HCR.out]
          unfold codeR
          rw [if_neg]
          intro h
          exact hd (List.all_eq_true.1 h _ HMX.out))
        clear hd hdd
        by_cases h48 : x.toNat < 48
        · have f1 : decide ((x.toNat : Int) < 48) = true := by simp; omega
          clear hd2
          obtain ⟨u, hP⟩ := put_at HQ3.out.b0 (.int .i64 0) (.string ⟨#[]⟩) (.slice none 0 0) (.slice none 0 0)
          have HP := Lib.hid hP
          obtain ⟨k1, ⟨_, k2⟩, k3, ⟨_, k4⟩, k5, ⟨_, k6⟩, k7, ⟨_, k8⟩, k9, _, _⟩ := hP
          go_wp2
          refine bodyPost_ret (results_refr _ rfl HP.out.h0) rfl ?_
          exact refr_error HF.out rfl (HQ3.out.put HP.out).sp
        · have f1 : decide ((x.toNat : Int) < 48) = false := by simp; omega
          have f2 : decide ((57 : Int) < (x.toNat : Int)) = true := by simp; omega
          clear hd2
          obtain ⟨u, hP⟩ := put_at HQ3.out.b0 (.int .i64 0) (.string ⟨#[]⟩) (.slice none 0 0) (.slice none 0 0)
          have HP := Lib.hid hP
          obtain ⟨k1, ⟨_, k2⟩, k3, ⟨_, k4⟩, k5, ⟨_, k6⟩, k7, ⟨_, k8⟩, k9, _, _⟩ := hP
          go_wp2
          refine bodyPost_ret (results_refr _ rfl HP.out.h0) rfl ?_
          exact refr_error HF.out rfl (HQ3.out.put HP.out).sp
    · obtain rfl : k = 3 := by omega
      have i2 : ¬ ((9 + 3 : Nat) : Int) < 12 := by omega
      obtain ⟨st, hst⟩ : ∃ st, DateMath.valD (D9.take 3) = st := ⟨_, rfl⟩
      rw [hst] at hv ⊢
      have HC2 : Hid ((match (if 200 ≤ st ∧ st ≤ 599 ∧ tx = true then some (st, D9.drop 4) else none) with
        | none => .error 95
        | some (st, reason) => rspH st reason method rest (fieldsF ls)) = R) := Lib.hid (by
        rw [← HCR.out]
        unfold codeR
        rw [if_pos HK.out, hst, HTX.out]; rfl)
      clear hb hkl hp10 hst hlt hk HK
      by_cases h2 : st < 200
      · have f1 : decide ((st : Int) < 200) = true := by simp; omega
        have HF : Hid (R = .error 95) := Lib.hid (by rw [← HC2.out, if_neg (by omega)])
        obtain ⟨u, hP⟩ := put_at HQ3.out.b0 (.int .i64 0) (.string ⟨#[]⟩) (.slice none 0 0) (.slice none 0 0)
        have HP := Lib.hid hP
        obtain ⟨k1, ⟨_, k2⟩, k3, ⟨_, k4⟩, k5, ⟨_, k6⟩, k7, ⟨_, k8⟩, k9, _, _⟩ := hP
        go_wp2
        refine bodyPost_ret (results_refr _ rfl HP.out.h0) rfl ?_
        exact refr_error HF.out rfl (HQ3.out.put HP.out).sp
      · have f1 : decide ((st : Int) < 200) = false := by simp; omega
        by_cases h5 : 599 < st
        · have f2 : decide ((599 : Int) < (st : Int)) = true := by simp; omega
          have HF : Hid (R = .error 95) := Lib.hid (by rw [← HC2.out, if_neg (by omega)])
          obtain ⟨u, hP⟩ := put_at HQ3.out.b0 (.int .i64 0) (.string ⟨#[]⟩) (.slice none 0 0) (.slice none 0 0)
          have HP := Lib.hid hP
          obtain ⟨k1, ⟨_, k2⟩, k3, ⟨_, k4⟩, k5, ⟨_, k6⟩, k7, ⟨_, k8⟩, k9, _, _⟩ := hP
          go_wp2
          refine bodyPost_ret (results_refr _ rfl HP.out.h0) rfl ?_
          exact refr_error HF.out rfl (HQ3.out.put HP.out).sp
        · have f2 : decide ((599 : Int) < (st : Int)) = false := by simp; omega
          cases tx with
          | false =>
            have HF : Hid (R = .error 95) := Lib.hid (by rw [← HC2.out, if_neg (fun h => by cases h.2.2)])
            go_wp2_with fail
            refine (cTx _).mono ?_
            rintro _ w4 ⟨rfl, hw⟩
            subst hw
            obtain ⟨u, hP⟩ := put_at HQ3.out.b0 (.int .i64 0) (.string ⟨#[]⟩) (.slice none 0 0) (.slice none 0 0)
            have HP := Lib.hid hP
            obtain ⟨k1, ⟨_, k2⟩, k3, ⟨_, k4⟩, k5, ⟨_, k6⟩, k7, ⟨_, k8⟩, k9, _, _⟩ := hP
            go_wp2
            refine bodyPost_ret (results_refr _ rfl HP.out.h0) rfl ?_
            exact refr_error HF.out rfl (HQ3.out.put HP.out).sp
          | true =>
            have HF : Hid (rspH st (D9.drop 4) method rest (fieldsF ls) = R) := Lib.hid (by rw [← HC2.out, if_pos ⟨by omega, by omega, rfl⟩])
            obtain ⟨reason, hreason⟩ : ∃ reason, D9.drop 4 = reason := ⟨_, rfl⟩
            rw [hreason] at HF HRD
            have HRS : Hid (RS = ba reason) := Lib.hid (by rw [← HRD.out]; rfl)
            clear hreason HC2
            go_wp2_with fail
            refine (cTx _).mono ?_
            rintro _ w4 ⟨rfl, hw⟩
            subst hw
            have HFL : Hid (∀ (ga : Addr) (kx : Nat), (ga = ⟨g, o + 1, none⟩ ∨ kx = 0) → kx = ls.length → ∀ cx, Calls Tryz.prog 57 #[.slice (some ga) kx cx] w1 (RFields (fieldsF ls) w1)) := Lib.hid (fun ga kx hga hkx cx => by
              have hlsl : ls.length ≤ 1000000 := by have := HQL.out; omega
              refine refFields_any ls (some ga) cx kx w1 hkx ?_ HL2.out hlsl
              intro j hj
              have hj2 : j < ls.length := by simpa using hj
              rcases hga with rfl | h0
              · obtain ⟨x, o5, e, hb, hc⟩ := HIN2.out (j + 1) (by simp; omega)
                injection e with e
                injection e with e1 e2
                subst e1; subst e2
                refine ⟨g, o + 1, rfl, hb, ?_⟩
                rw [show o + 1 + j = o + (j + 1) by omega, hc]
                simp
              · omega)
            have HQL3 := Lib.hid HQ3.out.lt
            have s1 : (1 : Int) ≤ (q : Int) := by omega
            have s2 : (q : Int) ≤ (c2 : Int) := by omega
            have s4 : (1 : Int) ≤ (c2 : Int) := by omega
            have s5 : 1 ≤ c2 := by omega
            cases hFR : fieldsF ls with
            | error x =>
              have hx0 := fieldsF_err hFR
              rw [hFR] at HFL HF
              have HF2 : Hid (R = .error x) := Lib.hid HF.out.symm
              unfold RFields at HFL
              simp only at HFL
              have q1 : ((x : Int) == 0) = false := by rw [beq_eq_false_iff_ne]; omega
              have q2 : ((x : Int) != 0) = true := by unfold bne; rw [q1]; rfl
              have q3 : ¬ (x : Int) = 0 := by omega
              clear hFR HF hx0
              (rcases (show c2 = 1 ∨ 1 < c2 by omega) with hc2 | hc2) <;> (try have s3 : (1 : Int) < (c2 : Int) := by omega) <;> go_wp2_with fail
              all_goals
                refine (HFL.out _ _ (by first | exact .inl rfl | exact .inr rfl | exact .inr (by omega)) (by have := HQL.out; omega) _).mono ?_
                rintro _ w6 ⟨rfl, hs6⟩
                have HQ6 := Lib.hid (HQ3.out.quiet hs6)
                clear hs6
                obtain ⟨u, hP⟩ := put_at HQ6.out.b0 (.int .i64 0) (.string ⟨#[]⟩) (.slice none 0 0) (.slice none 0 0)
                have HP := Lib.hid hP
                obtain ⟨k1, ⟨_, k2⟩, k3, ⟨_, k4⟩, k5, ⟨_, k6⟩, k7, ⟨_, k8⟩, k9, _, _⟩ := hP
                go_wp2
                refine bodyPost_ret (results_refr _ rfl HP.out.h0) rfl ?_
                exact refr_error HF2.out rfl (HQ6.out.put HP.out).sp
            | ok fs =>
              rw [hFR] at HFL HF
              have HFW := Lib.hid (fieldsF_few hFR HL2.out)
              obtain ⟨bd, hbd⟩ : ∃ bd, bodilessF (st : Int) method = bd := ⟨_, rfl⟩
              have HF2 : Hid ((if bd = true then .ok (st, reason, fs, []) else rspB st reason fs (rspW fs rest)) = R) := Lib.hid (by rw [← hbd]; exact HF.out)
              have cB := fun W => bodilessR_any (st : Int) method W
              simp only [hbd] at cB
              unfold RFields at HFL
              simp only at HFL
              obtain ⟨k, hk⟩ : ∃ k, fs.length = k := ⟨_, rfl⟩
              rw [hk] at HFL
              have HK2 := Lib.hid hk
              have hk100 : k ≤ 100 := by rw [← hk]; exact HFW.out.1
              clear hFR HF hk HIN2 hbd
              (rcases (show c2 = 1 ∨ 1 < c2 by omega) with hc2 | hc2) <;> (try have s3 : (1 : Int) < (c2 : Int) := by omega) <;> go_wp2_with fail
              all_goals
                refine (HFL.out _ _ (by first | exact .inl rfl | exact .inr rfl | exact .inr (by omega)) (by have := HQL.out; omega) _).mono ?_
                rintro _ w8 ⟨⟨vf, rfl, hown6⟩, hs6⟩
                have HQ8 := Lib.hid (HQ3.out.quiet hs6)
                have HG8 : Hid (Spares nowhere w1 w8) := Lib.hid hs6
                have HOW8 : Hid (w8.ownsRow w1.heap.size 59 2 vf fs.length (fieldCells fs)) := Lib.hid (by rw [HK2.out]; exact hown6)
                obtain ⟨fa, fc, hvf, hfi⟩ := rowF_shape HOW8.out
                rw [HK2.out] at hvf
                subst hvf
                obtain ⟨v9, hv9⟩ : ∃ v9, w8.alloc (.cells #[.int .i64 st, .string RS, .slice fa k fc, .slice none 0 0] 27) = v9 := ⟨_, rfl⟩
                have hs9 : Spares nowhere w8 v9 := by rw [← hv9]; exact (Spares.refl nowhere w8).alloc _
                have HBV9 : Hid (v9.heap[w8.heap.size]? = some (.cells #[.int .i64 st, .string RS, .slice fa k fc, .slice none 0 0] 27 (0, 0))) := Lib.hid (by rw [← hv9]; exact heap_alloc_new w8 _)
                have HQV9 := Lib.hid (HQ8.out.quiet hs9)
                have HOV9 := Lib.hid (hs9.own HOW8.out (fun _ _ h => h))
                have HWR := Lib.hid HQ8.out.lt
                have HRF : Hid (∀ gq, (Value.slice fa k fc).ownBlock = some gq → gq ≠ w8.heap.size) := Lib.hid (fun gq hgq => by have := (World.ownsRow.lt HOW8.out gq hgq).2; omega)
                have HRV9 : Hid (w8.heap.size < v9.heap.size) := Lib.hid (Array.getElem?_eq_some_iff.1 HBV9.out).1
                have cF := refFraming_any fs fa fc k v9 (FieldsIn.quiet hfi (Nat.le_refl _) hs9 hs9.size) HK2.out.symm HFW.out.small (by have := HFW.out.1; omega) (fun j hj => (HFW.out.2 j hj).2)
                obtain ⟨r, hr⟩ : ∃ r, w8.heap.size = r := ⟨_, rfl⟩
                have HRR := Lib.hid hr
                rw [hr] at HBV9 HWR HRF HRV9
                have HV9 := Lib.hid hv9
                clear hown6 hs6 hs9 hfi hr hv9
                go_wp2_with fail
                rw [HV9.out]
                try rw [HRR.out]
                refine (cB _).mono ?_
                rintro _ w7 ⟨rfl, hw⟩
                replace hw := hw.symm
                subst hw
                cases bd with
                | true =>
                  have HE : Hid (R = .ok (st, reason, fs, [])) := Lib.hid (by rw [← HF2.out, if_pos rfl])
                  have j0 : v9.cell? ⟨r, 0, none⟩ = some (.int .i64 st) := (Lib.cell_of_heap HBV9.out 0).trans rfl
                  have j1 : v9.cell? ⟨r, 1, none⟩ = some (.string RS) := (Lib.cell_of_heap HBV9.out 1).trans rfl
                  have j2 : v9.cell? ⟨r, 2, none⟩ = some (.slice fa k fc) := (Lib.cell_of_heap HBV9.out 2).trans rfl
                  have j3 : v9.cell? ⟨r, 3, none⟩ = some (.slice none 0 0) := (Lib.cell_of_heap HBV9.out 3).trans rfl
                  obtain ⟨u, hP⟩ := put_at HQV9.out.b0 (.int .i64 st) (.string RS) (.slice fa k fc) (.slice none 0 0)
                  have HP := Lib.hid hP
                  obtain ⟨k1, ⟨_, k2⟩, k3, ⟨_, k4⟩, k5, ⟨_, k6⟩, k7, ⟨_, k8⟩, k9, _, _⟩ := hP
                  clear cF cB
                  go_wp2
                  refine bodyPost_ret (results_refr _ rfl HP.out.h0) rfl ?_
                  exact refr_ok HE.out (by rw [← HRS.out]; rfl) (own_put HOV9.out HP.out.sp HQL3.out) (row8_nil _ _) (HQV9.out.put HP.out).sp
                | false =>
                  have HF5 : Hid (rspB st reason fs (rspW fs rest) = R) := Lib.hid (by rw [← HF2.out, if_neg (by decide)])
                  unfold FrPost at cF
                  cases hfr : frF fs with
                  | error x =>
                    have hx0 := frF_err hfr
                    rw [hfr] at cF
                    have HF7 : Hid (R = .error x) := Lib.hid (by rw [← HF5.out, rspW_fr hfr]; rfl)
                    unfold frV at cF
                    simp only at cF
                    have q1 : ((x : Int) == 0) = false := by rw [beq_eq_false_iff_ne]; omega
                    have q2 : ((x : Int) != 0) = true := by unfold bne; rw [q1]; rfl
                    have q3 : ¬ (x : Int) = 0 := by omega
                    clear hfr hx0 cB
                    go_wp2_with fail
                    refine cF.mono ?_
                    rintro _ w9 ⟨rfl, hs9⟩
                    have HQ9 := Lib.hid (HQV9.out.quiet hs9)
                    clear hs9
                    obtain ⟨u, hP⟩ := put_at HQ9.out.b0 (.int .i64 0) (.string ⟨#[]⟩) (.slice none 0 0) (.slice none 0 0)
                    have HP := Lib.hid hP
                    obtain ⟨k1, ⟨_, k2⟩, k3, ⟨_, k4⟩, k5, ⟨_, k6⟩, k7, ⟨_, k8⟩, k9, _, _⟩ := hP
                    go_wp2
                    refine bodyPost_ret (results_refr _ rfl HP.out.h0) rfl ?_
                    exact refr_error HF7.out rfl (HQ9.out.put HP.out).sp
                  | ok cnt =>
                    obtain ⟨ch, nn, told⟩ := cnt
                    rw [hfr] at cF
                    unfold frV at cF
                    simp only at cF
                    clear cB
                    go_wp2_with fail
                    refine cF.mono ?_
                    rintro _ w9 ⟨rfl, hs9⟩
                    have HBK9 := Lib.hid (hs9.heap HBV9.out (fun h => h))
                    have HQ9 := Lib.hid (HQV9.out.quiet hs9)
                    have HOW9 := Lib.hid (hs9.own HOV9.out (fun _ _ h => h))
                    have HR9 : Hid (r < w9.heap.size) := Lib.hid (Nat.lt_of_lt_of_le HRV9.out hs9.size)
                    have HBY : Hid (∀ wx, Spares nowhere w9 wx → BytesAt wx (some ⟨y, z + p, none⟩) rest) := Lib.hid (fun wx hs => by
                      rw [HDR.out]
                      exact bytesAt_drop8 ((HAT.out.spares' HQ9.out.sp (fun _ _ _ _ h => h)).spares' hs (fun _ _ _ _ h => h)) p)
                    clear hs9 cF HQV9 HOV9 HBV9 HQ8 HG8 HOW8
                    cases ch with
                    | true =>
                      have HF6 : Hid (rspB st reason fs (chunkF rest) = R) := Lib.hid (by rw [← HF5.out, rspW_fr hfr]; rfl)
                      clear hfr
                      have HCH : Hid (∀ (ga : Addr) (kx : Nat), (ga = ⟨y, z + p, none⟩ ∨ kx = 0) → kx = rl → ∀ cx, kx ≤ cx → Calls Tryz.prog 60 #[.slice (some ga) kx cx] w9 (OpenPost rest (openF fieldB rest) w9)) := Lib.hid (fun ga kx hga hkx cx hcx => by
                        subst hkx
                        rw [← HRLN.out] at hcx ⊢
                        refine refChunks_any (some ga) cx rest w9 ?_ hcx (by rw [HRLN.out]; omega) hr24
                        rcases hga with rfl | h0
                        · exact HBY.out w9 (Spares.refl _ _)
                        · rw [List.eq_nil_of_length_eq_zero (HRLN.out.trans h0)]
                          exact fun j hj => absurd hj (Nat.not_lt_zero _))
                      cases hO : openF fieldB rest with
                      | error x =>
                        have hx0 := openF_err hO
                        have HF7 : Hid (R = .error x) := Lib.hid (by rw [← HF6.out]; unfold chunkF; rw [hO]; rfl)
                        rw [hO] at HCH
                        unfold OpenPost at HCH
                        simp only at HCH
                        have q1 : ((x : Int) == 0) = false := by rw [beq_eq_false_iff_ne]; omega
                        have q2 : ((x : Int) != 0) = true := by unfold bne; rw [q1]; rfl
                        have q3 : ¬ (x : Int) = 0 := by omega
                        have t1 : (p : Int) ≤ (bl : Int) := by omega
                        have t2 : (bl : Int) ≤ (c : Int) := by omega
                        have t3 : (p : Int) ≤ (c : Int) := by omega
                        clear hO hx0
                        (rcases (show p = c ∨ p < c by omega) with hpc | hpc) <;> (try have t4 : (p : Int) < (c : Int) := by omega) <;> go_wp2_with fail
                        all_goals
                          refine (HCH.out _ _ (by first | exact .inl rfl | exact .inr rfl | exact .inr (by omega)) (by omega) _ (by omega)).mono ?_
                          rintro _ w10 ⟨rfl, hs10⟩
                          have HQ10 := Lib.hid (HQ9.out.quiet hs10)
                          clear hs10
                          obtain ⟨u, hP⟩ := put_at HQ10.out.b0 (.int .i64 0) (.string ⟨#[]⟩) (.slice none 0 0) (.slice none 0 0)
                          have HP := Lib.hid hP
                          obtain ⟨k1, ⟨_, k2⟩, k3, ⟨_, k4⟩, k5, ⟨_, k6⟩, k7, ⟨_, k8⟩, k9, _, _⟩ := hP
                          go_wp2
                          refine bodyPost_ret (results_refr _ rfl HP.out.h0) rfl ?_
                          exact refr_error HF7.out rfl (HQ10.out.put HP.out).sp
                      | ok bs =>
                        obtain ⟨body, s⟩ := bs
                        have HE : Hid (R = .ok (st, reason, fs, body)) := Lib.hid (by rw [← HF6.out]; unfold chunkF; rw [hO]; rfl)
                        rw [hO] at HCH
                        unfold OpenPost at HCH
                        simp only at HCH
                        have t1 : (p : Int) ≤ (bl : Int) := by omega
                        have t2 : (bl : Int) ≤ (c : Int) := by omega
                        have t3 : (p : Int) ≤ (c : Int) := by omega
                        clear hO
                        (rcases (show p = c ∨ p < c by omega) with hpc | hpc) <;> (try have t4 : (p : Int) < (c : Int) := by omega) <;> go_wp2_with fail
                        all_goals
                          refine (HCH.out _ _ (by first | exact .inl rfl | exact .inr rfl | exact .inr (by omega)) (by omega) _ (by omega)).mono ?_
                          rintro _ w10 ⟨⟨vb, rfl, hrow⟩, hs10⟩
                          have HBK10 := Lib.hid (hs10.heap HBK9.out (fun h => h))
                          have HQ10 := Lib.hid (HQ9.out.quiet hs10)
                          have HOW10 := Lib.hid (hs10.own HOW9.out (fun _ _ h => h))
                          have HROW10 := Lib.hid hrow
                          clear hs10 hrow
                          obtain ⟨ab, cb, hvb, _⟩ := HROW10.out.shape
                          subst hvb
                          have u3 : w10.cell? ⟨r, 3, none⟩ = some (.slice none 0 0) := (Lib.cell_of_heap HBK10.out 3).trans rfl
                          have v3 : w10.frozen? ⟨r, 3, none⟩ = false := Lib.frozen_of_heap HBK10.out 3
                          obtain ⟨w11, hw11⟩ : ∃ w11, w10.setCell ⟨r, 3, none⟩ (.slice ab body.length cb) = w11 := ⟨_, rfl⟩
                          have hsp11 : Spares (fun k => k = r) w10 w11 := by rw [← hw11]; exact Spares.setCell (F := fun k => k = r) (Spares.refl _ w10) (p := ⟨r, 3, none⟩) (.inl rfl) _
                          have hbk11 : w11.heap[r]? = some (.cells #[.int .i64 st, .string RS, .slice fa k fc, .slice ab body.length cb] 27 (0, 0)) := by rw [← hw11]; exact (set_at (i := 3) HBK10.out _).trans rfl
                          have HQ11 : Hid (QAt 27 w (.int .i64 0) (.string ⟨#[]⟩) (.slice none 0 0) (.slice none 0 0) w11) := Lib.hid ⟨hsp11.heap HQ10.out.b0 (fun e => by have := HWR.out; omega), HQ10.out.sp.trans' hsp11 (fun k hk => .inr (by have := HWR.out; omega))⟩
                          have HOW11 : Hid (w11.ownsRow w1.heap.size 59 2 (.slice fa k fc) fs.length (fieldCells fs)) := Lib.hid (own_not HOW10.out HRF.out hsp11)
                          have HROW11 : Hid (Row8 w9.heap.size w11 (.slice ab body.length cb) body) := Lib.hid (own_off HROW10.out HR9.out hsp11)
                          have j0 : w11.cell? ⟨r, 0, none⟩ = some (.int .i64 st) := (Lib.cell_of_heap hbk11 0).trans rfl
                          have j1 : w11.cell? ⟨r, 1, none⟩ = some (.string RS) := (Lib.cell_of_heap hbk11 1).trans rfl
                          have j2 : w11.cell? ⟨r, 2, none⟩ = some (.slice fa k fc) := (Lib.cell_of_heap hbk11 2).trans rfl
                          have j3 : w11.cell? ⟨r, 3, none⟩ = some (.slice ab body.length cb) := (Lib.cell_of_heap hbk11 3).trans rfl
                          obtain ⟨u, hP⟩ := put_at HQ11.out.b0 (.int .i64 st) (.string RS) (.slice fa k fc) (.slice ab body.length cb)
                          have HP := Lib.hid hP
                          obtain ⟨k1, ⟨_, k2⟩, k3, ⟨_, k4⟩, k5, ⟨_, k6⟩, k7, ⟨_, k8⟩, k9, _, _⟩ := hP
                          clear hsp11 hbk11
                          go_wp2
                          refine bodyPost_ret (results_refr _ rfl HP.out.h0) rfl ?_
                          exact refr_ok HE.out (by rw [← HRS.out]; rfl) (own_put HOW11.out HP.out.sp HQL3.out) (own_put HROW11.out HP.out.sp HQ9.out.lt) (HQ11.out.put HP.out).sp
                    | false =>
                      cases told with
                      | true =>
                        have HF6 : Hid (rspB st reason fs (if rest.length < nn then .error 92 else .ok (rest.take nn, nn)) = R) := Lib.hid (by rw [← HF5.out, rspW_fr hfr]; rfl)
                        clear hfr
                        by_cases hsh : rl < nn
                        · have HF7 : Hid (R = .error 92) := Lib.hid (by rw [← HF6.out, if_pos (by rw [HRLN.out]; exact hsh)]; rfl)
                          have d1 : (bl : Int) - (p : Int) < (nn : Int) := by omega
                          obtain ⟨u, hP⟩ := put_at HQ9.out.b0 (.int .i64 0) (.string ⟨#[]⟩) (.slice none 0 0) (.slice none 0 0)
                          have HP := Lib.hid hP
                          obtain ⟨k1, ⟨_, k2⟩, k3, ⟨_, k4⟩, k5, ⟨_, k6⟩, k7, ⟨_, k8⟩, k9, _, _⟩ := hP
                          go_wp2
                          refine bodyPost_ret (results_refr _ rfl HP.out.h0) rfl ?_
                          exact refr_error HF7.out rfl (HQ9.out.put HP.out).sp
                        · have HE : Hid (R = .ok (st, reason, fs, rest.take nn)) := Lib.hid (by rw [← HF6.out, if_neg (by rw [HRLN.out]; exact hsh)]; rfl)
                          have d1 : ¬ ((bl : Int) - (p : Int) < (nn : Int)) := by omega
                          have HTL : Hid ((rest.take nn).length = nn) := Lib.hid (by rw [List.length_take, HRLN.out]; omega)
                          have HTK : Hid (∀ ga : Addr, (ga = ⟨y, z + p, none⟩ ∨ rl = 0) → BytesAt w9 (some ga) (rest.take nn)) := Lib.hid (fun ga hga => by
                            rcases hga with rfl | h0
                            · exact bytesAt_take8 (HBY.out w9 (Spares.refl _ _)) nn
                            · rw [List.eq_nil_of_length_eq_zero (HRLN.out.trans h0), List.take_nil]
                              exact fun j hj => absurd hj (Nat.not_lt_zero _))
                          have t1 : (p : Int) ≤ (p : Int) + (nn : Int) := by omega
                          have t2 : (p : Int) + (nn : Int) ≤ (c : Int) := by omega
                          have t3 : (p : Int) ≤ (c : Int) := by omega
                          have hn1000 : nn ≤ 60000 := by omega
                          obtain ⟨body, hbody⟩ : ∃ body, rest.take nn = body := ⟨_, rfl⟩
                          rw [hbody] at HE HTL HTK
                          clear hbody
                          (rcases (show p = c ∨ p < c by omega) with hpc | hpc) <;> (try have t4 : (p : Int) < (c : Int) := by omega)
                          all_goals
                            go_wp2_with (first
                              | (with_reducible show wpList _ _ _ (⟨some 165, _, _, _, _, _⟩ :: _) _ _
                                 refine wpList_row_bytes rfl _ _ rfl w9.heap.size _ [] rfl (row8_nil _ _) (some _) _ _ body rfl (by have := HTL.out; omega) (HTK.out _ (by first | exact .inl rfl | exact .inr (by omega))) (fun e => by cases e) (by simp; omega) (Nat.le_refl _) ?_
                                 intro vb w10 hrow hs10
                                 have hs10' : Spares nowhere w9 w10 := atLeast_none hs10 (Nat.le_refl _) (Spares.refl _ _)
                                 have HBK10 := Lib.hid (hs10'.heap HBK9.out (fun h => h))
                                 have HQ10 := Lib.hid (HQ9.out.quiet hs10')
                                 have HOW10 := Lib.hid (hs10'.own HOW9.out (fun _ _ h => h))
                                 have HROW10 : Hid (Row8 w9.heap.size w10 vb body) := Lib.hid hrow
                                 clear hs10 hs10' hrow
                                 obtain ⟨ab, cb, hvb, _⟩ := HROW10.out.shape
                                 subst hvb
                                 have u3 : w10.cell? ⟨r, 3, none⟩ = some (.slice none 0 0) := (Lib.cell_of_heap HBK10.out 3).trans rfl
                                 have v3 : w10.frozen? ⟨r, 3, none⟩ = false := Lib.frozen_of_heap HBK10.out 3
                                 obtain ⟨w11, hw11⟩ : ∃ w11, w10.setCell ⟨r, 3, none⟩ (.slice ab body.length cb) = w11 := ⟨_, rfl⟩
                                 have hsp11 : Spares (fun k => k = r) w10 w11 := by rw [← hw11]; exact Spares.setCell (F := fun k => k = r) (Spares.refl _ w10) (p := ⟨r, 3, none⟩) (.inl rfl) _
                                 have hbk11 : w11.heap[r]? = some (.cells #[.int .i64 st, .string RS, .slice fa k fc, .slice ab body.length cb] 27 (0, 0)) := by rw [← hw11]; exact (set_at (i := 3) HBK10.out _).trans rfl
                                 have HQ11 : Hid (QAt 27 w (.int .i64 0) (.string ⟨#[]⟩) (.slice none 0 0) (.slice none 0 0) w11) := Lib.hid ⟨hsp11.heap HQ10.out.b0 (fun e => by have := HWR.out; omega), HQ10.out.sp.trans' hsp11 (fun k hk => .inr (by have := HWR.out; omega))⟩
                                 have HOW11 : Hid (w11.ownsRow w1.heap.size 59 2 (.slice fa k fc) fs.length (fieldCells fs)) := Lib.hid (own_not HOW10.out HRF.out hsp11)
                                 have HROW11 : Hid (Row8 w9.heap.size w11 (.slice ab body.length cb) body) := Lib.hid (own_off HROW10.out HR9.out hsp11)
                                 have j0 : w11.cell? ⟨r, 0, none⟩ = some (.int .i64 st) := (Lib.cell_of_heap hbk11 0).trans rfl
                                 have j1 : w11.cell? ⟨r, 1, none⟩ = some (.string RS) := (Lib.cell_of_heap hbk11 1).trans rfl
                                 have j2 : w11.cell? ⟨r, 2, none⟩ = some (.slice fa k fc) := (Lib.cell_of_heap hbk11 2).trans rfl
                                 have j3 : w11.cell? ⟨r, 3, none⟩ = some (.slice ab body.length cb) := (Lib.cell_of_heap hbk11 3).trans rfl
                                 obtain ⟨u, hP⟩ := put_at HQ11.out.b0 (.int .i64 st) (.string RS) (.slice fa k fc) (.slice ab body.length cb)
                                 have HP := Lib.hid hP
                                 obtain ⟨k1, ⟨_, k2⟩, k3, ⟨_, k4⟩, k5, ⟨_, k6⟩, k7, ⟨_, k8⟩, k9, _, _⟩ := hP
                                 clear hsp11 hbk11)
                              | fail)
                            refine bodyPost_ret (results_refr _ rfl HP.out.h0) rfl ?_
                            exact refr_ok HE.out (by rw [← HRS.out]; rfl) (own_put HOW11.out HP.out.sp HQL3.out) (own_put HROW11.out HP.out.sp HQ9.out.lt) (HQ11.out.put HP.out).sp
                      | false =>
                        have HE : Hid (R = .ok (st, reason, fs, rest)) := Lib.hid (by rw [← HF5.out, rspW_fr hfr]; show rspB st reason fs (if 65536 < rest.length then .error 93 else .ok (rest, rest.length)) = _; rw [if_neg (by rw [HRLN.out]; omega)]; rfl)
                        clear hfr
                        have d1 : ¬ ((65536 : Int) < (bl : Int) - (p : Int)) := by omega
                        have HTL : Hid (rest.length = rl) := HRLN
                        have HTK : Hid (∀ ga : Addr, (ga = ⟨y, z + p, none⟩ ∨ rl = 0) → BytesAt w9 (some ga) rest) := Lib.hid (fun ga hga => by
                          rcases hga with rfl | h0
                          · exact HBY.out w9 (Spares.refl _ _)
                          · rw [List.eq_nil_of_length_eq_zero (HRLN.out.trans h0)]
                            exact fun j hj => absurd hj (Nat.not_lt_zero _))
                        have t1 : (p : Int) ≤ (bl : Int) := by omega
                        have t2 : (bl : Int) ≤ (c : Int) := by omega
                        have t3 : (p : Int) ≤ (c : Int) := by omega
                        obtain ⟨body, hbody⟩ : ∃ body, rest = body := ⟨_, rfl⟩
                        rw [hbody] at HE HTL HTK
                        clear hbody
                        rcases (show p = c ∨ p < c by omega) with hpc | hpc
                        · have hr0 : body = [] := List.eq_nil_of_length_eq_zero (by have := HTL.out; omega)
                          have HROW10 : Hid (Row8 w9.heap.size w9 (.slice none 0 0) body) := Lib.hid (by rw [hr0]; exact row8_nil _ _)
                          clear hr0
                          have u3 : w9.cell? ⟨r, 3, none⟩ = some (.slice none 0 0) := (Lib.cell_of_heap HBK9.out 3).trans rfl
                          have v3 : w9.frozen? ⟨r, 3, none⟩ = false := Lib.frozen_of_heap HBK9.out 3
                          obtain ⟨w11, hw11⟩ : ∃ w11, w9.setCell ⟨r, 3, none⟩ (.slice none 0 0) = w11 := ⟨_, rfl⟩
                          have hsp11 : Spares (fun k => k = r) w9 w11 := by rw [← hw11]; exact Spares.setCell (F := fun k => k = r) (Spares.refl _ w9) (p := ⟨r, 3, none⟩) (.inl rfl) _
                          have hbk11 : w11.heap[r]? = some (.cells #[.int .i64 st, .string RS, .slice fa k fc, .slice none 0 0] 27 (0, 0)) := by rw [← hw11]; exact (set_at (i := 3) HBK9.out _).trans rfl
                          have HQ11 : Hid (QAt 27 w (.int .i64 0) (.string ⟨#[]⟩) (.slice none 0 0) (.slice none 0 0) w11) := Lib.hid ⟨hsp11.heap HQ9.out.b0 (fun e => by have := HWR.out; omega), HQ9.out.sp.trans' hsp11 (fun k hk => .inr (by have := HWR.out; omega))⟩
                          have HOW11 : Hid (w11.ownsRow w1.heap.size 59 2 (.slice fa k fc) fs.length (fieldCells fs)) := Lib.hid (own_not HOW9.out HRF.out hsp11)
                          have HROW11 : Hid (Row8 w9.heap.size w11 (.slice none 0 0) body) := Lib.hid (own_off HROW10.out HR9.out hsp11)
                          have j0 : w11.cell? ⟨r, 0, none⟩ = some (.int .i64 st) := (Lib.cell_of_heap hbk11 0).trans rfl
                          have j1 : w11.cell? ⟨r, 1, none⟩ = some (.string RS) := (Lib.cell_of_heap hbk11 1).trans rfl
                          have j2 : w11.cell? ⟨r, 2, none⟩ = some (.slice fa k fc) := (Lib.cell_of_heap hbk11 2).trans rfl
                          have j3 : w11.cell? ⟨r, 3, none⟩ = some (.slice none 0 0) := (Lib.cell_of_heap hbk11 3).trans rfl
                          obtain ⟨u, hP⟩ := put_at HQ11.out.b0 (.int .i64 st) (.string RS) (.slice fa k fc) (.slice none 0 0)
                          have HP := Lib.hid hP
                          obtain ⟨k1, ⟨_, k2⟩, k3, ⟨_, k4⟩, k5, ⟨_, k6⟩, k7, ⟨_, k8⟩, k9, _, _⟩ := hP
                          clear hsp11 hbk11
                          go_wp2
                          refine bodyPost_ret (results_refr _ rfl HP.out.h0) rfl ?_
                          exact refr_ok HE.out (by rw [← HRS.out]; rfl) (own_put HOW11.out HP.out.sp HQL3.out) (own_put HROW11.out HP.out.sp HQ9.out.lt) (HQ11.out.put HP.out).sp
                        · have t4 : (p : Int) < (c : Int) := by omega
                          go_wp2_with (first
                            | (with_reducible show wpList _ _ _ (⟨some 127, _, _, _, _, _⟩ :: _) _ _
                               refine wpList_row_bytes rfl _ _ rfl w9.heap.size _ [] rfl (row8_nil _ _) (some _) _ _ body rfl (by have := HTL.out; omega) (HTK.out _ (by first | exact .inl rfl | exact .inr (by omega))) (fun e => by cases e) (by simp; omega) (Nat.le_refl _) ?_
                               intro vb w10 hrow hs10
                               have hs10' : Spares nowhere w9 w10 := atLeast_none hs10 (Nat.le_refl _) (Spares.refl _ _)
                               have HBK10 := Lib.hid (hs10'.heap HBK9.out (fun h => h))
                               have HQ10 := Lib.hid (HQ9.out.quiet hs10')
                               have HOW10 := Lib.hid (hs10'.own HOW9.out (fun _ _ h => h))
                               have HROW10 : Hid (Row8 w9.heap.size w10 vb body) := Lib.hid hrow
                               clear hs10 hs10' hrow
                               obtain ⟨ab, cb, hvb, _⟩ := HROW10.out.shape
                               subst hvb
                               have u3 : w10.cell? ⟨r, 3, none⟩ = some (.slice none 0 0) := (Lib.cell_of_heap HBK10.out 3).trans rfl
                               have v3 : w10.frozen? ⟨r, 3, none⟩ = false := Lib.frozen_of_heap HBK10.out 3
                               obtain ⟨w11, hw11⟩ : ∃ w11, w10.setCell ⟨r, 3, none⟩ (.slice ab body.length cb) = w11 := ⟨_, rfl⟩
                               have hsp11 : Spares (fun k => k = r) w10 w11 := by rw [← hw11]; exact Spares.setCell (F := fun k => k = r) (Spares.refl _ w10) (p := ⟨r, 3, none⟩) (.inl rfl) _
                               have hbk11 : w11.heap[r]? = some (.cells #[.int .i64 st, .string RS, .slice fa k fc, .slice ab body.length cb] 27 (0, 0)) := by rw [← hw11]; exact (set_at (i := 3) HBK10.out _).trans rfl
                               have HQ11 : Hid (QAt 27 w (.int .i64 0) (.string ⟨#[]⟩) (.slice none 0 0) (.slice none 0 0) w11) := Lib.hid ⟨hsp11.heap HQ10.out.b0 (fun e => by have := HWR.out; omega), HQ10.out.sp.trans' hsp11 (fun k hk => .inr (by have := HWR.out; omega))⟩
                               have HOW11 : Hid (w11.ownsRow w1.heap.size 59 2 (.slice fa k fc) fs.length (fieldCells fs)) := Lib.hid (own_not HOW10.out HRF.out hsp11)
                               have HROW11 : Hid (Row8 w9.heap.size w11 (.slice ab body.length cb) body) := Lib.hid (own_off HROW10.out HR9.out hsp11)
                               have j0 : w11.cell? ⟨r, 0, none⟩ = some (.int .i64 st) := (Lib.cell_of_heap hbk11 0).trans rfl
                               have j1 : w11.cell? ⟨r, 1, none⟩ = some (.string RS) := (Lib.cell_of_heap hbk11 1).trans rfl
                               have j2 : w11.cell? ⟨r, 2, none⟩ = some (.slice fa k fc) := (Lib.cell_of_heap hbk11 2).trans rfl
                               have j3 : w11.cell? ⟨r, 3, none⟩ = some (.slice ab body.length cb) := (Lib.cell_of_heap hbk11 3).trans rfl
                               obtain ⟨u, hP⟩ := put_at HQ11.out.b0 (.int .i64 st) (.string RS) (.slice fa k fc) (.slice ab body.length cb)
                               have HP := Lib.hid hP
                               obtain ⟨k1, ⟨_, k2⟩, k3, ⟨_, k4⟩, k5, ⟨_, k6⟩, k7, ⟨_, k8⟩, k9, _, _⟩ := hP
                               clear hsp11 hbk11)
                            | fail)
                          refine bodyPost_ret (results_refr _ rfl HP.out.h0) rfl ?_
                          exact refr_ok HE.out (by rw [← HRS.out]; rfl) (own_put HOW11.out HP.out.sp HQL3.out) (own_put HROW11.out HP.out.sp HQ9.out.lt) (HQ11.out.put HP.out).sp
end Go.Proofs.YtjpmofnnjdhamaaGreatDoor
namespace Go.Proofs.YtjpmofnnjdhamaaGreatDoor
open Go.RowKit HeadMath NormMath NormS HeadS ChunkMath HttpMath

theorem refResponse_any (b : Bs) (method : ByteArray) (a : Option Addr) (c : Nat) (w : World) (hat : BytesAt w a b) (hcap : b.length ≤ c) (hz : b.length ≤ 1000000) (hsh : ∀ ls rest, headF b = .ok (ls, rest) → FitL rest) :
    Calls Tryz.prog 26 #[.slice a b.length c, .string method] w (RspPost (responseF b method) w) := by
  cases hH : headF b with
  | error x => exact refRsp_head b method a c w hat hcap hz x hH
  | ok lr =>
    obtain ⟨ls, rest⟩ := lr
    have hr := hsh ls rest hH
    cases ls with
    | nil => exact absurd rfl (cuts_lines hH).1
    | cons l0 ls =>
      by_cases h1 : l0.length < 12
      · exact refRsp_bad b method a c w hat hcap hz l0 rest ls hH (.inl h1)
      · cases h2 : (l0.take 9 == http11 ++ [32]) with
        | false => exact refRsp_bad b method a c w hat hcap hz l0 rest ls hH (.inr (.inl h2))
        | true =>
          by_cases h3 : l0.length = 12
          · exact refRsp_short b method a c w hat hcap hz l0 rest ls hH hr ⟨by omega, h2, h3⟩
          · by_cases h4 : l0[12]? = some 32
            · exact refRsp_long b method a c w hat hcap hz l0 rest ls hH hr ⟨by omega, h2, h4⟩
            · exact refRsp_bad b method a c w hat hcap hz l0 rest ls hH (.inr (.inr ⟨by omega, h4⟩))
end Go.Proofs.YtjpmofnnjdhamaaGreatDoor
