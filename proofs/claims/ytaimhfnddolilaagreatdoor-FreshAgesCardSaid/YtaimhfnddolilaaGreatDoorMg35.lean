/-
  What may be kept of the laws' own requests and responses.
  Which methods are safe; the reference's statuses; a request that may be asked.
  For how many seconds a response is fresh.
  The law's own example.
  Whether a response may be told.
  What the six texts of FreshStale say, and what comes of them.
  The law's own example.
  Fields of numbers and dates: what FreshFirst, FreshHeuristic and FreshAges lay, and what comes of it.
  The law's own numerals.
  What was asked for with Authorization: the law's walk.
  Each of the words that forbid does so, wherever it stands: the law's walk.
  A message under way: a block of four cells, the third a row of fields of the call's own, that grows.
  Addresses' keys: the law's walk.
  A response in its box whose fields grow: a row of the call's own, wherever it lies but for the box itself.
  Which of what is said counts ahead of the others: the law's walk.
  A response grows older second by second: the law's walk.
  For how many seconds a response is fresh, in the reference.
  Whether a response may be told, in the reference.
-/
import Derived.Deep.WholeRow
import Derived.Deep.RegionHeld3
import Derived.Deep.MidRow
import Derived.Laws.AppendOwnNone
import Derived.Laws.OwnMore
import Derived.Deep.CutBlock
import Derived.Deep.DeepCutAuto
import Derived.Deep.AppendLies
import Derived.Test.YtaimhfnddolilaaGreatDoorMg5
import Derived.Test.YtaimhfnddolilaaGreatDoorMg7
import Derived.Test.YtaimhfnddolilaaGreatDoorMg13
import Derived.Test.YtaimhfnddolilaaGreatDoorMg16
import Derived.Test.YtaimhfnddolilaaGreatDoorMg17
import Derived.Test.YtaimhfnddolilaaGreatDoorMg22
import Derived.Test.YtaimhfnddolilaaGreatDoorMg26
import Derived.Test.YtaimhfnddolilaaGreatDoorMg29
import Derived.Test.YtaimhfnddolilaaGreatDoorMg30
import Derived.Test.YtaimhfnddolilaaGreatDoorMg32
import Derived.Test.YtaimhfnddolilaaGreatDoorMg33
import Derived.Test.YtaimhfnddolilaaGreatDoorMg34
namespace Go.Proofs.YtaimhfnddolilaaGreatDoor
open Go.RowKit HeadMath HeadS CtrlS VaryS

def starB : ByteArray := ⟨#[42]⟩
def varyW : ByteArray := ⟨#[86, 97, 114, 121]⟩
def wordF : Nat → ByteArray × ByteArray
  | 0 => (ccN, vNoStore) | 1 => (ccN, vPrivate) | 2 => (varyW, starB) | _ => (ccL, vMaxAge9NoStore)
end Go.Proofs.YtaimhfnddolilaaGreatDoor
namespace Go.Proofs.YtaimhfnddolilaaGreatDoor
open Go.RowKit HeadMath HeadS CtrlS VaryS

def heurL : List Int := [200, 203, 204, 300, 301, 308, 404, 405, 410, 414, 501]
theorem heur_list (n : Int) : heurF n = heurL.any (· == n) := by
  unfold heurF heurL
  simp only [List.any_cons, List.any_nil, Bool.or_false, Bool.or_assoc]
  simp only [Bool.beq_comm (a := n)]
theorem heur_yes {n : Int} {k : Nat} (hk : k < heurL.length) (h : heurL[k] = n) : heurF n = true := by
  rw [heur_list]
  exact List.any_eq_true.2 ⟨heurL[k], List.getElem_mem hk, by rw [h]; exact beq_self_eq_true n⟩
theorem heur_no {n : Int} (h : ∀ j (hj : j < heurL.length), heurL[j] ≠ n) : heurF n = false := by
  rw [heur_list, List.any_eq_false]
  intro x hx
  obtain ⟨j, hj, rfl⟩ := List.getElem_of_mem hx
  simpa using h j hj
set_option maxRecDepth 100000 in
set_option maxHeartbeats 4000000 in
theorem refHeur_any (n : Int) (w : World) : Calls Tryz.prog 18 #[.int .i64 n] w fun e w' => e = .returned (.bool (heurF n)) ∧ Below w.heap.size w w' := by
  obtain ⟨v, hv⟩ : ∃ v, w.alloc (.cells #[.int .i64 200, .int .i64 203, .int .i64 204, .int .i64 300, .int .i64 301, .int .i64 308, .int .i64 404, .int .i64 405, .int .i64 410, .int .i64 414, .int .i64 501] 3) = v := ⟨_, rfl⟩
  have hb : Below w.heap.size w v := by rw [← hv]; exact (Below.refl _ _).alloc (Nat.le_refl _) _
  have hc : ∀ k (h : k < heurL.length), v.cell? ⟨w.heap.size, k, none⟩ = some (.int .i64 heurL[k]) := by
    intro k hk
    have hg : v.heap[w.heap.size]? = some (.cells #[.int .i64 200, .int .i64 203, .int .i64 204, .int .i64 300, .int .i64 301, .int .i64 308, .int .i64 404, .int .i64 405, .int .i64 410, .int .i64 414, .int .i64 501] 3 (0, 0)) := by rw [← hv]; exact heap_alloc_new w _
    rw [Lib.cell_of_heap hg]
    have hk2 : k < 11 := hk
    match k, hk2 with
    | 0, _ | 1, _ | 2, _ | 3, _ | 4, _ | 5, _ | 6, _ | 7, _ | 8, _ | 9, _ | 10, _ => rfl
  have HC := Lib.hid hc
  have HB := Lib.hid hb
  have HV := Lib.hid hv
  clear hc hb hv
  go_enter Tryz.func18, Tryz.ntmps18
  go_upto_region 2 with (fail)
  change Code.wp _ _ _ _ (w.alloc (.cells #[.int .i64 200, .int .i64 203, .int .i64 204, .int .i64 300, .int .i64 301, .int .i64 308, .int .i64 404, .int .i64 405, .int .i64 410, .int .i64 414, .int .i64 501] 3))
  rw [HV.out]
  go_wp2_with fail
  go_loop [4] (fun i => ∃ k : Nat, k ≤ 11 ∧ i = .int .i64 k ∧ Hid (∀ j (h : j < heurL.length), j < k → heurL[j] ≠ n)) (fun i => 11 - (intOf i).toNat)
  case atStart => exact ⟨0, by omega, rfl, Lib.hid (fun j _ h => by omega)⟩
  case round =>
    obtain ⟨k, hk, rfl, HN⟩ := hrel
    by_cases hlt : k < 11
    · have hk2 : k < heurL.length := hlt
      have hc := HC.out k hk2
      obtain ⟨x, hx⟩ : ∃ x, heurL[k] = x := ⟨_, rfl⟩
      rw [hx] at hc
      have HX := Lib.hid hx
      have j1 : (k : Int) < 11 := by omega
      clear hx
      by_cases he : x = n
      · have HY := Lib.hid (heur_yes hk2 (HX.out.trans he))
        have e1 : (x == n) = true := by simp [he]
        have HE := Lib.hid he
        clear he
        go_wp2
        go_ret
        exact ⟨by rw [HY.out]; rfl, HB.out⟩
      · have HE := Lib.hid he
        have e1 : (x == n) = false := by simp [he]
        clear he
        go_wp2
        go_round
        case rel =>
          refine ⟨k + 1, by omega, by go_num, Lib.hid (fun j hj h => ?_)⟩
          rcases Nat.lt_or_ge j k with h2 | h2
          · exact HN.out j hj h2
          · obtain rfl : j = k := by omega
            rw [HX.out]
            exact HE.out
        case measure => simp [intOf]; omega
    · obtain rfl : k = 11 := by omega
      have HF := Lib.hid (heur_no (n := n) (fun j hj => HN.out j hj hj))
      clear hlt hk
      go_wp2
      go_ret
      exact ⟨by rw [HF.out]; rfl, HB.out⟩
end Go.Proofs.YtaimhfnddolilaaGreatDoor
namespace Go.Proofs.YtaimhfnddolilaaGreatDoor
open Go.RowKit HeadMath HeadS CtrlS DateMath

theorem ctl_new (w : World) (t : Ctl) : CtlAt ((w.alloc (.cells #[.bool false, .bool false, .bool false, .bool false, .bool false, .bool false, .bool false, .bool false, .int .i64 0, .int .i64 0, .int .i64 0, .int .i64 0] 29)).setCells w.heap.size 0 [.bool t.noStore, .bool t.noCache, .bool t.priv, .bool t.pub, .bool t.must, .bool t.prox, .bool t.only, .bool t.anyStale, .int .i64 t.maxA, .int .i64 t.sMax, .int .i64 t.minF, .int .i64 t.maxS]) w.heap.size t ∧
    Below w.heap.size w ((w.alloc (.cells #[.bool false, .bool false, .bool false, .bool false, .bool false, .bool false, .bool false, .bool false, .int .i64 0, .int .i64 0, .int .i64 0, .int .i64 0] 29)).setCells w.heap.size 0 [.bool t.noStore, .bool t.noCache, .bool t.priv, .bool t.pub, .bool t.must, .bool t.prox, .bool t.only, .bool t.anyStale, .int .i64 t.maxA, .int .i64 t.sMax, .int .i64 t.minF, .int .i64 t.maxS]) ∧
    (w.alloc (.cells #[.bool false, .bool false, .bool false, .bool false, .bool false, .bool false, .bool false, .bool false, .int .i64 0, .int .i64 0, .int .i64 0, .int .i64 0] 29)).there w.heap.size 0 12 := by
  have h := ctl_stored (v := w.alloc (.cells #[.bool false, .bool false, .bool false, .bool false, .bool false, .bool false, .bool false, .bool false, .int .i64 0, .int .i64 0, .int .i64 0, .int .i64 0] 29)) (g := w.heap.size) t (cs := [.bool false, .bool false, .bool false, .bool false, .bool false, .bool false, .bool false, .bool false, .int .i64 0, .int .i64 0, .int .i64 0, .int .i64 0]) rfl (heap_alloc_new w _)
  exact ⟨h.2, below_set ((Below.refl _ _).alloc (Nat.le_refl _) _) _, h.1⟩
theorem tdiv_max (a : Int) : (max a 0).tdiv 10 = max (a.tdiv 10) 0 := by
  by_cases h : 0 ≤ a
  · rw [show max a 0 = a by omega]
    have : 0 ≤ a.tdiv 10 := Int.tdiv_nonneg h (by decide)
    omega
  · have h1 : a.tdiv 10 = -((-a).tdiv 10) := by rw [Int.neg_tdiv, Int.neg_neg]
    have h2 : 0 ≤ (-a).tdiv 10 := Int.tdiv_nonneg (by omega) (by decide)
    rw [show max a 0 = 0 by omega]
    have h3 : (0 : Int).tdiv 10 = 0 := by decide
    omega
theorem tdiv_bd {a : Int} (h : -1000000000000 ≤ a) (h' : a ≤ 1000000000000) : IntKind.i64.wrap (a.tdiv 10) = a.tdiv 10 := by
  have h1 : -1000000000000 ≤ a.tdiv 10 ∧ a.tdiv 10 ≤ 1000000000000 := by
    by_cases h0 : 0 ≤ a
    · rw [Int.tdiv_eq_ediv_of_nonneg h0]; omega
    · have h1 : a.tdiv 10 = -((-a).tdiv 10) := by rw [Int.neg_tdiv, Int.neg_neg]
      rw [h1, Int.tdiv_eq_ediv_of_nonneg (by omega)]; omega
  rw [IntKind.wrap_i64]
  omega
set_option maxRecDepth 100000 in
set_option maxHeartbeats 8000000 in
theorem lifeIn_any (fs : Flf) (st : Int) (rs : ByteArray) (fa ba : Option Addr) (fc bn bc : Nat) (w : World) (h1 : TabP w) (h2 : TabS w) (hin : FieldsIn w.heap.size w fa fs) (hf : FewF fs) :
    Calls Tryz.prog 23 #[.agg #[.int .i64 st, .string rs, .slice fa fs.length fc, .slice ba bn bc]] w (NumPost (lifeIn st fs) w) := by
  obtain ⟨v, hv⟩ : ∃ v, w.alloc (.cells #[.int .i64 st, .string rs, .slice fa fs.length fc, .slice ba bn bc] 25) = v := ⟨_, rfl⟩
  have hb : Below w.heap.size w v := by rw [← hv]; exact (Below.refl _ _).alloc (Nat.le_refl _) _
  have hsz : v.heap.size = w.heap.size + 1 := by rw [← hv]; simp
  have c0 : v.cell? ⟨w.heap.size, 0, none⟩ = some (.int .i64 st) := by rw [← hv]; simp [go_sem]
  have c2 : v.cell? ⟨w.heap.size, 2, none⟩ = some (.slice fa fs.length fc) := by rw [← hv]; simp [go_sem]
  have hin1 : FieldsIn v.heap.size v fa fs := kin_in (w := w) ⟨v, hb⟩ hin
  have HC : Hid (∀ y, Below v.heap.size v y → y.cell? ⟨w.heap.size, 0, none⟩ = some (.int .i64 st) ∧ y.cell? ⟨w.heap.size, 2, none⟩ = some (.slice fa fs.length fc)) := Lib.hid (fun y hy => ⟨(hy.cell (p := ⟨w.heap.size, 0, none⟩) (by show w.heap.size < v.heap.size; omega)).trans c0, (hy.cell (p := ⟨w.heap.size, 2, none⟩) (by show w.heap.size < v.heap.size; omega)).trans c2⟩)
  have cP := parse_any fs fa fc v hin1 hf
  unfold CtrlS.ParsePost at cP
  have hvs : Spares nowhere w v := Below.spares hb (fun k hk => .inr hk)
  have p1 : TabP v := h1.spares hvs (fun h => h)
  have p2 : TabS v := h2.spares hvs (fun h => h)
  have cD : ∀ n : ByteArray, n.size ≤ 1000 → ∀ x, Below v.heap.size v x → Calls Tryz.prog 28 #[.slice fa fs.length fc, .string n] x (DatePost n fs x) := fun n hn x hx => dateOf_any fs n fa fc x (p1.up hx) (p2.up hx) (kin_in (w := v) ⟨x, hx⟩ hin1) hf hn
  have cG := fun x (hx : Below v.heap.size v x) => get_any fs expN fa fc x (kin_in (w := v) ⟨x, hx⟩ hin1) hf.small (by have := hf.1; omega) (by decide)
  unfold GetPost at cG
  have cD1 := cD dateN (by decide)
  have cD2 := cD expN (by decide)
  have cD3 := cD lastN (by decide)
  unfold DatePost at cD1 cD2 cD3
  have hu : ∀ v : World, Calls Tryz.prog 17 #[.int .i64 st] v fun e w' => e = .returned (.bool (heurF st)) ∧ Below v.heap.size v w' := fun v => (heur_any st v).mono fun e w' ⟨h, h'⟩ => ⟨h, by rw [h']; exact Below.refl _ _⟩
  have hbd := dateF_bd dateN fs
  have hbe := dateF_bd expN fs
  have hbm := dateF_bd lastN fs
  have hok := parse_ok fs
  have hR0 : lifeIn st fs = if 0 ≤ (parseF fs).sMax then (parseF fs).sMax else if 0 ≤ (parseF fs).maxA then (parseF fs).maxA
  else if (getF expN fs).isSome then (if (dateF expN fs).2 && (dateF dateN fs).2 then max ((dateF expN fs).1 - (dateF dateN fs).1) 0 else 0)
  else if (dateF lastN fs).2 && (dateF dateN fs).2 && (heurF st || (parseF fs).pub) then min (max (((dateF dateN fs).1 - (dateF lastN fs).1).tdiv 10) 0) 86400 else 0 := rfl
  obtain ⟨c, hc⟩ : ∃ c, parseF fs = c := ⟨_, rfl⟩
  obtain ⟨g, hg⟩ : ∃ g, getF expN fs = g := ⟨_, rfl⟩
  obtain ⟨D, hD⟩ : ∃ D, (dateF dateN fs).1 = D := ⟨_, rfl⟩
  obtain ⟨G, hG⟩ : ∃ G, (dateF dateN fs).2 = G := ⟨_, rfl⟩
  obtain ⟨E, hE⟩ : ∃ D, (dateF expN fs).1 = D := ⟨_, rfl⟩
  obtain ⟨H, hH⟩ : ∃ G, (dateF expN fs).2 = G := ⟨_, rfl⟩
  obtain ⟨M, hM⟩ : ∃ D, (dateF lastN fs).1 = D := ⟨_, rfl⟩
  obtain ⟨L, hL⟩ : ∃ G, (dateF lastN fs).2 = G := ⟨_, rfl⟩
  obtain ⟨u, hu0⟩ : ∃ u, heurF st = u := ⟨_, rfl⟩
  obtain ⟨R, hR⟩ : ∃ R, lifeIn st fs = R := ⟨_, rfl⟩
  rw [hc, hg, hD, hG, hE, hH, hM, hL, hu0, hR] at hR0
  rw [hR]
  rw [hD] at hbd
  rw [hE] at hbe
  rw [hM] at hbm
  rw [hc] at cP hok
  rw [hg] at cG
  rw [hD, hG] at cD1
  rw [hE, hH] at cD2
  rw [hM, hL] at cD3
  rw [hu0] at hu
  unfold dateN at cD1
  unfold expN at cD2 cG
  unfold lastN at cD3
  obtain ⟨b0, b1, b2, b3, b4, b5, b6, b7, z8, z9, z10, z11⟩ := c
  simp only at hR0
  unfold Ctl.ok maxAge at hok
  simp only at hok
  unfold ctlV at cP
  simp only at cP
  obtain ⟨⟨_, k1⟩, ⟨_, k2⟩, _, _⟩ := hok
  have CP := Lib.hid cP
  have CG := Lib.hid cG
  have CD1 := Lib.hid cD1
  have CD2 := Lib.hid cD2
  have CD3 := Lib.hid cD3
  have HU := Lib.hid hu
  have HR := Lib.hid hR0
  have HV := Lib.hid hv
  have HB := Lib.hid hb
  have q1 : IntKind.i64.wrap (E - D) = E - D := by rw [IntKind.wrap_i64]; omega
  have q2 : IntKind.i64.wrap (D - M) = D - M := by rw [IntKind.wrap_i64]; omega
  have q3 : IntKind.i64.wrap ((D - M).tdiv 10) = (D - M).tdiv 10 := tdiv_bd (by omega) (by omega)
  have q4 : IntKind.i64.wrap ((max (D - M) 0).tdiv 10) = (max (D - M) 0).tdiv 10 := tdiv_bd (by omega) (by omega)
  have HQ := Lib.hid (And.intro q1 (And.intro q2 (And.intro q3 q4)))
  have HBD := Lib.hid (And.intro hbd (And.intro hbe (And.intro hbm (And.intro k1 k2))))
  obtain ⟨fl, hfl⟩ : ∃ n, fs.length = n := ⟨_, rfl⟩
  rw [hfl] at CP CD1 CD2 CD3 CG HC HV ⊢
  unfold NumPost
  clear cP cD cD1 cD2 cD3 cG hin hin1 hf hb hv h1 h2 p1 p2 hvs hR hR0 hc hg hD hG hE hH hM hL hu hu0 hfl c0 c2 q1 q2 q3 q4 hbd hbe hbm k1 k2
  go_enter Tryz.func23, Tryz.ntmps23
  go_wp2_with fail
  change Calls _ _ _ (w.alloc (.cells #[.int .i64 st, .string rs, .slice fa fl fc, .slice ba bn bc] 25)) _
  rw [HV.out]
  refine CP.out.mono ?_
  rintro e w2 ⟨rfl, hb2⟩
  obtain ⟨x, hx⟩ : ∃ x, (w2.alloc (.cells #[.bool false, .bool false, .bool false, .bool false, .bool false, .bool false, .bool false, .bool false, .int .i64 0, .int .i64 0, .int .i64 0, .int .i64 0] 29)).setCells w2.heap.size 0 [.bool b0, .bool b1, .bool b2, .bool b3, .bool b4, .bool b5, .bool b6, .bool b7, .int .i64 z8, .int .i64 z9, .int .i64 z10, .int .i64 z11] = x := ⟨_, rfl⟩
  have hn := ctl_new w2 ⟨b0, b1, b2, b3, b4, b5, b6, b7, z8, z9, z10, z11⟩
  simp only at hn
  have HT := Lib.hid hn.2.2
  have HBX := Lib.hid (show Below v.heap.size v x by rw [← hx]; exact hb2.trans (hn.2.1.mono hb2.size))
  have HCT : Hid (∀ y, Below x.heap.size x y → CtlAt y w2.heap.size ⟨b0, b1, b2, b3, b4, b5, b6, b7, z8, z9, z10, z11⟩) := Lib.hid (fun y hy => by
    have h := hn.1
    rw [hx] at h
    exact (hy.block _ (Array.getElem?_eq_some_iff.1 h).1).trans h)
  obtain ⟨n0, n1, n2, n3, n4, n5, n6, n7, n8, n9, n10, n11⟩ := ctl_reads (hn.1)
  simp only at n8 n9
  have HX := Lib.hid hx
  have HBE := Lib.hid (HB.out.trans (HBX.out.mono HB.out.size))
  clear hb2 hn n0 n1 n2 n3 n4 n5 n6 n7 n10 n11 hx
  have SX : ∀ y, Below x.heap.size x y → Below w.heap.size w y := fun y hy => HBE.out.trans (hy.mono HBE.out.size)
  have SV : ∀ y, Below x.heap.size x y → Below v.heap.size v y := fun y hy => HBX.out.trans (hy.mono HBX.out.size)
  have HSX := Lib.hid SX
  have HSV := Lib.hid SV
  clear SX SV
  by_cases s9 : 0 ≤ z9
  · have e9 : decide (0 ≤ z9) = true := decide_eq_true s9
    have HRR : Hid (z9 = R) := Lib.hid (by have := HBD.out; rw [HR.out, if_pos s9])
    clear s9 n8
    go_wp2_with ((with_reducible show wpList _ _ _ (⟨none, .store 29 _ _, _, _, _, _⟩ :: _) _ _); refine wpList_store_mid rfl 29 (.tmp 3) (.tmp 14) rfl w2.heap.size 0 #[.bool b0, .bool b1, .bool b2, .bool b3, .bool b4, .bool b5, .bool b6, .bool b7, .int .i64 z8, .int .i64 z9, .int .i64 z10, .int .i64 z11] rfl rfl HT.out infoCtl (onesCtl ⟨b0, b1, b2, b3, b4, b5, b6, b7, z8, z9, z10, z11⟩) ?_)
    rw [HX.out]
    go_ret
    exact ⟨by rw [← HRR.out]; rfl, HBE.out⟩
  · have e9 : decide (0 ≤ z9) = false := decide_eq_false s9
    by_cases s8 : 0 ≤ z8
    · have e8 : decide (0 ≤ z8) = true := decide_eq_true s8
      have HRR : Hid (z8 = R) := Lib.hid (by have := HBD.out; rw [HR.out, if_neg s9, if_pos s8])
      clear s9 s8
      go_wp2_with ((with_reducible show wpList _ _ _ (⟨none, .store 29 _ _, _, _, _, _⟩ :: _) _ _); refine wpList_store_mid rfl 29 (.tmp 3) (.tmp 14) rfl w2.heap.size 0 #[.bool b0, .bool b1, .bool b2, .bool b3, .bool b4, .bool b5, .bool b6, .bool b7, .int .i64 z8, .int .i64 z9, .int .i64 z10, .int .i64 z11] rfl rfl HT.out infoCtl (onesCtl ⟨b0, b1, b2, b3, b4, b5, b6, b7, z8, z9, z10, z11⟩) ?_)
      rw [HX.out]
      go_ret
      exact ⟨by rw [← HRR.out]; rfl, HBE.out⟩
    · have e8 : decide (0 ≤ z8) = false := decide_eq_false s8
      have HRR : Hid (R = if g.isSome then (if H && G then max (E - D) 0 else 0) else if L && G && (u || b3) then min (max ((D - M).tdiv 10) 0) 86400 else 0) := Lib.hid (by rw [HR.out, if_neg s9, if_neg s8])
      clear s9 s8
      go_wp2_with first | ((with_reducible show wpList _ _ _ (⟨none, .store 29 _ _, _, _, _, _⟩ :: _) _ _); refine wpList_store_mid rfl 29 (.tmp 3) (.tmp 14) rfl w2.heap.size 0 #[.bool b0, .bool b1, .bool b2, .bool b3, .bool b4, .bool b5, .bool b6, .bool b7, .int .i64 z8, .int .i64 z9, .int .i64 z10, .int .i64 z11] rfl rfl HT.out infoCtl (onesCtl ⟨b0, b1, b2, b3, b4, b5, b6, b7, z8, z9, z10, z11⟩) ?_; have n2 := (HC.out x HBX.out).2; rw [← HX.out] at n2) | fail
      rw [HX.out]
      refine (CD1.out _ HBX.out).mono ?_
      rintro e w3 ⟨rfl, hb3⟩
      have HB3 := Lib.hid hb3
      have n2' := (HC.out w3 (HSV.out _ hb3)).2
      clear n2 n8 n9 e8 e9 hb3
      go_wp2_with fail
      refine (CG.out _ (HSV.out _ HB3.out)).mono ?_
      rintro e w4 ⟨hb4, ⟨rfl, rfl⟩ | ⟨y, rfl, rfl⟩⟩
      · have HB4 := Lib.hid (HB3.out.trans (hb4.mono HB3.out.size))
        have n2' := (HC.out w4 (HSV.out _ HB4.out)).2
        clear hb4
        go_wp2_with fail
        refine (CD3.out _ (HSV.out _ HB4.out)).mono ?_
        rintro e w5 ⟨rfl, hb5⟩
        have HB5 := Lib.hid (HB4.out.trans (hb5.mono HB4.out.size))
        have n0' := (HC.out w5 (HSV.out _ HB5.out)).1
        clear hb5 n2'
        cases L with
        | false =>
          go_wp2
          go_ret
          exact ⟨by rw [HRR.out]; rfl, HSX.out _ HB5.out⟩
        | true =>
          cases G with
          | false =>
            go_wp2
            go_ret
            exact ⟨by rw [HRR.out]; rfl, HSX.out _ HB5.out⟩
          | true =>
            go_wp2_with fail
            refine (HU.out _).mono ?_
            rintro e w6 ⟨rfl, hb6⟩
            have HB6 := Lib.hid (HB5.out.trans (hb6.mono HB5.out.size))
            have n3' := (ctl_reads (HCT.out w6 HB6.out)).2.2.2.1
            simp only at n3'
            clear hb6 n0'
            have q2 := HQ.out.2.1
            have q3 := HQ.out.2.2.1
            have q4 := HQ.out.2.2.2
            cases u with
            | true =>
              go_wp2
              go_ret
              exact ⟨by rw [HRR.out]; rfl, HSX.out _ HB6.out⟩
            | false =>
              cases b3 with
              | true =>
                go_wp2
                go_ret
                exact ⟨by rw [HRR.out]; rfl, HSX.out _ HB6.out⟩
              | false =>
                go_wp2
                go_ret
                exact ⟨by rw [HRR.out]; rfl, HSX.out _ HB6.out⟩
      · have HB4 := Lib.hid (HB3.out.trans (hb4.mono HB3.out.size))
        have n2' := (HC.out w4 (HSV.out _ HB4.out)).2
        clear hb4
        go_wp2_with fail
        refine (CD2.out _ (HSV.out _ HB4.out)).mono ?_
        rintro e w5 ⟨rfl, hb5⟩
        have HB5 := Lib.hid (HB4.out.trans (hb5.mono HB4.out.size))
        clear hb5 n2'
        have q1 := HQ.out.1
        cases H with
        | false =>
          go_wp2
          go_ret
          exact ⟨by rw [HRR.out]; rfl, HSX.out _ HB5.out⟩
        | true =>
          cases G with
          | false =>
            go_wp2
            go_ret
            exact ⟨by rw [HRR.out]; rfl, HSX.out _ HB5.out⟩
          | true =>
            go_wp2
            go_ret
            exact ⟨by rw [HRR.out]; rfl, HSX.out _ HB5.out⟩
set_option maxHeartbeats 4000000 in
theorem life_any (fs : Flf) (st : Int) (rs : ByteArray) (fa ba : Option Addr) (fc bn bc : Nat) (w : World) (h1 : TabP w) (h2 : TabS w) (hin : FieldsIn w.heap.size w fa fs) (hf : FewF fs) :
    Calls Tryz.prog 11 #[.agg #[.int .i64 st, .string rs, .slice fa fs.length fc, .slice ba bn bc]] w (NumPost (lifeF st fs) w) := by
  obtain ⟨v, hv⟩ : ∃ v, w.alloc (.cells #[.int .i64 st, .string rs, .slice fa fs.length fc, .slice ba bn bc] 25) = v := ⟨_, rfl⟩
  have hb : Below w.heap.size w v := by rw [← hv]; exact (Below.refl _ _).alloc (Nat.le_refl _) _
  have hvs : Spares nowhere w v := Below.spares hb (fun k hk => .inr hk)
  have cL := lifeIn_any fs st rs fa ba fc bn bc v (h1.spares hvs (fun h => h)) (h2.spares hvs (fun h => h)) (kin_in (w := w) ⟨v, hb⟩ hin) hf
  have hR0 : lifeF st fs = min (lifeIn st fs) 2147483647 := rfl
  obtain ⟨L, hL⟩ : ∃ L, lifeIn st fs = L := ⟨_, rfl⟩
  rw [hL] at hR0 cL
  rw [hR0]
  unfold NumPost at cL ⊢
  have CL := Lib.hid cL
  have HV := Lib.hid hv
  have HB := Lib.hid hb
  obtain ⟨fl, hfl⟩ : ∃ n, fs.length = n := ⟨_, rfl⟩
  rw [hfl] at CL HV ⊢
  clear cL hv hb hvs h1 h2 hin hf hR0 hL hfl
  go_enter Tryz.func11, Tryz.ntmps11
  go_wp2_with fail
  change Calls _ _ _ (w.alloc (.cells #[.int .i64 st, .string rs, .slice fa fl fc, .slice ba bn bc] 25)) _
  rw [HV.out]
  refine CL.out.mono ?_
  rintro e w2 ⟨rfl, hb2⟩
  have HB2 := Lib.hid (HB.out.trans (hb2.mono HB.out.size))
  clear hb2
  go_wp2
  go_ret
  exact ⟨rfl, HB2.out⟩
end Go.Proofs.YtaimhfnddolilaaGreatDoor
namespace Go.Proofs.YtaimhfnddolilaaGreatDoor
open Go.RowKit HeadMath HeadS CtrlS VaryS

theorem four_at {w : World} {p : Nat} {a b c d : Value} {t : TypeId} (h : w.heap[p]? = some (.cells #[a, b, c, d] t (0, 0))) : w.cell? ⟨p, 0, none⟩ = some a ∧ w.cell? ⟨p, 1, none⟩ = some b ∧ w.cell? ⟨p, 2, none⟩ = some c ∧ w.cell? ⟨p, 3, none⟩ = some d := by
  refine ⟨?_, ?_, ?_, ?_⟩ <;> (rw [Lib.cell_of_heap h]; rfl)
theorem one_at {w : World} {p : Nat} {f : ByteArray × ByteArray} (h : w.heap[p]? = some (.cells #[.string f.1, .string f.2] 43 (0, 0))) : FieldsIn w.heap.size w (some ⟨p, 0, none⟩) [f] := by
  intro j hj
  obtain rfl : j = 0 := by simpa using hj
  exact ⟨p, 0, rfl, (Array.getElem?_eq_some_iff.1 h).1, by rw [Lib.cell_of_heap h]; rfl, by rw [Lib.cell_of_heap h]; rfl⟩
end Go.Proofs.YtaimhfnddolilaaGreatDoor
namespace Go.Proofs.YtaimhfnddolilaaGreatDoor
open Go.RowKit HeadMath HeadS CtrlS DateMath VaryS

def BoolPost (b : Bool) (w : World) (e : Ending) (w' : World) : Prop := e = .returned (.bool b) ∧ Below w.heap.size w w'
theorem two_at {w : World} {p : Nat} {a b : Value} {t : TypeId} (h : w.heap[p]? = some (.cells #[a, b] t (0, 0))) : w.cell? ⟨p, 0, none⟩ = some a ∧ w.cell? ⟨p, 1, none⟩ = some b := by
  refine ⟨?_, ?_⟩ <;> (rw [Lib.cell_of_heap h]; rfl)
theorem three_newF (w : World) (o p q : Obj) : let v := ((w.alloc o).alloc p).alloc q
    v.heap[w.heap.size]? = some o ∧ v.heap[w.heap.size + 1]? = some p ∧ v.heap[w.heap.size + 1 + 1]? = some q ∧ v.heap.size = w.heap.size + 3 ∧ Below w.heap.size w v := by
  intro v
  have z1 : (w.alloc o).heap.size = w.heap.size + 1 := by simp
  have z2 : ((w.alloc o).alloc p).heap.size = w.heap.size + 1 + 1 := by simp
  have e1 := heap_alloc_new (w.alloc o) p
  have e2 := heap_alloc_new ((w.alloc o).alloc p) q
  rw [z1] at e1
  rw [z2] at e2
  refine ⟨?_, ?_, e2, by simp [v], below_al (below_al (below_al (Below.refl _ _) _) _) _⟩
  · show (((w.alloc o).alloc p).alloc q).heap[w.heap.size]? = _
    rw [Below.heap_alloc _ _ _ (by simp; omega), Below.heap_alloc _ _ _ (by simp)]
    exact heap_alloc_new w o
  · show (((w.alloc o).alloc p).alloc q).heap[w.heap.size + 1]? = _
    rw [Below.heap_alloc _ _ _ (by simp)]
    exact e1
set_option maxRecDepth 100000 in
set_option maxHeartbeats 16000000 in
theorem serv_any (q : Ctl) (fs : Flf) (st asked came now : Int) (rs : ByteArray) (fa ba : Option Addr) (fc bn bc : Nat) (w : World) (h1 : TabP w) (h2 : TabS w) (hin : FieldsIn w.heap.size w fa fs) (hf : FewF fs) :
    Calls Tryz.prog 15 #[ctlV q, .agg #[.int .i64 st, .string rs, .slice fa fs.length fc, .slice ba bn bc], .agg #[.int .i64 asked, .int .i64 came], .int .i64 now] w (BoolPost (servF q st fs asked came now) w) := by
  obtain ⟨a0, a1, a2, a3, a4, a5, a6, a7, y8, y9, y10, y11⟩ := q
  show Calls _ _ #[.agg #[.bool a0, .bool a1, .bool a2, .bool a3, .bool a4, .bool a5, .bool a6, .bool a7, .int .i64 y8, .int .i64 y9, .int .i64 y10, .int .i64 y11], _, _, _] _ _
  obtain ⟨v, hv⟩ : ∃ v, ((w.alloc (.cells #[.bool a0, .bool a1, .bool a2, .bool a3, .bool a4, .bool a5, .bool a6, .bool a7, .int .i64 y8, .int .i64 y9, .int .i64 y10, .int .i64 y11] 29)).alloc (.cells #[.int .i64 st, .string rs, .slice fa fs.length fc, .slice ba bn bc] 25)).alloc (.cells #[.int .i64 asked, .int .i64 came] 27) = v := ⟨_, rfl⟩
  have h3 := three_newF w (.cells #[.bool a0, .bool a1, .bool a2, .bool a3, .bool a4, .bool a5, .bool a6, .bool a7, .int .i64 y8, .int .i64 y9, .int .i64 y10, .int .i64 y11] 29) (.cells #[.int .i64 st, .string rs, .slice fa fs.length fc, .slice ba bn bc] 25) (.cells #[.int .i64 asked, .int .i64 came] 27)
  simp only at h3
  rw [hv] at h3
  obtain ⟨g0, g1, g2, hsz, hb⟩ := h3
  have HGQ : Hid (∀ y, Below v.heap.size v y → CtlAt y w.heap.size ⟨a0, a1, a2, a3, a4, a5, a6, a7, y8, y9, y10, y11⟩) := Lib.hid (fun y hy => (hy.block _ (by omega)).trans g0)
  have HGR : Hid (∀ y, Below v.heap.size v y → y.heap[w.heap.size + 1]? = some (.cells #[.int .i64 st, .string rs, .slice fa fs.length fc, .slice ba bn bc] 25 (0, 0))) := Lib.hid (fun y hy => (hy.block _ (by omega)).trans g1)
  have HGT : Hid (∀ y, Below v.heap.size v y → y.heap[w.heap.size + 1 + 1]? = some (.cells #[.int .i64 asked, .int .i64 came] 27 (0, 0))) := Lib.hid (fun y hy => (hy.block _ (by omega)).trans g2)
  have c2 := (four_at g1).2.2.1
  have hin1 : FieldsIn v.heap.size v fa fs := kin_in (w := w) ⟨v, hb⟩ hin
  have cP := parse_any fs fa fc v hin1 hf
  unfold CtrlS.ParsePost at cP
  have hvs : Spares nowhere w v := Below.spares hb (fun k hk => .inr hk)
  have p1 : TabP v := h1.spares hvs (fun h => h)
  have p2 : TabS v := h2.spares hvs (fun h => h)
  have cA : ∀ x, Below v.heap.size v x → Calls Tryz.prog 13 #[.agg #[.int .i64 st, .string rs, .slice fa fs.length fc, .slice ba bn bc], .agg #[.int .i64 asked, .int .i64 came], .int .i64 now] x (NumPost (ageF fs asked came now) x) := fun x hx => age_any fs st asked came now rs fa ba fc bn bc x (p1.up hx) (p2.up hx) (kin_in (w := v) ⟨x, hx⟩ hin1) hf
  have cL : ∀ x, Below v.heap.size v x → Calls Tryz.prog 11 #[.agg #[.int .i64 st, .string rs, .slice fa fs.length fc, .slice ba bn bc]] x (NumPost (lifeF st fs) x) := fun x hx => life_any fs st rs fa ba fc bn bc x (p1.up hx) (p2.up hx) (kin_in (w := v) ⟨x, hx⟩ hin1) hf
  have hbA := ageF_bd fs asked came now
  have hbL := lifeF_bd st fs
  have hR0 : servF ⟨a0, a1, a2, a3, a4, a5, a6, a7, y8, y9, y10, y11⟩ st fs asked came now = if a1 || (parseF fs).noCache then false
    else if 0 ≤ y8 ∧ y8 < ageF fs asked came now then false
    else if ageF fs asked came now < lifeF st fs then decide (y10 ≤ lifeF st fs - ageF fs asked came now)
    else if (parseF fs).must || (parseF fs).prox || decide (0 ≤ (parseF fs).sMax) || decide (0 ≤ y10) then false
    else a7 || (decide (0 ≤ y11) && decide (ageF fs asked came now - lifeF st fs ≤ y11)) := rfl
  obtain ⟨c, hc⟩ : ∃ c, parseF fs = c := ⟨_, rfl⟩
  obtain ⟨A, hA⟩ : ∃ A, ageF fs asked came now = A := ⟨_, rfl⟩
  obtain ⟨L, hL⟩ : ∃ L, lifeF st fs = L := ⟨_, rfl⟩
  obtain ⟨R, hR⟩ : ∃ R, servF ⟨a0, a1, a2, a3, a4, a5, a6, a7, y8, y9, y10, y11⟩ st fs asked came now = R := ⟨_, rfl⟩
  rw [hc, hA, hL, hR] at hR0
  rw [hR]
  rw [hA] at cA hbA
  rw [hL] at cL hbL
  rw [hc] at cP
  obtain ⟨b0, b1, b2, b3, b4, b5, b6, b7, z8, z9, z10, z11⟩ := c
  simp only at hR0
  unfold ctlV at cP
  simp only at cP
  unfold NumPost at cA cL
  have CP := Lib.hid cP
  have CA := Lib.hid cA
  have CL := Lib.hid cL
  have HR := Lib.hid hR0
  have HV := Lib.hid hv
  have HB := Lib.hid hb
  have q1 : IntKind.i64.wrap (L - A) = L - A := by rw [IntKind.wrap_i64]; omega
  have q2 : IntKind.i64.wrap (A - L) = A - L := by rw [IntKind.wrap_i64]; omega
  have HBD := Lib.hid (And.intro hbA hbL)
  obtain ⟨fl, hfl⟩ : ∃ n, fs.length = n := ⟨_, rfl⟩
  rw [hfl] at CP CA CL HGR HV c2 ⊢
  unfold BoolPost
  clear cP cA cL hin hin1 hf hb hv h1 h2 p1 p2 hvs hR hR0 hc hA hL hfl hbA hbL g0 g1 g2 hsz
  have k1 := (ctl_reads (HGQ.out v (Below.refl _ _))).2.1
  go_enter Tryz.func15, Tryz.ntmps15
  go_wp2_with fail
  change Calls _ _ _ (((w.alloc (.cells #[.bool a0, .bool a1, .bool a2, .bool a3, .bool a4, .bool a5, .bool a6, .bool a7, .int .i64 y8, .int .i64 y9, .int .i64 y10, .int .i64 y11] 29)).alloc (.cells #[.int .i64 st, .string rs, .slice fa fl fc, .slice ba bn bc] 25)).alloc (.cells #[.int .i64 asked, .int .i64 came] 27)) _
  rw [HV.out]
  refine CP.out.mono ?_
  rintro e w2 ⟨rfl, hb2⟩
  obtain ⟨x, hx⟩ : ∃ x, (w2.alloc (.cells #[.bool false, .bool false, .bool false, .bool false, .bool false, .bool false, .bool false, .bool false, .int .i64 0, .int .i64 0, .int .i64 0, .int .i64 0] 29)).setCells w2.heap.size 0 [.bool b0, .bool b1, .bool b2, .bool b3, .bool b4, .bool b5, .bool b6, .bool b7, .int .i64 z8, .int .i64 z9, .int .i64 z10, .int .i64 z11] = x := ⟨_, rfl⟩
  have hn := ctl_new w2 ⟨b0, b1, b2, b3, b4, b5, b6, b7, z8, z9, z10, z11⟩
  simp only at hn
  have HT := Lib.hid hn.2.2
  have hvx : Below v.heap.size v x := by rw [← hx]; exact hb2.trans (hn.2.1.mono hb2.size)
  have HBX := Lib.hid hvx
  have hct : CtlAt x w2.heap.size ⟨b0, b1, b2, b3, b4, b5, b6, b7, z8, z9, z10, z11⟩ := by have h := hn.1; rw [hx] at h; exact h
  have HX := Lib.hid hx
  have HBE := Lib.hid (HB.out.trans (HBX.out.mono HB.out.size))
  have HSX : Hid (∀ z : Kin x, Below w.heap.size w z.wd) := Lib.hid (fun z => HBE.out.trans (z.below.mono HBE.out.size))
  have HSV : Hid (∀ z : Kin x, Below v.heap.size v z.wd) := Lib.hid (fun z => HBX.out.trans (z.below.mono HBX.out.size))
  have HQK : Hid (∀ z : Kin x, z.wd.cell? ⟨w.heap.size, 1, none⟩ = some (.bool a1) ∧ z.wd.cell? ⟨w.heap.size, 7, none⟩ = some (.bool a7) ∧ z.wd.cell? ⟨w.heap.size, 8, none⟩ = some (.int .i64 y8) ∧ z.wd.cell? ⟨w.heap.size, 10, none⟩ = some (.int .i64 y10) ∧ z.wd.cell? ⟨w.heap.size, 11, none⟩ = some (.int .i64 y11)) := Lib.hid (fun z => by
    obtain ⟨n0, n1, n2, n3, n4, n5, n6, n7, n8, n9, n10, n11⟩ := ctl_reads (HGQ.out _ (HSV.out z))
    exact ⟨n1, n7, n8, n10, n11⟩)
  have HCK : Hid (∀ z : Kin x, z.wd.cell? ⟨w2.heap.size, 1, none⟩ = some (.bool b1) ∧ z.wd.cell? ⟨w2.heap.size, 4, none⟩ = some (.bool b4) ∧ z.wd.cell? ⟨w2.heap.size, 5, none⟩ = some (.bool b5) ∧ z.wd.cell? ⟨w2.heap.size, 9, none⟩ = some (.int .i64 z9)) := Lib.hid (fun z => by
    have h : CtlAt z.wd w2.heap.size ⟨b0, b1, b2, b3, b4, b5, b6, b7, z8, z9, z10, z11⟩ := (z.below.block _ (Array.getElem?_eq_some_iff.1 hct).1).trans hct
    obtain ⟨n0, n1, n2, n3, n4, n5, n6, n7, n8, n9, n10, n11⟩ := ctl_reads h
    exact ⟨n1, n4, n5, n9⟩)
  have HRK : Hid (∀ z : Kin x, z.wd.cell? ⟨w.heap.size + 1, 0, none⟩ = some (.int .i64 st) ∧ z.wd.cell? ⟨w.heap.size + 1, 1, none⟩ = some (.string rs) ∧ z.wd.cell? ⟨w.heap.size + 1, 2, none⟩ = some (.slice fa fl fc) ∧ z.wd.cell? ⟨w.heap.size + 1, 3, none⟩ = some (.slice ba bn bc)) := Lib.hid (fun z => four_at (HGR.out _ (HSV.out z)))
  have HTK : Hid (∀ z : Kin x, z.wd.cell? ⟨w.heap.size + 1 + 1, 0, none⟩ = some (.int .i64 asked) ∧ z.wd.cell? ⟨w.heap.size + 1 + 1, 1, none⟩ = some (.int .i64 came)) := Lib.hid (fun z => two_at (HGT.out _ (HSV.out z)))
  have M1 : Hid (∀ z : Kin x, Calls Tryz.prog 13 #[.agg #[.int .i64 st, .string rs, .slice fa fl fc, .slice ba bn bc], .agg #[.int .i64 asked, .int .i64 came], .int .i64 now] z.wd fun e w'' => e = .returned (.int .i64 A) ∧ ∃ y : Kin x, w'' = y.wd) := Lib.hid (fun z => Kin.calls (CA.out _ (HSV.out z)))
  have M2 : Hid (∀ z : Kin x, Calls Tryz.prog 11 #[.agg #[.int .i64 st, .string rs, .slice fa fl fc, .slice ba bn bc]] z.wd fun e w'' => e = .returned (.int .i64 L) ∧ ∃ y : Kin x, w'' = y.wd) := Lib.hid (fun z => Kin.calls (CL.out _ (HSV.out z)))
  clear hb2 hn hx hvx hct c2 k1
  go_upto_region 2 with ((with_reducible show wpList _ _ _ (⟨none, .store 29 _ _, _, _, _, _⟩ :: _) _ _); refine wpList_store_mid rfl 29 (.tmp 9) (.tmp 14) rfl w2.heap.size 0 #[.bool b0, .bool b1, .bool b2, .bool b3, .bool b4, .bool b5, .bool b6, .bool b7, .int .i64 z8, .int .i64 z9, .int .i64 z10, .int .i64 z11] rfl rfl HT.out infoCtl (onesCtl ⟨b0, b1, b2, b3, b4, b5, b6, b7, z8, z9, z10, z11⟩) ?_)
  rw [HX.out]
  have i1 := (HQK.out ⟨x, Below.refl _ _⟩).1
  have j1 := (HCK.out ⟨x, Below.refl _ _⟩).1
  simp only at i1 j1
  cases a1 with
  | true =>
    go_wp2
    go_ret
    exact ⟨by rw [HR.out]; rfl, HBE.out⟩
  | false =>
    cases b1 with
    | true =>
      go_wp2
      go_ret
      exact ⟨by rw [HR.out]; rfl, HBE.out⟩
    | false =>
      go_upto_region 4 with (fail)
      clear i1 j1
      have a0' := fun z => (HRK.out z).1
      have a1' := fun z => (HRK.out z).2.1
      have a2' := fun z => (HRK.out z).2.2.1
      have a3' := fun z => (HRK.out z).2.2.2
      have t0' := fun z => (HTK.out z).1
      have t1' := fun z => (HTK.out z).2
      refine wp_region_kin (by kernel_rfl) (by kernel_rfl) ?_
      repeat (go_big_quiet_step (first | (go_at_call 13; with_reducible exact M1.out _) | (go_at_call 11; with_reducible exact M2.out _)))
      refine wpQuiet_nil ?_
      intro _ hx
      obtain ⟨z, rfl⟩ := hx
      clear a0' a1' a2' a3' t0' t1'
      have i1 := (HQK.out z).1
      have i7 := (HQK.out z).2.1
      have i8 := (HQK.out z).2.2.1
      have i10 := (HQK.out z).2.2.2.1
      have i11 := (HQK.out z).2.2.2.2
      have j1 := (HCK.out z).1
      have j4 := (HCK.out z).2.1
      have j5 := (HCK.out z).2.2.1
      have j9 := (HCK.out z).2.2.2
      have HE := Lib.hid (HSX.out z)
      have hbd := HBD.out
      have HS : Hid (R = servL A L y8 y10 y11 z9 b4 b5 a7) := Lib.hid HR.out
      by_cases s1 : 0 ≤ y8
      · have e1 : decide (0 ≤ y8) = true := decide_eq_true s1
        by_cases s2 : y8 < A
        · have e2 : decide (y8 < A) = true := decide_eq_true s2
          go_wp2
          go_ret
          exact ⟨congrArg (fun b => Ending.returned (.bool b)) (show (false : Bool) = R from (HS.out.trans (servL1 (by omega) (by omega))).symm), HE.out⟩
        · have e2 : decide (y8 < A) = false := decide_eq_false s2
          have hn : ¬ (0 ≤ y8 ∧ y8 < A) := by omega
          by_cases s3 : A < L
          · have e3 : decide (A < L) = true := decide_eq_true s3
            go_wp2
            go_ret
            exact ⟨congrArg (fun b => Ending.returned (.bool b)) (show (decide (y10 ≤ L - A) : Bool) = R from (HS.out.trans (servL2 (by omega) (by omega))).symm), HE.out⟩
          · have e3 : decide (A < L) = false := decide_eq_false s3
            cases b4 with
            | true =>
              go_wp2
              go_ret
              exact ⟨congrArg (fun b => Ending.returned (.bool b)) (show (false : Bool) = R from (HS.out.trans (servL3 (by omega) (by omega) (.inl rfl))).symm), HE.out⟩
            | false =>
              cases b5 with
              | true =>
                go_wp2
                go_ret
                exact ⟨congrArg (fun b => Ending.returned (.bool b)) (show (false : Bool) = R from (HS.out.trans (servL3 (by omega) (by omega) (.inr (.inl rfl)))).symm), HE.out⟩
              | false =>
                by_cases s9 : 0 ≤ z9
                · have e9 : decide (0 ≤ z9) = true := decide_eq_true s9
                  go_wp2
                  go_ret
                  exact ⟨congrArg (fun b => Ending.returned (.bool b)) (show (false : Bool) = R from (HS.out.trans (servL3 (by omega) (by omega) (.inr (.inr (.inl (by omega)))))).symm), HE.out⟩
                · have e9 : decide (0 ≤ z9) = false := decide_eq_false s9
                  by_cases s10 : 0 ≤ y10
                  · have e10 : decide (0 ≤ y10) = true := decide_eq_true s10
                    go_wp2
                    go_ret
                    exact ⟨congrArg (fun b => Ending.returned (.bool b)) (show (false : Bool) = R from (HS.out.trans (servL3 (by omega) (by omega) (.inr (.inr (.inr (by omega)))))).symm), HE.out⟩
                  · have e10 : decide (0 ≤ y10) = false := decide_eq_false s10
                    cases a7 with
                    | true =>
                      go_wp2
                      go_ret
                      exact ⟨congrArg (fun b => Ending.returned (.bool b)) (show (true : Bool) = R from (HS.out.trans (servL4 (by omega) (by omega) rfl rfl (by omega) (by omega))).symm), HE.out⟩
                    | false =>
                      by_cases s11 : 0 ≤ y11
                      · have e11 : decide (0 ≤ y11) = true := decide_eq_true s11
                        go_wp2
                        go_ret
                        exact ⟨congrArg (fun b => Ending.returned (.bool b)) (show (decide (A - L ≤ y11) : Bool) = R from (HS.out.trans (by rw [servL4 (by omega) (by omega) rfl rfl (by omega) (by omega), e11]; rfl)).symm), HE.out⟩
                      · have e11 : decide (0 ≤ y11) = false := decide_eq_false s11
                        go_wp2
                        go_ret
                        exact ⟨congrArg (fun b => Ending.returned (.bool b)) (show (false : Bool) = R from (HS.out.trans (by rw [servL4 (by omega) (by omega) rfl rfl (by omega) (by omega), e11]; rfl)).symm), HE.out⟩
      · have e1 : decide (0 ≤ y8) = false := decide_eq_false s1
        have hn : ¬ (0 ≤ y8 ∧ y8 < A) := by omega
        by_cases s3 : A < L
        · have e3 : decide (A < L) = true := decide_eq_true s3
          go_wp2
          go_ret
          exact ⟨congrArg (fun b => Ending.returned (.bool b)) (show (decide (y10 ≤ L - A) : Bool) = R from (HS.out.trans (servL2 (by omega) (by omega))).symm), HE.out⟩
        · have e3 : decide (A < L) = false := decide_eq_false s3
          cases b4 with
          | true =>
            go_wp2
            go_ret
            exact ⟨congrArg (fun b => Ending.returned (.bool b)) (show (false : Bool) = R from (HS.out.trans (servL3 (by omega) (by omega) (.inl rfl))).symm), HE.out⟩
          | false =>
            cases b5 with
            | true =>
              go_wp2
              go_ret
              exact ⟨congrArg (fun b => Ending.returned (.bool b)) (show (false : Bool) = R from (HS.out.trans (servL3 (by omega) (by omega) (.inr (.inl rfl)))).symm), HE.out⟩
            | false =>
              by_cases s9 : 0 ≤ z9
              · have e9 : decide (0 ≤ z9) = true := decide_eq_true s9
                go_wp2
                go_ret
                exact ⟨congrArg (fun b => Ending.returned (.bool b)) (show (false : Bool) = R from (HS.out.trans (servL3 (by omega) (by omega) (.inr (.inr (.inl (by omega)))))).symm), HE.out⟩
              · have e9 : decide (0 ≤ z9) = false := decide_eq_false s9
                by_cases s10 : 0 ≤ y10
                · have e10 : decide (0 ≤ y10) = true := decide_eq_true s10
                  go_wp2
                  go_ret
                  exact ⟨congrArg (fun b => Ending.returned (.bool b)) (show (false : Bool) = R from (HS.out.trans (servL3 (by omega) (by omega) (.inr (.inr (.inr (by omega)))))).symm), HE.out⟩
                · have e10 : decide (0 ≤ y10) = false := decide_eq_false s10
                  cases a7 with
                  | true =>
                    go_wp2
                    go_ret
                    exact ⟨congrArg (fun b => Ending.returned (.bool b)) (show (true : Bool) = R from (HS.out.trans (servL4 (by omega) (by omega) rfl rfl (by omega) (by omega))).symm), HE.out⟩
                  | false =>
                    by_cases s11 : 0 ≤ y11
                    · have e11 : decide (0 ≤ y11) = true := decide_eq_true s11
                      go_wp2
                      go_ret
                      exact ⟨congrArg (fun b => Ending.returned (.bool b)) (show (decide (A - L ≤ y11) : Bool) = R from (HS.out.trans (by rw [servL4 (by omega) (by omega) rfl rfl (by omega) (by omega), e11]; rfl)).symm), HE.out⟩
                    · have e11 : decide (0 ≤ y11) = false := decide_eq_false s11
                      go_wp2
                      go_ret
                      exact ⟨congrArg (fun b => Ending.returned (.bool b)) (show (false : Bool) = R from (HS.out.trans (by rw [servL4 (by omega) (by omega) rfl rfl (by omega) (by omega), e11]; rfl)).symm), HE.out⟩
end Go.Proofs.YtaimhfnddolilaaGreatDoor
namespace Go.Proofs.YtaimhfnddolilaaGreatDoor
open Go.RowKit HeadMath HeadS CtrlS DateMath

def zz0 : ByteArray := ⟨#[109, 97, 120, 45, 97, 103, 101, 61, 48]⟩
theorem parts_zz0 : partsF zz0 = [⟨#[109, 97, 120, 45, 97, 103, 101, 61, 48]⟩] := by
  have e1 : zz0 = arr ([109, 97, 120, 45, 97, 103, 101, 61, 48] ++ []) := rfl
  rw [e1, parts_step _ _ _ (plain_closed (by decide)) (.inl ⟨rfl, rfl⟩), partsF_nil (v := arr []) rfl]
  decide +kernel
theorem ctl_zz0 : parseF [(ccN, zz0)] = ⟨false, false, false, false, false, false, false, false, 0, -1, -1, -1⟩ := (parse_sing (by decide +kernel) rfl).trans (by rw [parts_zz0]; decide +kernel)
def zz1 : ByteArray := ⟨#[109, 97, 120, 45, 97, 103, 101, 61, 48, 44, 32, 109, 117, 115, 116, 45, 114, 101, 118, 97, 108, 105, 100, 97, 116, 101]⟩
theorem parts_zz1 : partsF zz1 = [⟨#[109, 97, 120, 45, 97, 103, 101, 61, 48]⟩, ⟨#[109, 117, 115, 116, 45, 114, 101, 118, 97, 108, 105, 100, 97, 116, 101]⟩] := by
  have e1 : zz1 = arr ([109, 97, 120, 45, 97, 103, 101, 61, 48] ++ 44 :: ([32, 109, 117, 115, 116, 45, 114, 101, 118, 97, 108, 105, 100, 97, 116, 101] ++ [])) := rfl
  rw [e1, parts_step _ _ _ (plain_closed (by decide)) (.inr rfl), parts_step _ _ _ (plain_closed (by decide)) (.inl ⟨rfl, rfl⟩), partsF_nil (v := arr []) rfl]
  decide +kernel
theorem ctl_zz1 : parseF [(ccN, zz1)] = ⟨false, false, false, false, true, false, false, false, 0, -1, -1, -1⟩ := (parse_sing (by decide +kernel) rfl).trans (by rw [parts_zz1]; decide +kernel)
def zz2 : ByteArray := ⟨#[109, 97, 120, 45, 97, 103, 101, 61, 48, 44, 32, 112, 114, 111, 120, 121, 45, 114, 101, 118, 97, 108, 105, 100, 97, 116, 101]⟩
theorem parts_zz2 : partsF zz2 = [⟨#[109, 97, 120, 45, 97, 103, 101, 61, 48]⟩, ⟨#[112, 114, 111, 120, 121, 45, 114, 101, 118, 97, 108, 105, 100, 97, 116, 101]⟩] := by
  have e1 : zz2 = arr ([109, 97, 120, 45, 97, 103, 101, 61, 48] ++ 44 :: ([32, 112, 114, 111, 120, 121, 45, 114, 101, 118, 97, 108, 105, 100, 97, 116, 101] ++ [])) := rfl
  rw [e1, parts_step _ _ _ (plain_closed (by decide)) (.inr rfl), parts_step _ _ _ (plain_closed (by decide)) (.inl ⟨rfl, rfl⟩), partsF_nil (v := arr []) rfl]
  decide +kernel
theorem ctl_zz2 : parseF [(ccN, zz2)] = ⟨false, false, false, false, false, true, false, false, 0, -1, -1, -1⟩ := (parse_sing (by decide +kernel) rfl).trans (by rw [parts_zz2]; decide +kernel)
def zz3 : ByteArray := ⟨#[109, 97, 120, 45, 97, 103, 101, 61, 48, 44, 32, 115, 45, 109, 97, 120, 97, 103, 101, 61, 48]⟩
theorem parts_zz3 : partsF zz3 = [⟨#[109, 97, 120, 45, 97, 103, 101, 61, 48]⟩, ⟨#[115, 45, 109, 97, 120, 97, 103, 101, 61, 48]⟩] := by
  have e1 : zz3 = arr ([109, 97, 120, 45, 97, 103, 101, 61, 48] ++ 44 :: ([32, 115, 45, 109, 97, 120, 97, 103, 101, 61, 48] ++ [])) := rfl
  rw [e1, parts_step _ _ _ (plain_closed (by decide)) (.inr rfl), parts_step _ _ _ (plain_closed (by decide)) (.inl ⟨rfl, rfl⟩), partsF_nil (v := arr []) rfl]
  decide +kernel
theorem ctl_zz3 : parseF [(ccN, zz3)] = ⟨false, false, false, false, false, false, false, false, 0, 0, -1, -1⟩ := (parse_sing (by decide +kernel) rfl).trans (by rw [parts_zz3]; decide +kernel)
def zz4 : ByteArray := ⟨#[109, 97, 120, 45, 97, 103, 101, 61, 48, 44, 32, 110, 111, 45, 99, 97, 99, 104, 101]⟩
theorem parts_zz4 : partsF zz4 = [⟨#[109, 97, 120, 45, 97, 103, 101, 61, 48]⟩, ⟨#[110, 111, 45, 99, 97, 99, 104, 101]⟩] := by
  have e1 : zz4 = arr ([109, 97, 120, 45, 97, 103, 101, 61, 48] ++ 44 :: ([32, 110, 111, 45, 99, 97, 99, 104, 101] ++ [])) := rfl
  rw [e1, parts_step _ _ _ (plain_closed (by decide)) (.inr rfl), parts_step _ _ _ (plain_closed (by decide)) (.inl ⟨rfl, rfl⟩), partsF_nil (v := arr []) rfl]
  decide +kernel
theorem ctl_zz4 : parseF [(ccN, zz4)] = ⟨false, true, false, false, false, false, false, false, 0, -1, -1, -1⟩ := (parse_sing (by decide +kernel) rfl).trans (by rw [parts_zz4]; decide +kernel)
def zz5 : ByteArray := ⟨#[109, 97, 120, 45, 97, 103, 101, 61, 48, 44, 32, 112, 117, 98, 108, 105, 99]⟩
theorem parts_zz5 : partsF zz5 = [⟨#[109, 97, 120, 45, 97, 103, 101, 61, 48]⟩, ⟨#[112, 117, 98, 108, 105, 99]⟩] := by
  have e1 : zz5 = arr ([109, 97, 120, 45, 97, 103, 101, 61, 48] ++ 44 :: ([32, 112, 117, 98, 108, 105, 99] ++ [])) := rfl
  rw [e1, parts_step _ _ _ (plain_closed (by decide)) (.inr rfl), parts_step _ _ _ (plain_closed (by decide)) (.inl ⟨rfl, rfl⟩), partsF_nil (v := arr []) rfl]
  decide +kernel
theorem ctl_zz5 : parseF [(ccN, zz5)] = ⟨false, false, false, true, false, false, false, false, 0, -1, -1, -1⟩ := (parse_sing (by decide +kernel) rfl).trans (by rw [parts_zz5]; decide +kernel)
def staleV : Nat → ByteArray
  | 0 => zz0
  | 1 => zz1
  | 2 => zz2
  | 3 => zz3
  | 4 => zz4
  | _ => zz5
theorem none_date (n v : ByteArray) (h : getF n [(ccN, v)] = none) : dateF n [(ccN, v)] = (0, false) := by
  unfold dateF textG
  rw [h]
  show ((readF []).1, (readF []).2 == 0) = _
  rw [read_nil]
  rfl
theorem cc_not {v : ByteArray} {n : ByteArray} (h : sameF ccN.data.toList n.data.toList = false) : getF n [(ccN, v)] = none := by
  have h' : isNamed n (ccN, v) = false := h
  unfold getF
  simp [h']
theorem cc_age (v : ByteArray) (asked came now : Int) : ageF [(ccN, v)] asked came now = min (max 0 (0 + max (withinF came - withinF asked) 0) + max (withinF now - withinF came) 0) 2147483647 := by
  have hd := none_date dateN v (cc_not (by decide +kernel))
  have ha : textG ageN [(ccN, v)] = ⟨#[]⟩ := by unfold textG; rw [cc_not (n := ageN) (by decide +kernel)]; rfl
  unfold ageF
  rw [hd, ha]
  have hs : secF (⟨#[]⟩ : ByteArray).data.toList = -1 := by decide +kernel
  rw [hs, show max (-1 : Int) 0 = 0 by decide]
  simp only [Bool.false_eq_true, if_false]
theorem stale_age (v : ByteArray) (stale : Nat) (h : stale < 256) : ageF [(ccN, v)] 100 100 (100 + stale) = stale := by
  rw [cc_age]
  unfold withinF
  omega
theorem kn_age (v : ByteArray) (now : Int) (h : 12 ≤ now) (h' : now ≤ 100) : ageF [(ccN, v)] 10 12 now = now - 10 := by
  rw [cc_age]
  unfold withinF
  omega
theorem kn_life : lifeF 200 [(ccN, vMaxAge5)] = 5 := by
  unfold lifeF lifeIn
  rw [ctl_vMaxAge5_ccN]
  decide
theorem kn_serv (now : Int) (h : 12 ≤ now) (h' : now ≤ 100) : servF ctl0 200 [(ccN, vMaxAge5)] 10 12 now = decide (now - 10 < 5) := by
  rw [serv_eq, kn_age _ _ h h', kn_life, ctl_vMaxAge5_ccN]
  show servL (now - 10) 5 (-1) (-1) (-1) (-1) false false false = _
  by_cases hl : now - 10 < 5
  · rw [servL2 (by omega) hl, decide_eq_true hl]
    exact decide_eq_true (by omega)
  · rw [servL4 (by omega) hl rfl rfl (by decide) (by decide), decide_eq_false hl]
    rfl
theorem stale_life (v : ByteArray) {c : Ctl} (hc : parseF [(ccN, v)] = c) (h : c.sMax = 0 ∨ c.sMax = -1 ∧ c.maxA = 0) : lifeF 200 [(ccN, v)] = 0 := by
  unfold lifeF lifeIn
  rw [hc]
  rcases h with h | ⟨h, h'⟩
  · rw [h, if_pos (by decide)]; rfl
  · rw [h, h', if_neg (by decide), if_pos (by decide)]; rfl
def staleQ (most : Nat) (any : Bool) : Ctl := ⟨false, false, false, false, false, false, false, any, -1, -1, -1, most⟩
theorem stale_serv (K : Nat) (hK : K < 6) (stale most : Nat) (any : Bool) (h1 : stale < 256) (h2 : most < 256) :
    servF (staleQ most any) 200 [(ccN, staleV K)] 100 100 (100 + stale) = ((any || decide (stale ≤ most)) && !(decide (1 ≤ K) && decide (K ≤ 4))) := by
  have key : ∀ (v : ByteArray) (c : Ctl), parseF [(ccN, v)] = c → (c.sMax = 0 ∨ c.sMax = -1 ∧ c.maxA = 0) → servF (staleQ most any) 200 [(ccN, v)] 100 100 (100 + stale) = (if c.noCache then false else if c.must || c.prox || decide (0 ≤ c.sMax) then false else (any || decide (stale ≤ most))) := by
    intro v c hc hz
    rw [serv_eq, stale_age v stale h1, stale_life v hc hz, hc]
    show (if (false || c.noCache) = true then false else servL stale 0 (-1) (-1) most c.sMax c.must c.prox any) = _
    rw [Bool.false_or]
    cases c.noCache with
    | true => rfl
    | false =>
      simp only [Bool.false_eq_true, if_false]
      have hn : ¬ (0 ≤ (-1 : Int) ∧ (-1 : Int) < (stale : Int)) := by omega
      have h0 : ¬ ((stale : Int) < 0) := by omega
      by_cases hq : c.must = true ∨ c.prox = true ∨ 0 ≤ c.sMax
      · rw [servL3 hn h0 (by rcases hq with h | h | h; exact .inl h; exact .inr (.inl h); exact .inr (.inr (.inl h)))]
        rw [if_pos]
        rcases hq with h | h | h <;> simp [h]
      · have q1 : c.must = false := by cases h : c.must; rfl; exact absurd (.inl h) hq
        have q2 : c.prox = false := by cases h : c.prox; rfl; exact absurd (.inr (.inl h)) hq
        have q3 : ¬ 0 ≤ c.sMax := fun h => hq (.inr (.inr h))
        rw [servL4 hn h0 q1 q2 q3 (by decide), q1, q2, decide_eq_false q3]
        rw [decide_eq_true (show (0 : Int) ≤ (most : Int) by omega), show decide ((stale : Int) - 0 ≤ (most : Int)) = decide (stale ≤ most) from decide_eq_decide.2 (by omega)]
        simp
  match K, hK with
  | 0, _ => rw [show staleV 0 = zz0 from rfl, key zz0 _ ctl_zz0 (.inr ⟨rfl, rfl⟩)]; simp
  | 1, _ => rw [show staleV 1 = zz1 from rfl, key zz1 _ ctl_zz1 (.inr ⟨rfl, rfl⟩)]; simp
  | 2, _ => rw [show staleV 2 = zz2 from rfl, key zz2 _ ctl_zz2 (.inr ⟨rfl, rfl⟩)]; simp
  | 3, _ => rw [show staleV 3 = zz3 from rfl, key zz3 _ ctl_zz3 (.inl rfl)]; simp
  | 4, _ => rw [show staleV 4 = zz4 from rfl, key zz4 _ ctl_zz4 (.inr ⟨rfl, rfl⟩)]; simp
  | 5, _ => rw [show staleV 5 = zz5 from rfl, key zz5 _ ctl_zz5 (.inr ⟨rfl, rfl⟩)]; simp
end Go.Proofs.YtaimhfnddolilaaGreatDoor
namespace Go.Proofs.YtaimhfnddolilaaGreatDoor
open Go.RowKit HeadMath HeadS CtrlS DateMath VaryS

theorem four_blocksF (w : World) (o p q r : Obj) : let v := (((w.alloc o).alloc p).alloc q).alloc r
    v.heap[w.heap.size]? = some o ∧ v.heap[w.heap.size + 1]? = some p ∧ v.heap[w.heap.size + 1 + 1]? = some q ∧ v.heap[w.heap.size + 1 + 1 + 1]? = some r ∧ v.heap.size = w.heap.size + 4 ∧ Below w.heap.size w v := by
  intro v
  obtain ⟨a0, a1, a2, a3, a4⟩ := three_newF w o p q
  have z : (((w.alloc o).alloc p).alloc q).heap.size = w.heap.size + 1 + 1 + 1 := by simp
  have e := heap_alloc_new (((w.alloc o).alloc p).alloc q) r
  rw [z] at e
  refine ⟨?_, ?_, ?_, e, by simp [v], below_al a4 _⟩
  · exact (Below.heap_alloc _ _ _ (by simp <;> omega)).trans a0
  · exact (Below.heap_alloc _ _ _ (by simp <;> omega)).trans a1
  · exact (Below.heap_alloc _ _ _ (by simp)).trans a2
/-- A response in memory, its fields, and the tables: what the laws' calls take. -/
structure Told (v : World) (st : Int) (fs : Flf) (fa : Option Addr) (fc : Nat) : Prop where
  tabP : TabP v
  tabS : TabS v
  ins : FieldsIn v.heap.size v fa fs
  few : FewF fs
theorem Told.up {v : World} {st : Int} {fs : Flf} {fa : Option Addr} {fc : Nat} (h : Told v st fs fa fc) {y : World} (hy : Below v.heap.size v y) : Told y st fs fa fc :=
  ⟨h.tabP.up hy, h.tabS.up hy, kin_in (w := v) ⟨y, hy⟩ h.ins, h.few⟩
theorem Told.life {v : World} {st : Int} {fs : Flf} {fa : Option Addr} {fc : Nat} (h : Told v st fs fa fc) {L : Int} (hL : lifeF st fs = L) (rs : ByteArray) (ba : Option Addr) (bn bc : Nat) : ∀ y, Below v.heap.size v y →
    Calls Tryz.prog 11 #[.agg #[.int .i64 st, .string rs, .slice fa fs.length fc, .slice ba bn bc]] y (NumPost L y) := fun y hy => by
  rw [← hL]
  have h' := h.up hy
  exact life_any fs st rs fa ba fc bn bc y h'.tabP h'.tabS h'.ins h'.few
theorem Told.age {v : World} {st : Int} {fs : Flf} {fa : Option Addr} {fc : Nat} (h : Told v st fs fa fc) {asked came now L : Int} (hL : ageF fs asked came now = L) (rs : ByteArray) (ba : Option Addr) (bn bc : Nat) : ∀ y, Below v.heap.size v y →
    Calls Tryz.prog 13 #[.agg #[.int .i64 st, .string rs, .slice fa fs.length fc, .slice ba bn bc], .agg #[.int .i64 asked, .int .i64 came], .int .i64 now] y (NumPost L y) := fun y hy => by
  rw [← hL]
  have h' := h.up hy
  exact age_any fs st asked came now rs fa ba fc bn bc y h'.tabP h'.tabS h'.ins h'.few
theorem Told.serv {v : World} {st : Int} {fs : Flf} {fa : Option Addr} {fc : Nat} (h : Told v st fs fa fc) {q : Ctl} {asked came now : Int} {b : Bool} (hb : servF q st fs asked came now = b) (rs : ByteArray) (ba : Option Addr) (bn bc : Nat) : ∀ y, Below v.heap.size v y →
    Calls Tryz.prog 15 #[ctlV q, .agg #[.int .i64 st, .string rs, .slice fa fs.length fc, .slice ba bn bc], .agg #[.int .i64 asked, .int .i64 came], .int .i64 now] y (BoolPost b y) := fun y hy => by
  rw [← hb]
  have h' := h.up hy
  exact serv_any q fs st asked came now rs fa ba fc bn bc y h'.tabP h'.tabS h'.ins h'.few
theorem one_field (w : World) (n x : ByteArray) : FieldsIn (w.heap.size + 1) (w.alloc (.cells #[.string n, .string x] 43)) (some ⟨w.heap.size, 0, none⟩) [(n, x)] := by
  intro j hj
  obtain rfl : j = 0 := by simpa using hj
  exact ⟨_, 0, rfl, by omega, by simp [go_sem], by simp [go_sem]⟩
set_option maxRecDepth 100000 in
set_option maxHeartbeats 16000000 in
theorem fknown_any (w : World) (h1 : TabP w) (h2 : TabS w) : Calls Tryz.prog 8 #[] w (BoolPost true w) := by
  obtain ⟨v, hv⟩ : ∃ v, (((w.alloc (.cells #[.string ⟨#[67, 97, 99, 104, 101, 45, 67, 111, 110, 116, 114, 111, 108]⟩, .string ⟨#[109, 97, 120, 45, 97, 103, 101, 61, 53]⟩] 43)).alloc (.cells #[.int .i64 200, .string ⟨#[]⟩, .slice (some ⟨w.heap.size, 0, none⟩) 1 1, .slice none 0 0] 25)).alloc (.cells #[.bool false, .bool false, .bool false, .bool false, .bool false, .bool false, .bool false, .bool false, .int .i64 (-1), .int .i64 (-1), .int .i64 (-1), .int .i64 (-1)] 29)).alloc (.cells #[.int .i64 10, .int .i64 12] 27) = v := ⟨_, rfl⟩
  have h4 := four_blocksF w (.cells #[.string ⟨#[67, 97, 99, 104, 101, 45, 67, 111, 110, 116, 114, 111, 108]⟩, .string ⟨#[109, 97, 120, 45, 97, 103, 101, 61, 53]⟩] 43) (.cells #[.int .i64 200, .string ⟨#[]⟩, .slice (some ⟨w.heap.size, 0, none⟩) 1 1, .slice none 0 0] 25) (.cells #[.bool false, .bool false, .bool false, .bool false, .bool false, .bool false, .bool false, .bool false, .int .i64 (-1), .int .i64 (-1), .int .i64 (-1), .int .i64 (-1)] 29) (.cells #[.int .i64 10, .int .i64 12] 27)
  simp only at h4
  rw [hv] at h4
  obtain ⟨g0, g1, g2, g3, hsz, hb⟩ := h4
  have hvs : Spares nowhere w v := Below.spares hb (fun k hk => .inr hk)
  have hin : FieldsIn v.heap.size v (some ⟨w.heap.size, 0, none⟩) [(ccN, vMaxAge5)] := one_at (p := w.heap.size) (f := (ccN, vMaxAge5)) g0
  have told : Told v 200 [(ccN, vMaxAge5)] (some ⟨w.heap.size, 0, none⟩) 1 := ⟨h1.spares hvs (fun h => h), h2.spares hvs (fun h => h), hin, few_lit rfl⟩
  have C1 := Lib.hid (told.life kn_life ⟨#[]⟩ none 0 0)
  have C2 := Lib.hid (told.age (kn_age vMaxAge5 14 (by decide) (by decide)) ⟨#[]⟩ none 0 0)
  have C3 := Lib.hid (told.serv (kn_serv 14 (by decide) (by decide)) ⟨#[]⟩ none 0 0)
  have C4 := Lib.hid (told.serv (kn_serv 15 (by decide) (by decide)) ⟨#[]⟩ none 0 0)
  simp only [show ((14 : Int) - 10) = 4 from rfl, show ((15 : Int) - 10) = 5 from rfl, show decide ((4 : Int) < 5) = true from rfl, show decide ((5 : Int) < 5) = false from rfl, ctlV, ctl0, List.length_cons, List.length_nil] at C1 C2 C3 C4
  have C5 : Hid (∀ y, Calls Tryz.prog 17 #[.int .i64 404] y fun e w' => e = .returned (.bool true) ∧ w' = y) := Lib.hid (fun y => heur_any 404 y)
  have C6 : Hid (∀ y, Calls Tryz.prog 17 #[.int .i64 500] y fun e w' => e = .returned (.bool false) ∧ w' = y) := Lib.hid (fun y => heur_any 500 y)
  unfold NumPost at C1 C2
  unfold BoolPost at C3 C4
  have KR : Hid (∀ y, Below v.heap.size v y → y.heap[w.heap.size + 1]? = some (.cells #[.int .i64 200, .string ⟨#[]⟩, .slice (some ⟨w.heap.size, 0, none⟩) 1 1, .slice none 0 0] 25 (0, 0))) := Lib.hid (fun y hy => (hy.block _ (by omega)).trans g1)
  have KC : Hid (∀ y, Below v.heap.size v y → CtlAt y (w.heap.size + 1 + 1) ⟨false, false, false, false, false, false, false, false, -1, -1, -1, -1⟩) := Lib.hid (fun y hy => (hy.block _ (by omega)).trans g2)
  have KT : Hid (∀ y, Below v.heap.size v y → y.heap[w.heap.size + 1 + 1 + 1]? = some (.cells #[.int .i64 10, .int .i64 12] 27 (0, 0))) := Lib.hid (fun y hy => (hy.block _ (by omega)).trans g3)
  have HB := Lib.hid hb
  have HV := Lib.hid hv
  clear told hin hvs g0 g1 g2 g3 hsz hb hv h1 h2
  unfold BoolPost
  have H0 : Hid (Below v.heap.size v v) := Lib.hid (Below.refl _ _)
  obtain ⟨r0, r1, r2, r3⟩ := four_at (KR.out v H0.out)
  go_enter Tryz.func8, Tryz.ntmps8
  go_upto_region 4 with (fail)
  change Code.wp _ _ _ _ ((((w.alloc (.cells #[.string ⟨#[67, 97, 99, 104, 101, 45, 67, 111, 110, 116, 114, 111, 108]⟩, .string ⟨#[109, 97, 120, 45, 97, 103, 101, 61, 53]⟩] 43)).alloc (.cells #[.int .i64 200, .string ⟨#[]⟩, .slice (some ⟨w.heap.size, 0, none⟩) 1 1, .slice none 0 0] 25)).alloc (.cells #[.bool false, .bool false, .bool false, .bool false, .bool false, .bool false, .bool false, .bool false, .int .i64 (-1), .int .i64 (-1), .int .i64 (-1), .int .i64 (-1)] 29)).alloc (.cells #[.int .i64 10, .int .i64 12] 27))
  rw [HV.out]
  go_wp2_with fail
  refine (C1.out _ H0.out).mono ?_
  rintro e w1 ⟨rfl, hb1⟩
  have H1 := Lib.hid hb1
  clear hb1 r0 r1 r2 r3
  obtain ⟨r0, r1, r2, r3⟩ := four_at (KR.out w1 H1.out)
  obtain ⟨t0, t1⟩ := two_at (KT.out w1 H1.out)
  go_wp2_with fail
  refine (C2.out _ H1.out).mono ?_
  rintro e w2 ⟨rfl, hb2⟩
  have H2 := Lib.hid (H1.out.trans (hb2.mono H1.out.size))
  clear hb2 r0 r1 r2 r3 t0 t1
  obtain ⟨r0, r1, r2, r3⟩ := four_at (KR.out w2 H2.out)
  obtain ⟨t0, t1⟩ := two_at (KT.out w2 H2.out)
  obtain ⟨n0, n1, n2, n3, n4, n5, n6, n7, n8, n9, n10, n11⟩ := ctl_reads (KC.out w2 H2.out)
  go_wp2_with fail
  refine (C3.out _ H2.out).mono ?_
  rintro e w3 ⟨rfl, hb3⟩
  have H3 := Lib.hid (H2.out.trans (hb3.mono H2.out.size))
  clear hb3 r0 r1 r2 r3 t0 t1 n0 n1 n2 n3 n4 n5 n6 n7 n8 n9 n10 n11
  obtain ⟨r0, r1, r2, r3⟩ := four_at (KR.out w3 H3.out)
  obtain ⟨t0, t1⟩ := two_at (KT.out w3 H3.out)
  obtain ⟨n0, n1, n2, n3, n4, n5, n6, n7, n8, n9, n10, n11⟩ := ctl_reads (KC.out w3 H3.out)
  go_wp2_with fail
  refine (C4.out _ H3.out).mono ?_
  rintro e w4 ⟨rfl, hb4⟩
  have H4 := Lib.hid (H3.out.trans (hb4.mono H3.out.size))
  clear hb4 r0 r1 r2 r3 t0 t1 n0 n1 n2 n3 n4 n5 n6 n7 n8 n9 n10 n11
  go_wp2_with fail
  refine (C5.out _).mono ?_
  rintro e w5 ⟨rfl, rfl⟩
  go_wp2_with fail
  refine (C6.out _).mono ?_
  rintro e w6 ⟨rfl, rfl⟩
  go_wp2
  go_ret
  exact ⟨rfl, HB.out.trans (H4.out.mono HB.out.size)⟩
end Go.Proofs.YtaimhfnddolilaaGreatDoor
namespace Go.Proofs.YtaimhfnddolilaaGreatDoor
open Go.RowKit HeadMath HeadS CtrlS DateMath

theorem item_part {x : ByteArray} (h : ItemB x) : PartC x := ⟨h.1, Closed.plain fun c hc => (h.2 c hc).1, item_bare h⟩
/-- Each field's value is one part. -/
theorem parse_gen {fs : Flf} {l : List ByteArray} (ha : allF cacheN fs = l) (hne : l ≠ []) (h : ∀ y ∈ l, ItemB y) : parseF fs = ctlL l := by
  have hl : listF cacheN fs = l := by
    unfold listF
    rw [ha]
    clear ha hne
    induction l with
    | nil => rfl
    | cons x m ih => rw [List.flatMap_cons, parts_one (item_part (h x (by simp))), ih (fun y hy => h y (by simp [hy]))]; rfl
  unfold CtrlS.parseF
  rw [ha, if_neg hne, hl]
theorem parse_none {fs : Flf} (ha : allF cacheN fs = []) : (parseF fs).sMax = -1 ∧ (parseF fs).maxA = -1 ∧ (parseF fs).pub = false := by
  have hl : listF cacheN fs = [] := by unfold listF; rw [ha]; rfl
  unfold CtrlS.parseF
  rw [ha, if_pos rfl, hl]
  exact ⟨rfl, rfl, rfl⟩
theorem all_cons (n a v : ByteArray) (fs : Flf) : allF n ((a, v) :: fs) = if sameF a.data.toList n.data.toList then v :: allF n fs else allF n fs := by
  unfold allF isNamed
  rw [List.filter_cons]
  split <;> rfl
theorem get_cons (n a v : ByteArray) (fs : Flf) : getF n ((a, v) :: fs) = if sameF a.data.toList n.data.toList then some v else getF n fs := by
  unfold getF isNamed
  rw [List.find?_cons]
  cases sameF a.data.toList n.data.toList <;> rfl
theorem get_nil (n : ByteArray) : getF n [] = none := rfl
theorem all_nilF (n : ByteArray) : allF n [] = [] := rfl
theorem dateF_is {n : ByteArray} {fs : Flf} {v : ByteArray} {t : Int} (h : getF n fs = some v) (hv : readF v.data.toList = (t, 0)) : dateF n fs = (t, true) := by
  unfold dateF textG
  rw [h]
  show ((readF v.data.toList).1, (readF v.data.toList).2 == 0) = _
  rw [hv]
  rfl
theorem dateF_bad {n : ByteArray} {fs : Flf} {v : ByteArray} (h : getF n fs = some v) (hv : readF v.data.toList = (0, 80)) : dateF n fs = (0, false) := by
  unfold dateF textG
  rw [h]
  show ((readF v.data.toList).1, (readF v.data.toList).2 == 0) = _
  rw [hv]
  rfl
theorem dateF_none {n : ByteArray} {fs : Flf} (h : getF n fs = none) : dateF n fs = (0, false) := by
  unfold dateF textG
  rw [h]
  show ((readF []).1, (readF []).2 == 0) = _
  rw [read_nil]
  rfl
/-- The text of a time. -/
def textT (t : Int) : ByteArray := arrD (plainT (momOf (clampN t)))
theorem textT_read {t : Int} (h0 : 0 ≤ t) (h1 : t ≤ 253402300799) : readF (textT t).data.toList = (t, 0) := by
  have h := read_text t
  rw [clampN_int] at h
  rw [show min (max t 0) 253402300799 = t by omega] at h
  exact h
theorem textT_size (t : Int) : (textT t).size ≤ 100 := by
  unfold textT
  rw [arrD_size, plain_len (mom_ok _ (clampN_le t))]
  decide
def noughtB : ByteArray := ⟨#[48]⟩
theorem nought_read : readF noughtB.data.toList = (0, 80) := read_other _ (by decide) (by decide) (by decide)
/-- A number's digits as a text. -/
def digB (n : Nat) : ByteArray := ⟨(Lib.decDigits n).toArray⟩
def maxNB : ByteArray := ⟨#[109, 97, 120, 45, 97, 103, 101]⟩
def sMaxNB : ByteArray := ⟨#[115, 45, 109, 97, 120, 97, 103, 101]⟩
theorem numB_nat (n : Nat) (hn : n ≤ 2147483647) (x : ByteArray) : numB (n : Int) x = x ++ ⟨#[61]⟩ ++ digB n := by
  unfold numB digB
  rw [show min (n : Int) 2147483647 = (n : Int) by omega]
  unfold Lib.itoa
  rw [if_neg (by omega)]
  rfl
theorem maxNB_item : ItemB maxNB := item_lit (by decide +kernel)
theorem sMaxNB_item : ItemB sMaxNB := item_lit (by decide +kernel)
theorem say_s (s : Ctl) {n : Int} (h0 : 0 ≤ n) (hn : n ≤ 2147483647) : sayF s (numB n sMaxNB) = { s with sMax := leastF s.sMax n } := by
  unfold sMaxNB
  exact say_sMax s h0 hn
theorem say_m (s : Ctl) {n : Int} (h0 : 0 ≤ n) (hn : n ≤ 2147483647) : sayF s (numB n maxNB) = { s with maxA := leastF s.maxA n } := by
  unfold maxNB
  exact say_maxA s h0 hn
theorem ctl_one (x : ByteArray) : ctlL [x] = sayF ctl0 x := rfl
theorem ctl_two (x y : ByteArray) : ctlL [x, y] = sayF (sayF ctl0 x) y := rfl
theorem same_cc_cc : sameF ccN.data.toList cacheN.data.toList = true := by decide +kernel
/-- What FreshFirst's fields say: a Date, an Expires, and what is said of ages. -/
def firstFs (d e : ByteArray) (m s : Option Nat) : Flf := [(dateN, d), (expN, e)] ++ (match m with | some b => [(ccN, numB (b : Int) maxNB)] | none => []) ++ (match s with | some a => [(ccN, numB (a : Int) sMaxNB)] | none => [])
theorem first_all (d e : ByteArray) (m s : Option Nat) : allF cacheN (firstFs d e m s) = (match m with | some b => [numB (b : Int) maxNB] | none => []) ++ (match s with | some a => [numB (a : Int) sMaxNB] | none => []) := by
  have h1 : sameF dateN.data.toList cacheN.data.toList = false := by decide +kernel
  have h2 : sameF expN.data.toList cacheN.data.toList = false := by decide +kernel
  unfold firstFs
  cases m <;> cases s <;> simp [all_cons, all_nilF, h1, h2, same_cc_cc]
theorem first_get (d e : ByteArray) (m s : Option Nat) : getF dateN (firstFs d e m s) = some d ∧ getF expN (firstFs d e m s) = some e := by
  have h1 : sameF dateN.data.toList dateN.data.toList = true := by decide +kernel
  have h2 : sameF dateN.data.toList expN.data.toList = false := by decide +kernel
  have h3 : sameF expN.data.toList expN.data.toList = true := by decide +kernel
  unfold firstFs
  simp [get_cons, h1, h2, h3]
theorem first_ctl (d e : ByteArray) (m s : Option Nat) (hm : ∀ b ∈ m, b < 256) (hs : ∀ a ∈ s, a < 256) :
    (parseF (firstFs d e m s)).sMax = (match s with | some a => (a : Int) | none => -1) ∧ (parseF (firstFs d e m s)).maxA = (match m with | some b => (b : Int) | none => -1) := by
  have ha := first_all d e m s
  cases m with
  | none =>
    cases s with
    | none =>
      have := parse_none (fs := firstFs d e none none) ha
      exact ⟨this.1, this.2.1⟩
    | some a =>
      have h := hs a rfl
      have hp := parse_gen (l := [numB (a : Int) sMaxNB]) ha (by simp) (by
        intro y hy
        obtain rfl : y = numB (a : Int) sMaxNB := by simpa using hy
        exact item_num (by omega) (by omega) sMaxNB_item)
      rw [hp, ctl_one, say_s ctl0 (n := (a : Int)) (by omega) (by omega)]
      exact ⟨least_new, rfl⟩
  | some b =>
    have h' := hm b rfl
    cases s with
    | none =>
      have hp := parse_gen (l := [numB (b : Int) maxNB]) ha (by simp) (by
        intro y hy
        obtain rfl : y = numB (b : Int) maxNB := by simpa using hy
        exact item_num (by omega) (by omega) maxNB_item)
      rw [hp, ctl_one, say_m ctl0 (n := (b : Int)) (by omega) (by omega)]
      exact ⟨rfl, least_new⟩
    | some a =>
      have h := hs a rfl
      have hp := parse_gen (l := [numB (b : Int) maxNB, numB (a : Int) sMaxNB]) ha (by simp) (by
        intro y hy
        rcases List.mem_cons.1 hy with rfl | hy
        · exact item_num (by omega) (by omega) maxNB_item
        · obtain rfl : y = numB (a : Int) sMaxNB := by simpa using hy
          exact item_num (by omega) (by omega) sMaxNB_item)
      rw [hp, ctl_two, say_m ctl0 (n := (b : Int)) (by omega) (by omega), say_s _ (n := (a : Int)) (by omega) (by omega)]
      exact ⟨least_new, least_new⟩
def firstWant (c : Nat) (bad : Bool) (m s : Option Nat) : Int := match s with | some a => (a : Int) | none => match m with | some b => (b : Int) | none => if bad then 0 else (c : Int)
theorem first_life (c : Nat) (hc : c < 256) (bad : Bool) (m s : Option Nat) (hm : ∀ b ∈ m, b < 256) (hs : ∀ a ∈ s, a < 256) :
    lifeF 200 (firstFs (textT 1000000000) (if bad then noughtB else textT (1000000000 + c)) m s) = firstWant c bad m s := by
  obtain ⟨E, hE⟩ : ∃ E, (if bad then noughtB else textT (1000000000 + c)) = E := ⟨_, rfl⟩
  rw [hE]
  obtain ⟨h1, h2⟩ := first_ctl (textT 1000000000) E m s hm hs
  obtain ⟨g1, g2⟩ := first_get (textT 1000000000) E m s
  have d1 := dateF_is g1 (textT_read (by omega) (by omega))
  unfold lifeF lifeIn
  rw [h1, h2, d1, g2]
  cases s with
  | some a => have := hs a rfl; simp only [firstWant]; rw [if_pos (by omega)]; omega
  | none =>
    cases m with
    | some b => have := hm b rfl; simp only [firstWant]; rw [if_neg (by omega), if_pos (by omega)]; omega
    | none =>
      simp only [firstWant]
      rw [if_neg (by omega), if_neg (by omega)]
      cases bad with
      | true =>
        have d2 := dateF_bad g2 (by rw [← hE]; exact nought_read)
        rw [d2]
        simp
        omega
      | false =>
        have d2 := dateF_is (t := 1000000000 + c) g2 (by rw [← hE]; exact textT_read (by omega) (by omega))
        rw [d2]
        simp
        omega
/-- What FreshHeuristic's fields say. -/
def heurFs (d e : ByteArray) (pub : Bool) : Flf := [(dateN, d), (lastN, e)] ++ (if pub then [(ccN, vPublic)] else [])
theorem heur_ctl (d e : ByteArray) (pub : Bool) : (parseF (heurFs d e pub)).sMax = -1 ∧ (parseF (heurFs d e pub)).maxA = -1 ∧ (parseF (heurFs d e pub)).pub = pub := by
  have h1 : sameF dateN.data.toList cacheN.data.toList = false := by decide +kernel
  have h2 : sameF lastN.data.toList cacheN.data.toList = false := by decide +kernel
  cases pub with
  | false =>
    have ha : allF cacheN (heurFs d e false) = [] := by unfold heurFs; simp [all_cons, all_nilF, h1, h2]
    exact parse_none ha
  | true =>
    have ha : allF cacheN (heurFs d e true) = [vPublic] := by unfold heurFs; simp [all_cons, all_nilF, h1, h2, same_cc_cc]
    rw [parse_gen ha (by simp) (by
      intro y hy
      obtain rfl : y = vPublic := by simpa using hy
      exact item_lit (by decide +kernel))]
    decide +kernel
theorem heur_life (st : Int) (back : Nat) (hb : back < 1000000000) (pub : Bool) :
    lifeF st (heurFs (textT 1000000000) (textT (1000000000 - back)) pub) = if pub || heurF st then min ((back : Int) / 10) 86400 else 0 := by
  obtain ⟨h1, h2, h3⟩ := heur_ctl (textT 1000000000) (textT (1000000000 - back)) pub
  have k1 : sameF dateN.data.toList dateN.data.toList = true := by decide +kernel
  have k2 : sameF dateN.data.toList lastN.data.toList = false := by decide +kernel
  have k3 : sameF lastN.data.toList lastN.data.toList = true := by decide +kernel
  have k4 : sameF dateN.data.toList expN.data.toList = false := by decide +kernel
  have k5 : sameF lastN.data.toList expN.data.toList = false := by decide +kernel
  have k6 : sameF ccN.data.toList expN.data.toList = false := by decide +kernel
  have g1 : getF dateN (heurFs (textT 1000000000) (textT (1000000000 - back)) pub) = some (textT 1000000000) := by unfold heurFs; simp [get_cons, k1]
  have g2 : getF lastN (heurFs (textT 1000000000) (textT (1000000000 - back)) pub) = some (textT (1000000000 - back)) := by unfold heurFs; simp [get_cons, k2, k3]
  have g3 : getF expN (heurFs (textT 1000000000) (textT (1000000000 - back)) pub) = none := by unfold heurFs; cases pub <;> simp [get_cons, get_nil, k4, k5, k6]
  have d1 := dateF_is g1 (textT_read (by omega) (by omega))
  have d2 := dateF_is g2 (textT_read (t := 1000000000 - back) (by omega) (by omega))
  unfold lifeF lifeIn
  rw [h1, h2, h3, d1, d2, g3]
  have e1 : (1000000000 - (1000000000 - (back : Int))).tdiv 10 = (back : Int) / 10 := by rw [Int.tdiv_eq_ediv_of_nonneg (by omega)]; congr 1; omega
  have e2 : (heurF st || pub) = (pub || heurF st) := Bool.or_comm _ _
  rw [if_neg (by omega), if_neg (by omega), e1, e2]
  cases (pub || heurF st) with
  | false =>
    simp
    omega
  | true =>
    simp only [if_true, Bool.and_true]
    simp
    omega
/-- What FreshAges' fields say. -/
def agesFs (life age : Nat) (d : Option ByteArray) : Flf := [(ccN, numB (life : Int) maxNB), (ageN, digB age)] ++ (match d with | some t => [(dateN, t)] | none => [])
theorem ages_ctl (life age : Nat) (hl : life < 256) (d : Option ByteArray) : parseF (agesFs life age d) = { ctl0 with maxA := (life : Int) } := by
  have h1 : sameF dateN.data.toList cacheN.data.toList = false := by decide +kernel
  have h2 : sameF ageN.data.toList cacheN.data.toList = false := by decide +kernel
  have ha : allF cacheN (agesFs life age d) = [numB (life : Int) maxNB] := by unfold agesFs; cases d <;> simp [all_cons, all_nilF, h1, h2, same_cc_cc]
  have hp := parse_gen (l := [numB (life : Int) maxNB]) ha (by simp) (by
    intro y hy
    obtain rfl : y = numB (life : Int) maxNB := by simpa using hy
    exact item_num (by omega) (by omega) maxNB_item)
  rw [hp, ctl_one, say_m ctl0 (n := (life : Int)) (by omega) (by omega)]
  rw [show ctl0.maxA = -1 from rfl, least_new]
theorem ages_age (life age delay later : Nat) (h2 : age < 256) (h3 : delay < 256) (h4 : later < 65536) (dated : Bool) :
    ageF (agesFs life age (if dated then some (textT (1000000000 - 2 * age)) else none)) (1000000000 - delay) 1000000000 (1000000000 + later) = (if dated then max (age + delay : Int) (2 * age) else (age + delay : Int)) + later := by
  have k1 : sameF ccN.data.toList dateN.data.toList = false := by decide +kernel
  have k2 : sameF ageN.data.toList dateN.data.toList = false := by decide +kernel
  have k3 : sameF dateN.data.toList dateN.data.toList = true := by decide +kernel
  have k4 : sameF ccN.data.toList ageN.data.toList = false := by decide +kernel
  have k5 : sameF ageN.data.toList ageN.data.toList = true := by decide +kernel
  have ga : ∀ d, textG ageN (agesFs life age d) = digB age := by intro d; unfold textG agesFs; cases d <;> simp [get_cons, k4, k5]
  have hsec : secF (digB age).data.toList = (age : Int) := sec_digits age (by omega)
  unfold ageF
  rw [ga, hsec]
  cases dated with
  | false =>
    have gd : getF dateN (agesFs life age none) = none := by unfold agesFs; simp [get_cons, get_nil, k1, k2]
    simp only [Bool.false_eq_true, if_false]
    rw [dateF_none gd]
    unfold withinF
    simp only [Bool.false_eq_true, if_false]
    omega
  | true =>
    have gd : getF dateN (agesFs life age (some (textT (1000000000 - 2 * age)))) = some (textT (1000000000 - 2 * age)) := by unfold agesFs; simp [get_cons, k1, k2, k3]
    simp only [if_true]
    rw [dateF_is gd (textT_read (t := 1000000000 - 2 * age) (by omega) (by omega))]
    unfold withinF
    simp only [if_true]
    omega
theorem ages_serv (life age delay later : Nat) (h1 : life < 256) (h2 : age < 256) (h3 : delay < 256) (h4 : later < 65536) (dated : Bool) :
    servF ctl0 200 (agesFs life age (if dated then some (textT (1000000000 - 2 * age)) else none)) (1000000000 - delay) 1000000000 (1000000000 + later) = decide ((if dated then max (age + delay : Int) (2 * age) else (age + delay : Int)) + later < life) := by
  rw [serv_eq, ages_age life age delay later h2 h3 h4 dated]
  have hc := ages_ctl life age h1 (if dated then some (textT (1000000000 - 2 * age)) else none)
  have hl : lifeF 200 (agesFs life age (if dated then some (textT (1000000000 - 2 * age)) else none)) = life := by
    unfold lifeF lifeIn
    rw [hc]
    show min (if 0 ≤ (-1 : Int) then (-1 : Int) else if 0 ≤ (life : Int) then (life : Int) else _) 2147483647 = _
    rw [if_neg (by omega), if_pos (by omega)]
    omega
  rw [hl, hc]
  obtain ⟨F, hF⟩ : ∃ F, (if dated then max (age + delay : Int) (2 * age) else (age + delay : Int)) + later = F := ⟨_, rfl⟩
  rw [hF]
  show servL F life (-1) (-1) (-1) (-1) false false false = _
  by_cases h : F < life
  · rw [servL2 (by omega) h, decide_eq_true h]
    exact decide_eq_true (by omega)
  · rw [servL4 (by omega) h rfl rfl (by decide) (by decide), decide_eq_false h]
    rfl
end Go.Proofs.YtaimhfnddolilaaGreatDoor
namespace Go.Proofs.YtaimhfnddolilaaGreatDoor
open Go.RowKit HeadMath HeadS CtrlS DateMath

def DecPost (n : Nat) (w : World) (e : Ending) (w' : World) : Prop := e = .returned (.string ⟨(Lib.decDigits n).toArray⟩) ∧ w' = w
set_option maxRecDepth 100000 in
set_option maxHeartbeats 4000000 in
theorem digits_any : ∀ (f n : Nat) (w : World), n < f → n ≤ 2147483647 → Calls Tryz.prog 19 #[.int .i64 n] w (DecPost n w) := by
  intro f
  induction f with
  | zero => intro n w h; omega
  | succ f ih =>
    intro n w hf hn
    unfold DecPost
    by_cases h10 : n < 10
    · have HD := Lib.hid (one_digit n h10)
      go_enter Tryz.func19, Tryz.ntmps19
      go_wp2
      go_ret
      exact ⟨by rw [← HD.out]; rfl, rfl⟩
    · have HD : Hid ((⟨(Lib.decDigits (n / 10)).toArray⟩ : ByteArray) ++ ⟨(Lib.decDigits (n % 10)).toArray⟩ = ⟨(Lib.decDigits n).toArray⟩) := Lib.hid (by
        rw [Lib.decDigits_one (show n % 10 < 10 by omega)]
        apply bytes_injC
        rw [ByteArray.data_append, show Lib.decDigits n = Lib.decDigits (n / 10) ++ [UInt8.ofNat (48 + n % 10)] from by rw [Lib.decDigits, dif_neg h10]]
        simp)
      have c1 := fun w => ih (n / 10) w (by omega) (by omega)
      have c2 := fun w => ih (n % 10) w (by omega) (by omega)
      unfold DecPost at c1 c2
      have z1 : (⟨(Lib.decDigits (n / 10)).toArray⟩ : ByteArray).size ≤ 21 := by
        show (Lib.decDigits (n / 10)).toArray.size ≤ 21
        simpa using dec_len (n / 10) (by omega)
      have z2 : (⟨(Lib.decDigits (n % 10)).toArray⟩ : ByteArray).size ≤ 21 := by
        show (Lib.decDigits (n % 10)).toArray.size ≤ 21
        simpa using dec_len (n % 10) (by omega)
      obtain ⟨a, ha⟩ : ∃ a : ByteArray, (⟨(Lib.decDigits (n / 10)).toArray⟩ : ByteArray) = a := ⟨_, rfl⟩
      obtain ⟨b, hb⟩ : ∃ b : ByteArray, (⟨(Lib.decDigits (n % 10)).toArray⟩ : ByteArray) = b := ⟨_, rfl⟩
      simp only [ha] at c1 z1 HD
      simp only [hb] at c2 z2 HD
      clear ih ha hb
      have e1 : (n : Int).tdiv 10 = ((n / 10 : Nat) : Int) := by rw [Int.tdiv_eq_ediv_of_nonneg (by omega)]; omega
      have e2 : (n : Int).tmod 10 = ((n % 10 : Nat) : Int) := by rw [Int.tmod_eq_emod_of_nonneg (by omega)]; omega
      go_enter Tryz.func19, Tryz.ntmps19
      go_wp2_with fail
      refine (c1 w).mono ?_
      rintro e w1 ⟨rfl, rfl⟩
      go_wp2_with fail
      refine (c2 w1).mono ?_
      rintro e w2 ⟨rfl, rfl⟩
      go_wp2
      go_ret
      exact ⟨by rw [← HD.out]; rfl, rfl⟩
end Go.Proofs.YtaimhfnddolilaaGreatDoor
namespace Go.Proofs.YtaimhfnddolilaaGreatDoor
end Go.Proofs.YtaimhfnddolilaaGreatDoor
namespace Go.Proofs.YtaimhfnddolilaaGreatDoor
open Go.RowKit HeadMath HeadS CtrlS VaryS

theorem fields_tail {B : Nat} {w : World} {b off : Nat} {r : ByteArray × ByteArray} {l : Fls} (h : FieldsIn B w (some ⟨b, off, none⟩) (r :: l)) : FieldsIn B w (some ⟨b, off + 2, none⟩) l := by
  intro k hk
  obtain ⟨b', off', e, hB, h0, h1⟩ := h (k + 1) (by simpa using hk)
  injection e with e
  injection e with e1 e2
  subst e1; subst e2
  refine ⟨b, off + 2, rfl, hB, ?_⟩
  rw [show off + (k + 1) * 2 = off + 2 + k * 2 by omega] at h0 h1
  exact ⟨h0, h1⟩
theorem fields_cells {B : Nat} {w : World} {b : Nat} : ∀ {l : Fls} {off : Nat}, FieldsIn B w (some ⟨b, off, none⟩) l → ∀ j u, (fieldCells l)[j]? = some u → w.cell? ⟨b, off + j, none⟩ = some u
  | [], _, _, j, u, hu => by simp [fieldCells] at hu
  | r :: l, off, h, j, u, hu => by
    obtain ⟨b', off', e, hB, h0, h1⟩ := h 0 (by simp)
    injection e with e
    injection e with e1 e2
    subst e1; subst e2
    simp only [Nat.zero_mul, Nat.add_zero, List.getElem_cons_zero] at h0 h1
    match j, hu with
    | 0, hu => injection hu with hu; subst hu; exact h0
    | 1, hu => injection hu with hu; subst hu; exact h1
    | j + 2, hu =>
      have := fields_cells (fields_tail h) j u hu
      rwa [show off + (j + 2) = off + 2 + j by omega]
theorem fieldCells_len2 (l : Fls) : (fieldCells l).length = l.length * 2 := by
  induction l with
  | nil => rfl
  | cons r l ih => unfold fieldCells at ih ⊢; simp only [List.flatMap_cons, List.length_append, List.length_cons, List.length_nil, ih]; omega
theorem add_plainP (b off j : Nat) : (⟨b, off, none⟩ : Addr).add j = ⟨b, off + j, none⟩ := by unfold Addr.add; split <;> simp_all
set_option maxRecDepth 100000 in
/-- append(v, l...), v a row of the call's own. -/
theorem wp_app_fields {o : Oper} {a : Act} {x : World} {K : Act → World → Prop} {Q : Exit → Act → World → Prop} (s u : Operand)
    (ho : o.op = .call { callee := .builtin .append, args := #[s, u], argTypes := #[22, 22] }) (B : Nat) (v : Value) (n : Nat) (xs : List Value) (hs : a.eval s = v) (hown : x.ownsRow B 43 2 v n xs) (hB : B ≤ x.heap.size)
    (ad : Option Addr) (c m : Nat) (l : Fls) (hu : a.eval u = .slice ad m c) (hm : m = l.length) (hin : FieldsIn x.heap.size x ad l) (hnil : ad = none → c = 0) (hlen : n + l.length ≤ 1000)
    (h : ∀ v' w', w'.ownsRow B 43 2 v' (n + m) (xs ++ fieldCells l) → x.grownBy w' v.ownBlock → K (a.put o.dst v') w') : Oper.wp Tryz.prog o a x K Q := by
  subst hm
  obtain ⟨i0, hi, hz0, hz1, hz2⟩ := infoField
  cases ad with
  | none =>
    obtain rfl := hnil rfl
    have hl : l = [] := by
      cases l with
      | nil => rfl
      | cons y l => obtain ⟨_, _, e, _⟩ := hin 0 (by simp); cases e
    subst hl
    have hrun := run_append_owned_none (P := Tryz.prog) (w := x) B 22 o.type 43 i0 2 Tryz.underlying22 hi v n xs hown
    have hx' : a.eval u = .slice none 0 0 := hu
    unfold Oper.wp
    simp [execOp, ho, resolve, invoke, builtin, hs, hx', hrun, Result.andThen]
    exact h _ x (by simpa [fieldCells] using hown) ⟨rfl, rfl, rfl, Nat.le_refl _, fun _ _ _ => rfl⟩
  | some ad =>
    refine wp_append_own x s u 22 ho B 43 i0 _ 2 32 Tryz.underlying22 hi hz0 hz1 hz2 rfl (by decide) v n xs hs hown ad l.length c (fieldCells l) hu (fieldCells_len2 l) ?_ (VaryS.cells_one l) (by unfold maxLen; omega) (by omega) hB fun v' w' h1 h2 _ => h v' w' h1 h2
    intro j y hy
    cases l with
    | nil => simp [fieldCells] at hy
    | cons f l =>
      obtain ⟨b, off, e, _⟩ := hin 0 (by simp)
      injection e with e
      subst e
      rw [add_plainP]
      exact fields_cells hin j y hy
theorem own_fieldsP {x : World} {B : Nat} {v : Value} {l : Fls} {n : Nat} (hn : n = l.length) (h0 : 0 < n) (h : x.ownsRow B 43 2 v n (fieldCells l)) : ∃ g cap, v = .slice (some ⟨g, 0, none⟩) n cap ∧ B ≤ g ∧ g < x.heap.size ∧ FieldsIn x.heap.size x (some ⟨g, 0, none⟩) l := by
  subst hn
  obtain ⟨g, cap, hv, h1, h2⟩ := World.ownsRow.form h h0
  refine ⟨g, cap, hv, h1, h2, fun j hj => ?_⟩
  have ha := fieldCells_at l j hj
  have c1 := h.cells (g := g) (by rw [hv]; rfl) _ _ ha.1
  have c2 := h.cells (g := g) (by rw [hv]; rfl) _ _ ha.2
  rw [add_plainP] at c1 c2
  exact ⟨g, 0, rfl, h2, c1, c2⟩
/-- What stands behind the fields: a response with them isn't kept, nor one to a request with them. -/
structure Words (x : World) (g m cap K : Nat) (X : Fls) : Prop where
  fields : FieldsIn x.heap.size x (some ⟨g, 0, none⟩) X
  lt : g < x.heap.size
  len : X.length = m
  few : FewF X
  mem : wordF K ∈ X
theorem Words.below {x y : World} {g m cap K : Nat} {X : Fls} (h : Words x g m cap K X) (hb : Below x.heap.size x y) : Words y g m cap K X := ⟨kin_in (w := x) ⟨y, hb⟩ h.fields, Nat.lt_of_lt_of_le h.lt hb.size, h.len, h.few, h.mem⟩
end Go.Proofs.YtaimhfnddolilaaGreatDoor
namespace Go.Proofs.YtaimhfnddolilaaGreatDoor
open Go.RowKit HeadMath HeadS CtrlS VaryS

def SmallL (L : Fls) : Prop := ∀ f ∈ L, f.1.size ≤ 1000 ∧ f.2.size ≤ 1000
theorem small_nil : SmallL [] := fun _ h => by cases h
theorem small_app {L M : Fls} (h : SmallL L) (h' : SmallL M) : SmallL (L ++ M) := fun f hf => by
  rcases List.mem_append.1 hf with h1 | h1
  · exact h f h1
  · exact h' f h1
theorem small_one {a b : ByteArray} (ha : a.size ≤ 1000) (hb : b.size ≤ 1000) : SmallL [(a, b)] := fun f hf => by
  obtain rfl : f = (a, b) := by simpa using hf
  exact ⟨ha, hb⟩
theorem small_cons {a b : ByteArray} {L : Fls} (ha : a.size ≤ 1000) (hb : b.size ≤ 1000) (h : SmallL L) : SmallL ((a, b) :: L) := small_app (L := [(a, b)]) (small_one ha hb) h
theorem few_small {L : Fls} (h : SmallL L) (hl : L.length ≤ 100000) : FewF L := few_mem hl (fun f hf => by have := h f hf; omega)
structure Msg (ty : TypeId) (p k : Nat) (x : World) (c0 c1 v bd : Value) (L : Fls) : Prop where
  block : x.heap[p]? = some (.cells #[c0, c1, v, bd] ty (0, 0))
  own : x.ownsRow (p + 1) 43 2 v L.length (fieldCells L)
  len : L.length ≤ k
  small : SmallL L
section
variable {ty : TypeId} {p k : Nat} {x x2 x3 : World} {c0 c1 v bd : Value} {L : Fls}
theorem Msg.lt (h : Msg ty p k x c0 c1 v bd L) : p < x.heap.size := (Array.getElem?_eq_some_iff.1 h.block).1
theorem Msg.below (h : Msg ty p k x c0 c1 v bd L) (hb : Below x.heap.size x x2) : Msg ty p k x2 c0 c1 v bd L := ⟨stood3 hb h.block, ownsRow_below h.own hb, h.len, h.small⟩
theorem Msg.more {j : Nat} (h : Msg ty p k x c0 c1 v bd L) (hj : k ≤ j) : Msg ty p j x c0 c1 v bd L := ⟨h.block, h.own, Nat.le_trans h.len hj, h.small⟩
theorem Msg.grown_block (h : Msg ty p k x c0 c1 v bd L) (hg : x.grownBy x3 v.ownBlock) : x3.heap[p]? = some (.cells #[c0, c1, v, bd] ty (0, 0)) :=
  (hg.block p h.lt (fun e => by have := (World.ownsRow.lt h.own p e.symm).1; omega)).trans h.block
theorem own_set {B q j : Nat} {u : Value} {w : World} {n : Nat} {xs : List Value} (h : w.ownsRow B 43 2 v n xs) (hq : q < B) : (w.setCell ⟨q, j, none⟩ u).ownsRow B 43 2 v n xs := by
  refine ⟨h.1, ?_⟩
  rcases h.2 with h0 | ⟨g, cap, cur, hv, hg, hc, rest⟩
  · exact .inl h0
  · exact .inr ⟨g, cap, cur, hv, hg, by rw [Below.heap_setCell _ _ _ _ (show g ≠ q by omega)]; exact hc, rest⟩
/-- Behind an append of new fields and the store of the row. -/
theorem Msg.next {j : Nat} {new : Fls} {v3 : Value} (h : Msg ty p k x c0 c1 v bd L) (hj : new.length ≤ j) (hs : SmallL new)
    (ho3 : x3.ownsRow (p + 1) 43 2 v3 (L.length + new.length) (fieldCells L ++ fieldCells new)) (hg3 : x.grownBy x3 v.ownBlock) : Msg ty p (k + j) (x3.setCell ⟨p, 2, none⟩ v3) c0 c1 v3 bd (L ++ new) := by
  refine ⟨heap_setCells (g := p) (t := ty) [v3] [c0, c1] [v] [bd] x3 (h.grown_block hg3) rfl, ?_, by rw [List.length_append]; have := h.len; omega, small_app h.small hs⟩
  have e : fieldCells (L ++ new) = fieldCells L ++ fieldCells new := by simp [fieldCells]
  rw [e, List.length_append]
  exact own_set ho3 (Nat.lt_succ_self p)
theorem Msg.body (h : Msg ty p k x c0 c1 v bd L) (b2 : Value) : Msg ty p k (x.setCell ⟨p, 3, none⟩ b2) c0 c1 v b2 L :=
  ⟨heap_setCells (g := p) (t := ty) [b2] [c0, c1, v] [bd] [] x h.block rfl, own_set h.own (Nat.lt_succ_self p), h.len, h.small⟩
theorem Msg.far {v0 : World} {v3 : Value} {j : Nat} (hp : v0.heap.size ≤ p) (hb0 : Below v0.heap.size v0 x) (h : Msg ty p k x c0 c1 v bd L) (hg3 : x.grownBy x3 v.ownBlock) : Below v0.heap.size v0 (x3.setCell ⟨p, j, none⟩ v3) :=
  below_cell (hb0.grown hg3 hb0.size (fun g e => by have := (World.ownsRow.lt h.own g e).1; omega)) hp _
theorem own_sets {B q n : Nat} {v : Value} {xs : List Value} (hq : q < B) : ∀ (l : List Value) (o : Nat) (w : World), w.ownsRow B 43 2 v n xs → (w.setCells q o l).ownsRow B 43 2 v n xs
  | [], _, _, h => h
  | _ :: r, o, _, h => own_sets hq r (o + 1) _ (own_set h hq)
theorem Msg.far_sets {q : Nat} (h : Msg ty p k x c0 c1 v bd L) (hq : q < p) (l : List Value) : Msg ty p k (x.setCells q 0 l) c0 c1 v bd L :=
  ⟨(heap_other q p (by omega) l 0 x).trans h.block, own_sets (by omega) l 0 x h.own, h.len, h.small⟩
/-- The message's fields, as a slice. -/
theorem Msg.slice (h : Msg ty p k x c0 c1 v bd L) : ∃ fa fc, v = .slice fa L.length fc ∧ FieldsIn x.heap.size x fa L := by
  by_cases h0 : L = []
  · subst h0
    rcases h.own.2 with ⟨hv, _⟩ | ⟨g, cap, cur, hv, _⟩
    · exact ⟨none, 0, hv, fun j hj => absurd hj (Nat.not_lt_zero _)⟩
    · exact ⟨_, cap, hv, fun j hj => absurd hj (Nat.not_lt_zero _)⟩
  · obtain ⟨g, cap, hv, _, _, hin⟩ := own_fieldsP rfl (List.length_pos_iff.2 h0) h.own
    exact ⟨_, cap, hv, hin⟩
end
theorem own_in {x : World} {B fc : Nat} {fa : Option Addr} {L : Fls} (h : x.ownsRow B 43 2 (.slice fa L.length fc) L.length (fieldCells L)) : FieldsIn x.heap.size x fa L := by
  by_cases h0 : L = []
  · subst h0
    exact fun j hj => absurd hj (Nat.not_lt_zero _)
  · obtain ⟨g, cap, hv, _, _, hin⟩ := own_fieldsP rfl (List.length_pos_iff.2 h0) h
    injection hv with hv _ _
    subst hv
    exact hin
theorem info_resp : (Tryz.prog.info? 25).map (·.size) = some 4 := by kernel_rfl
/-- append(m.Fields, new...): the step and what it leaves. -/
theorem wp_msg_append {o : Oper} {a : Act} {x x2 : World} {K : Act → World → Prop} {Q : Exit → Act → World → Prop} {ty : TypeId} {p k : Nat} {c0 c1 v bd : Value} {L : Fls} (h : Msg ty p k x2 c0 c1 v bd L) (hk : k ≤ 50) (s u : Operand)
    (ho : o.op = .call { callee := .builtin .append, args := #[s, u], argTypes := #[22, 22] }) (d : Tmp) (hd : o.dst = some d) (hs : a.eval s = v) (ad : Option Addr) (c m : Nat) (new : Fls) (hu : a.eval u = .slice ad m c) (hm : m = new.length) (hin : FieldsIn x2.heap.size x2 ad new) (hnil : ad = none → c = 0) (hl : new.length ≤ 3) (hn : SmallL new) (hx : x = x2)
    (hK : ∀ fa n fc x3, x3.cell? ⟨p, 2, none⟩ = some v → x3.frozen? ⟨p, 2, none⟩ = false → Hid (Msg ty p (k + 3) (x3.setCell ⟨p, 2, none⟩ (.slice fa n fc)) c0 c1 (.slice fa n fc) bd (L ++ new)) → Hid (∀ v0 : World, v0.heap.size ≤ p → Below v0.heap.size v0 x2 → Below v0.heap.size v0 (x3.setCell ⟨p, 2, none⟩ (.slice fa n fc))) → Hid (x2.grownBy x3 v.ownBlock) → K (a.put (some d) (.slice fa n fc)) x3) : Oper.wp Tryz.prog o a x K Q := by
  subst hx
  subst hm
  refine wp_app_fields s u ho (p + 1) v L.length (fieldCells L) hs h.own h.lt ad c new.length new hu rfl hin hnil (by have := h.len; omega) (fun v3 x3 h1 h2 => ?_)
  rw [hd]
  have hb := h.grown_block h2
  have hN := h.next hl hn h1 h2
  obtain ⟨fa, fc, rfl, _⟩ := hN.slice
  exact hK _ _ _ x3 (four_at hb).2.2.1 (heap_frozen hb 2) (Lib.hid hN) (Lib.hid (fun v0 hp hb0 => Msg.far hp hb0 h h2)) (Lib.hid h2)
theorem six_at {w : World} {p : Nat} {a b c d e f : Value} {t : TypeId} (h : w.heap[p]? = some (.cells #[a, b, c, d, e, f] t (0, 0))) : w.cell? ⟨p, 0, none⟩ = some a ∧ w.cell? ⟨p, 1, none⟩ = some b ∧ w.cell? ⟨p, 2, none⟩ = some c ∧ w.cell? ⟨p, 3, none⟩ = some d ∧ w.cell? ⟨p, 4, none⟩ = some e ∧ w.cell? ⟨p, 5, none⟩ = some f := by
  refine ⟨?_, ?_, ?_, ?_, ?_, ?_⟩ <;> (rw [Lib.cell_of_heap h]; rfl)
theorem row_at {w : World} {p : Nat} {l : Fls} (h : w.heap[p]? = some (.cells (fieldCells l).toArray 43 (0, 0))) : FieldsIn w.heap.size w (some ⟨p, 0, none⟩) l := by
  intro j hj
  have ha := fieldCells_at l j hj
  refine ⟨p, 0, rfl, (Array.getElem?_eq_some_iff.1 h).1, ?_, ?_⟩
  · rw [Lib.cell_of_heap h, Nat.zero_add, List.getElem?_toArray]; exact ha.1
  · rw [Lib.cell_of_heap h, Nat.zero_add, List.getElem?_toArray]; exact ha.2
theorem cell_al {x : World} {a : Addr} {u : Value} (h : x.cell? a = some u) (o : Obj) : (x.alloc o).cell? a = some u := (World.cell?_alloc_lt _ _ _ (World.block_lt_of_cell? x a h)).trans h
end Go.Proofs.YtaimhfnddolilaaGreatDoor
namespace Go.Proofs.YtaimhfnddolilaaGreatDoor
open Go.RowKit HeadMath HeadS CtrlS VaryS

theorem two_reqs (w : World) (o p : Obj) : ((w.alloc o).alloc p).heap[w.heap.size]? = some o ∧ ((w.alloc o).alloc p).heap[w.heap.size + 1]? = some p := ⟨stood0 (heap_alloc_new w o), new1 w o p⟩
end Go.Proofs.YtaimhfnddolilaaGreatDoor
namespace Go.Proofs.YtaimhfnddolilaaGreatDoor
open Go.RowKit HeadMath HeadS CtrlS DateMath VaryS

structure Box (p B : Nat) (x : World) (c0 c1 v bd : Value) (L : Flf) : Prop where
  block : x.heap[p]? = some (.cells #[c0, c1, v, bd] 25 (0, 0))
  own : x.ownsRow B 43 2 v L.length (fieldCells L)
  far : v.ownBlock ≠ some p
section
variable {p B : Nat} {x x2 x3 : World} {c0 c1 v bd : Value} {L : Flf}
theorem Box.lt (h : Box p B x c0 c1 v bd L) : p < x.heap.size := (Array.getElem?_eq_some_iff.1 h.block).1
theorem Box.below (h : Box p B x c0 c1 v bd L) (hb : Below x.heap.size x x2) : Box p B x2 c0 c1 v bd L := ⟨stood3 hb h.block, ownsRow_below h.own hb, h.far⟩
theorem own_setF {q j n : Nat} {u : Value} {w : World} {xs : List Value} (h : w.ownsRow B 43 2 v n xs) (hq : v.ownBlock ≠ some q) : (w.setCell ⟨q, j, none⟩ u).ownsRow B 43 2 v n xs := by
  refine ⟨h.1, ?_⟩
  rcases h.2 with h0 | ⟨g, cap, cur, hv, hg, hc, rest⟩
  · exact .inl h0
  · refine .inr ⟨g, cap, cur, hv, hg, ?_, rest⟩
    have hne : g ≠ q := fun e => hq (by rw [hv, e]; rfl)
    rw [Below.heap_setCell _ _ _ _ (show g ≠ q from hne)]
    exact hc
theorem Box.slice (h : Box p B x c0 c1 v bd L) (h0 : L ≠ []) : ∃ fa fc, v = .slice fa L.length fc ∧ FieldsIn x.heap.size x fa L := by
  obtain ⟨g, cap, hv, _, _, hin⟩ := own_fieldsP rfl (List.length_pos_iff.2 h0) h.own
  exact ⟨_, cap, hv, hin⟩
/-- A literal of fields and the box behind it. -/
theorem box_lit {w : World} (L : Flf) (st : Int) (hl : L.length ≤ 100) (hx : ((w.alloc (.cells (fieldCells L).toArray 43)).alloc (.cells #[.int .i64 st, .string ⟨#[]⟩, .slice (some ⟨w.heap.size, 0, none⟩) L.length L.length, .slice none 0 0] 25)) = x) :
    Box (w.heap.size + 1) w.heap.size x (.int .i64 st) (.string ⟨#[]⟩) (.slice (some ⟨w.heap.size, 0, none⟩) L.length L.length) (.slice none 0 0) L ∧ Below w.heap.size w x ∧ x.heap.size = w.heap.size + 2 ∧ x.heap[w.heap.size]? = some (.cells (fieldCells L).toArray 43 (0, 0)) := by
  have h := two_reqs w (.cells (fieldCells L).toArray 43) (.cells #[.int .i64 st, .string ⟨#[]⟩, .slice (some ⟨w.heap.size, 0, none⟩) L.length L.length, .slice none 0 0] 25)
  rw [hx] at h
  have hlen := fieldCells_len2 L
  refine ⟨⟨h.2, ⟨hlen, .inr ⟨w.heap.size, L.length, _, rfl, Nat.le_refl _, h.1, Nat.le_refl _, by unfold maxLen; omega, by simpa using hlen, ?_⟩⟩, ?_⟩, ?_, by rw [← hx]; simp, h.1⟩
  · rw [← hlen]; simp
  · intro e
    simp [Value.ownBlock] at e
  · rw [← hx]
    exact below_al (below_al (Below.refl _ _) _) _
end
theorem wp_box_append {o : Oper} {a : Act} {x x2 : World} {K : Act → World → Prop} {Q : Exit → Act → World → Prop} {p B : Nat} {c0 c1 v bd : Value} {L : Flf} (h : Box p B x2 c0 c1 v bd L) (h0 : L ≠ []) (hL : L.length ≤ 50) (s u : Operand)
    (ho : o.op = .call { callee := .builtin .append, args := #[s, u], argTypes := #[22, 22] }) (d : Tmp) (hd : o.dst = some d) (hs : a.eval s = v) (gd : Nat) (f : ByteArray × ByteArray) (hu : a.eval u = .slice (some ⟨gd, 0, none⟩) 1 1) (hin : x2.heap[gd]? = some (.cells #[.string f.1, .string f.2] 43 (0, 0))) (hx : x = x2)
    (hK : ∀ fa n fc x3, x3.cell? ⟨p, 2, none⟩ = some v → x3.frozen? ⟨p, 2, none⟩ = false → Hid (Box p B (x3.setCell ⟨p, 2, none⟩ (.slice fa n fc)) c0 c1 (.slice fa n fc) bd (L ++ [f])) → Hid (∀ v0 : World, v0.heap.size ≤ p → v0.heap.size ≤ B → Below v0.heap.size v0 x2 → Below v0.heap.size v0 (x3.setCell ⟨p, 2, none⟩ (.slice fa n fc))) → K (a.put (some d) (.slice fa n fc)) x3) : Oper.wp Tryz.prog o a x K Q := by
  subst hx
  obtain ⟨i0, hi, hz0, hz1, hz2⟩ := infoField
  have hB : B ≤ x.heap.size := by
    obtain ⟨g, cap, _, hg1, hg2, _⟩ := own_fieldsP rfl (List.length_pos_iff.2 h0) h.own
    omega
  refine wp_append_lies x s u 22 ho B 43 i0 _ 2 32 Tryz.underlying22 hi hz0 hz1 hz2 rfl (by decide) v L.length (fieldCells L) hs h.own ⟨gd, 0, none⟩ 1 1 (fieldCells [f]) hu rfl ?_ (cells_one [f]) (by decide) (by unfold maxLen; omega) (by omega) hB x.heap.size rfl (fun g cap w' h1 h2 h3 h4 => ?_)
  · intro j y hy
    have e : (⟨gd, 0, none⟩ : Addr).add j = ⟨gd, j, none⟩ := by unfold Addr.add; by_cases h0 : j = 0 <;> simp [h0]
    rw [e, Lib.cell_of_heap hin]
    simpa [fieldCells] using hy
  · rw [hd]
    have hne : v.ownBlock ≠ some p := h.far
    have hb : w'.heap[p]? = some (.cells #[c0, c1, v, bd] 25 (0, 0)) := (h2.block p h.lt (fun e => hne e.symm)).trans h.block
    have hgp : (Value.slice (some ⟨g, 0, none⟩) (L.length + 1) cap).ownBlock ≠ some p := by
      intro e
      have e' : g = p := by simpa [Value.ownBlock] using e
      rcases h3 with h3 | h3
      · rw [e'] at h3; exact hne h3
      · have := h.lt; omega
    have ef : fieldCells (L ++ [f]) = fieldCells L ++ fieldCells [f] := by simp [fieldCells]
    refine hK _ _ _ w' (four_at hb).2.2.1 (heap_frozen hb 2) (Lib.hid ⟨heap_setCells (g := p) (t := 25) [.slice (some ⟨g, 0, none⟩) (L.length + 1) cap] [c0, c1] [v] [bd] w' hb rfl, ?_, hgp⟩) (Lib.hid (fun v0 hp hB0 hb0 => ?_))
    · rw [ef, List.length_append]
      exact own_setF h1 hgp
    · exact below_cell (hb0.grown h2 hb0.size (fun g' e => Nat.le_trans hB0 (World.ownsRow.lt h.own g' e).1)) hp _
end Go.Proofs.YtaimhfnddolilaaGreatDoor
namespace Go.Proofs.YtaimhfnddolilaaGreatDoor
open Go.RowKit HeadMath HeadS CtrlS DateMath VaryS


theorem box_poke {x : World} {D E : ByteArray} {p B : Nat} {c0 c1 bd : Value} (hb : x.heap[B]? = some (.cells (fieldCells [(dateN, D), (expN, E)]).toArray 43 (0, 0))) (hp : x.heap[p]? = some (.cells #[c0, c1, .slice (some ⟨B, 0, none⟩) 2 2, bd] 25 (0, 0))) (hne : B ≠ p) :
    Box p B (x.setCell ⟨B, 3, none⟩ (.string noughtB)) c0 c1 (.slice (some ⟨B, 0, none⟩) 2 2) bd [(dateN, D), (expN, noughtB)] := by
  have h := heap_setCells (g := B) (t := 43) [.string noughtB] [.string dateN, .string D, .string expN] [.string E] [] x hb rfl
  refine ⟨(Below.heap_setCell _ _ _ _ (show p ≠ B from fun e => hne e.symm)).trans hp, ⟨rfl, .inr ⟨B, 2, _, rfl, Nat.le_refl _, h, Nat.le_refl _, by unfold maxLen; omega, rfl, rfl⟩⟩, ?_⟩
  intro e
  exact hne (by simpa [Value.ownBlock] using e)
theorem first_add4 (d e : ByteArray) (b : Nat) : firstFs d e none none ++ [(ccN, numB (b : Int) maxNB)] = firstFs d e (some b) none := rfl
theorem first_add8 (d e : ByteArray) (m : Option Nat) (a : Nat) : firstFs d e m none ++ [(ccN, numB (a : Int) sMaxNB)] = firstFs d e m (some a) := by cases m <;> rfl
theorem digB_size (n : Nat) (h : n ≤ 2147483647) : (digB n).size ≤ 21 := by
  show (Lib.decDigits n).toArray.size ≤ 21
  simpa using dec_len n h
theorem digit_call (n : Nat) (h : n ≤ 2147483647) (x : World) : Calls Tryz.prog 19 #[.int .i64 n] x fun e w' => e = .returned (.string (digB n)) ∧ Below x.heap.size x w' := by
  have c := digits_any (n + 1) n x (by omega) h
  unfold DecPost at c
  exact c.mono fun e w' ⟨he, hw⟩ => ⟨he, by rw [hw]; exact Below.refl _ _⟩
theorem first_len (d e : ByteArray) (m s : Option Nat) : (firstFs d e m s).length ≤ 4 := by unfold firstFs; cases m <;> cases s <;> simp
theorem numB_len (n : Nat) (h : n < 256) (x : ByteArray) (hx : x.size ≤ 20) : (numB (n : Int) x).size ≤ 100 := by
  rw [numB_nat n (by omega)]
  have := digB_size n (by omega)
  rw [ByteArray.size_append, ByteArray.size_append]
  show x.size + 1 + _ ≤ 100
  omega
theorem first_few {d e : ByteArray} {m s : Option Nat} (hd : d.size ≤ 100) (he : e.size ≤ 100) (hm : ∀ b ∈ m, b < 256) (hs : ∀ a ∈ s, a < 256) : FewF (firstFs d e m s) := by
  refine few_mem (by have := first_len d e m s; omega) (fun f hf => ?_)
  unfold firstFs at hf
  rcases List.mem_append.1 hf with hf | hf
  · rcases List.mem_append.1 hf with hf | hf
    · rcases List.mem_cons.1 hf with rfl | hf
      · exact ⟨show dateN.size ≤ 1000000 by decide, show d.size ≤ 1000000 by omega⟩
      · obtain rfl : f = (expN, e) := by simpa using hf
        exact ⟨show expN.size ≤ 1000000 by decide, show e.size ≤ 1000000 by omega⟩
    · cases m with
      | none => cases hf
      | some b =>
        obtain rfl : f = (ccN, numB (b : Int) maxNB) := by simpa using hf
        exact ⟨show ccN.size ≤ 1000000 by decide, by have := numB_len b (hm b rfl) maxNB (by decide); show (numB (b : Int) maxNB).size ≤ _; omega⟩
  · cases s with
    | none => cases hf
    | some a =>
      obtain rfl : f = (ccN, numB (a : Int) sMaxNB) := by simpa using hf
      exact ⟨show ccN.size ≤ 1000000 by decide, by have := numB_len a (hs a rfl) sMaxNB (by decide); show (numB (a : Int) sMaxNB).size ≤ _; omega⟩
def optN (b : Bool) (n : Nat) : Option Nat := if b then some n else none
theorem optN_lt {b : Bool} {n : Nat} (h : n < 256) : ∀ x ∈ optN b n, x < 256 := by
  intro x hx
  unfold optN at hx
  cases b with
  | false => cases hx
  | true => obtain rfl : n = x := by simpa using hx
            exact h
set_option maxRecDepth 100000 in
set_option maxHeartbeats 32000000 in
theorem first_law (a b c has : Nat) (w : World) (ha : a < 256) (hb : b < 256) (hc : c < 256) (hh : has < 256) (h1 : TabP w) (h2 : TabS w) : Calls Tryz.prog 7 #[.int .u8 a, .int .u8 b, .int .u8 c, .int .u8 has] w (BoolPost true w) := by
  obtain ⟨r, hr⟩ : ∃ r, has % 4 = r := ⟨_, rfl⟩
  have hm1 : (has : Int) % 4 = (r : Int) := by omega
  have hm2 : (has : Int).tmod 4 = (r : Int) := by rw [Int.tmod_eq_emod_of_nonneg (by omega)]; omega
  obtain ⟨bad, hbad⟩ : ∃ x, ((r : Int) == 3) = x := ⟨_, rfl⟩
  obtain ⟨b4, hb4⟩ : ∃ x, (bits .and .u8 (has : Int) 4 != 0) = x := ⟨_, rfl⟩
  obtain ⟨b8, hb8⟩ : ∃ x, (bits .and .u8 (has : Int) 8 != 0) = x := ⟨_, rfl⟩
  have wa : IntKind.i64.wrap (a : Int) = (a : Int) := by rw [IntKind.wrap_i64]; omega
  have wb : IntKind.i64.wrap (b : Int) = (b : Int) := by rw [IntKind.wrap_i64]; omega
  have wc0 : IntKind.i64.wrap (c : Int) = (c : Int) := by rw [IntKind.wrap_i64]; omega
  have wk : IntKind.i64.wrap (1000000000 + (c : Int)) = 1000000000 + (c : Int) := by rw [IntKind.wrap_i64]; omega
  have HLIFE := Lib.hid (fun (bad : Bool) (b4 b8 : Bool) => first_life c hc bad (optN b4 b) (optN b8 a) (optN_lt hb) (optN_lt ha))
  have CT : Hid (∀ (t : Int) (x : World), Calls Tryz.prog 20 #[.int .i64 t] x fun e w' => e = .returned (.string (textT t)) ∧ Below x.heap.size x w') := Lib.hid (fun t x => refText_any t x)
  have CB : Hid (∀ x, Calls Tryz.prog 19 #[.int .i64 (IntKind.i64.wrap (b : Int))] x fun e w' => e = .returned (.string (digB b)) ∧ Below x.heap.size x w') := Lib.hid (fun x => by rw [wb]; exact digit_call b (by omega) x)
  have CA : Hid (∀ x, Calls Tryz.prog 19 #[.int .i64 (IntKind.i64.wrap (a : Int))] x fun e w' => e = .returned (.string (digB a)) ∧ Below x.heap.size x w') := Lib.hid (fun x => by rw [wa]; exact digit_call a (by omega) x)
  have CK := Lib.hid (fknown_any w h1 h2)
  unfold BoolPost at CK ⊢
  have z1 := textT_size 1000000000
  have z2 := textT_size (1000000000 + c)
  have s4 : (⟨#[109, 97, 120, 45, 97, 103, 101, 61]⟩ : ByteArray) ++ digB b = numB (b : Int) maxNB := by rw [numB_nat b (by omega)]; rfl
  have s8 : (⟨#[115, 45, 109, 97, 120, 97, 103, 101, 61]⟩ : ByteArray) ++ digB a = numB (a : Int) sMaxNB := by rw [numB_nat a (by omega)]; rfl
  have n4 := numB_len b hb maxNB (by decide)
  have n8 := numB_len a ha sMaxNB (by decide)
  obtain ⟨SB, hSB⟩ : ∃ S, digB b = S := ⟨_, rfl⟩
  obtain ⟨SA, hSA⟩ : ∃ S, digB a = S := ⟨_, rfl⟩
  rw [hSB] at CB s4
  rw [hSA] at CA s8
  rw [← s4] at n4
  rw [← s8] at n8
  obtain ⟨D, hD⟩ : ∃ D, textT 1000000000 = D := ⟨_, rfl⟩
  obtain ⟨E, hE⟩ : ∃ E, textT (1000000000 + c) = E := ⟨_, rfl⟩
  have C1 := Lib.hid (CT.out 1000000000)
  have C2 := Lib.hid (CT.out (1000000000 + c))
  rw [hD] at C1 z1 HLIFE
  rw [hE] at C2 z2 HLIFE
  have HT1 := Lib.hid h1
  have HT2 := Lib.hid h2
  have HFEW : Hid (∀ bad b4 b8 : Bool, FewF (firstFs D (if bad then noughtB else E) (optN b4 b) (optN b8 a))) := Lib.hid (fun bad b4 b8 => first_few z1 (by cases bad; exact z2; show noughtB.size ≤ 100; decide) (optN_lt hb) (optN_lt ha))
  have HS4 := Lib.hid s4
  have HS8 := Lib.hid s8
  have HN4 := Lib.hid n4
  have HN8 := Lib.hid n8
  have HBAD := Lib.hid hbad
  have HB4 := Lib.hid hb4
  have HB8 := Lib.hid hb8
  have HN4S : Hid (¬ (9223372036854775807 < 8 + SB.size)) := Lib.hid (by have := n4; rw [ByteArray.size_append] at this; show ¬ (9223372036854775807 < 8 + SB.size); omega)
  have HN8S : Hid (¬ (9223372036854775807 < 9 + SA.size)) := Lib.hid (by have := n8; rw [ByteArray.size_append] at this; show ¬ (9223372036854775807 < 9 + SA.size); omega)
  have HWA := Lib.hid wa
  have HWB := Lib.hid wb
  clear hr hSA hSB hD hE h1 h2 CT z1 z2 ha hb hc hh s4 s8 n4 n8 hbad wa wb hb4 hb8
  go_enter Tryz.func7, Tryz.ntmps7
  go_wp2_with fail
  refine CK.out.mono ?_
  rintro e w1 ⟨rfl, hb1⟩
  have HB1 := Lib.hid hb1
  clear hb1 CK
  go_wp2_with fail
  refine (C1.out _).mono ?_
  rintro e w2 ⟨rfl, hb2⟩
  have HB2 := Lib.hid (HB1.out.trans (hb2.mono HB1.out.size))
  clear hb2
  go_wp2_with fail
  refine (C2.out _).mono ?_
  rintro e w3 ⟨rfl, hb3⟩
  have HB3 := Lib.hid (HB2.out.trans (hb3.mono HB2.out.size))
  clear hb3 wk
  obtain ⟨x, hx⟩ : ∃ x, ((w3.alloc (.cells #[.string ⟨#[68, 97, 116, 101]⟩, .string D, .string ⟨#[69, 120, 112, 105, 114, 101, 115]⟩, .string E] 43)).alloc (.cells #[.int .i64 200, .string ⟨#[]⟩, .slice (some ⟨w3.heap.size, 0, none⟩) 2 2, .slice none 0 0] 25)) = x := ⟨_, rfl⟩
  have hbox := box_lit (w := w3) [(dateN, D), (expN, E)] 200 (by simp) hx
  have HM := Lib.hid hbox.1
  have HLB := Lib.hid hbox.2.2.2
  have HBW := Lib.hid (HB3.out.trans (hbox.2.1.mono HB3.out.size))
  have HX := Lib.hid hx
  clear hx hbox
  go_upto_if 26 with (fail)
  change Code.wp _ _ _ _ ((w3.alloc (.cells #[.string ⟨#[68, 97, 116, 101]⟩, .string D, .string ⟨#[69, 120, 112, 105, 114, 101, 115]⟩, .string E] 43)).alloc (.cells #[.int .i64 200, .string ⟨#[]⟩, .slice (some ⟨w3.heap.size, 0, none⟩) 2 2, .slice none 0 0] 25))
  rw [HX.out]
  obtain ⟨p, hp⟩ : ∃ p, w3.heap.size + 1 = p := ⟨_, rfl⟩
  obtain ⟨B, hB⟩ : ∃ B, w3.heap.size = B := ⟨_, rfl⟩
  have HPG : Hid (w.heap.size ≤ p ∧ w.heap.size ≤ B ∧ B ≠ p) := Lib.hid (by have := HB3.out.size; omega)
  have HBB : Hid (B ≤ w.heap.size + (B - w.heap.size)) := Lib.hid (by have := HB3.out.size; omega)
  rw [hp, hB] at HM ⊢
  rw [hB] at HLB
  clear hp HX
  have HXS : Hid (B ≤ x.heap.size) := Lib.hid (by have := HM.out.lt; have := (Array.getElem?_eq_some_iff.1 HLB.out).1; omega)
  clear hB HBB
  go_cut [10] (fun s10 wx => s10 = .int .i64 (firstWant c bad none none) ∧ ∃ fa n fc, Hid (Box p B wx (.int .i64 200) (.string ⟨#[]⟩) (.slice fa n fc) (.slice none 0 0) (firstFs D (if bad then noughtB else E) none none)) ∧ Hid (Below w.heap.size w wx) ∧ Hid (B ≤ wx.heap.size))
  case first =>
    have hbd := HBAD.out
    cases bad with
    | false =>
      go_wp2_with fail
      go_meet
      exact ⟨rfl, _, _, _, HM, HBW, HXS⟩
    | true =>
      have kx := (four_at HM.out.block).2.2.1
      have kc : x.cell? ⟨B, 3, none⟩ = some (.string E) := by rw [Lib.cell_of_heap HLB.out]; rfl
      have kf : x.frozen? ⟨B, 3, none⟩ = false := heap_frozen HLB.out 3
      go_wp2_with fail
      go_meet
      exact ⟨rfl, _, _, _, Lib.hid (box_poke HLB.out HM.out.block HPG.out.2.2), Lib.hid (below_cell HBW.out HPG.out.2.1 _), Lib.hid (by simpa using HXS.out)⟩
  case rest =>
    clear HM HBW HLB HXS
    obtain ⟨rfl, fa, n, fc, HM, HBW, HXS⟩ := hcut
    obtain ⟨E2, hE2⟩ : ∃ X, (if bad then noughtB else E) = X := ⟨_, rfl⟩
    rw [hE2] at HM
    have HE2 := Lib.hid hE2
    have HNE : Hid (firstFs D E2 none none ≠ []) := Lib.hid (by unfold firstFs; simp)
    have HLN : Hid ((firstFs D E2 none none).length ≤ 50) := Lib.hid (by have := first_len D E2 none none; omega)
    have hb4 := HB4.out
    clear HXS hE2
    go_upto_if 33 with (fail)
    clear hb4
    go_cut [10] (fun s10 wx => s10 = .int .i64 (firstWant c bad (optN b4 b) none) ∧ ∃ fa n fc, Hid (Box p B wx (.int .i64 200) (.string ⟨#[]⟩) (.slice fa n fc) (.slice none 0 0) (firstFs D E2 (optN b4 b) none)) ∧ Hid (Below w.heap.size w wx))
    case first =>
      cases b4 with
      | false =>
        go_wp2_with fail
        go_meet
        exact ⟨rfl, _, _, _, HM, HBW⟩
      | true =>
        have HDd : Hid (Below w.heap.size w wc.drew) := Lib.hid HBW.out.drew
        have HMd := Lib.hid (HM.out.below ((Below.refl _ _).drew))
        go_upto_region 9 with (fail)
        refine wp_region_held_drew (S := fun _ => True) (by kernel_rfl) trivial (fun hH => ?_)
        obtain ⟨x0, hx0⟩ : ∃ y, wc.drew = y := ⟨_, rfl⟩
        rw [hx0] at HDd HMd ⊢
        clear hx0
        refine wpAnyH_takeTo (i := 0) (d := some 34) (v := .pointer (some ⟨p, 2, none⟩)) rfl rfl (by kernel_rfl) (by kernel_rfl) (by kernel_rfl) (fun _ _ _ h => h) (Or.inl ⟨by rfl, fun x hx => ?_⟩) hH ?_
        · have f0 := hx
          have f1 := HN4S.out
          go_simp
        try simp only [Act.put, List.setIfInBounds_toArray, List.set_cons_zero, List.set_cons_succ]
        refine wpAnyH_takeTo (i := 2) (d := some 36) (v := .int .u8 b) rfl rfl (by kernel_rfl) (by kernel_rfl) (by kernel_rfl) (fun _ _ _ h => h) (Or.inl ⟨by rfl, fun x hx => ?_⟩) hH ?_
        · have f0 := hx
          have f1 := HN4S.out
          go_simp
        try simp only [Act.put, List.setIfInBounds_toArray, List.set_cons_zero, List.set_cons_succ]
        refine wpAnyH_takeTo (i := 3) (d := some 37) (v := .int .i64 (IntKind.i64.wrap (b : Int))) rfl rfl (by kernel_rfl) (by kernel_rfl) (by kernel_rfl) (fun _ _ _ h => h) (Or.inl ⟨by rfl, fun x hx => ?_⟩) hH ?_
        · have f0 := hx
          have f1 := HN4S.out
          go_simp
        try simp only [Act.put, List.setIfInBounds_toArray, List.set_cons_zero, List.set_cons_succ]
        refine wpAnyH_ready (rs := [1, 4]) (by kernel_rfl) (by simp) (AllReadyH.cons rfl (fun K hK => ?_) (AllReadyH.cons rfl (fun K hK => ?_) AllReadyH.nil))
        · rw [if_pos (by rfl)]
          have kx := (four_at HMd.out.block).2.2.1
          go_simp
          clear kx
          refine hK.out _ _ trivial (fun hH => ?_)
          clear hK K
          try simp only [Act.put, List.setIfInBounds_toArray, List.set_cons_zero, List.set_cons_succ]
          refine wpAnyH_ready (rs := [4]) (by kernel_rfl) (by simp) (AllReadyH.cons rfl (fun K hK => ?_) AllReadyH.nil)
          · rw [if_pos (by rfl)]
            go_simp
            go_at_call 19
            refine Calls.mono (CB.out _) ?_
            rintro e z1 ⟨rfl, hbn⟩
            have HMz1 := Lib.hid (HMd.out.below hbn)
            have HDz1 := Lib.hid (HDd.out.trans (hbn.mono HDd.out.size))
            refine hK.out _ _ trivial (fun hH => ?_)
            clear hK K hbn
            try simp only [Act.put, List.setIfInBounds_toArray, List.set_cons_zero, List.set_cons_succ]
            refine wpAnyH_takeTo (i := 5) (d := some 39) (v := .string ((⟨#[109, 97, 120, 45, 97, 103, 101, 61]⟩ : ByteArray) ++ SB)) rfl rfl (by kernel_rfl) (by kernel_rfl) (by kernel_rfl) (fun _ _ _ h => h) (Or.inl ⟨by rfl, fun x hx => ?_⟩) hH ?_
            · have f0 := hx
              have f1 := HN4S.out
              go_simp
            try simp only [Act.put, List.setIfInBounds_toArray, List.set_cons_zero, List.set_cons_succ]
            refine wpAnyH_takeTo (i := 6) (d := some 40) (v := .agg #[.string ⟨#[67, 97, 99, 104, 101, 45, 67, 111, 110, 116, 114, 111, 108]⟩, .string ((⟨#[109, 97, 120, 45, 97, 103, 101, 61]⟩ : ByteArray) ++ SB)]) rfl rfl (by kernel_rfl) (by kernel_rfl) (by kernel_rfl) (fun _ _ _ h => h) (Or.inl ⟨by rfl, fun x hx => ?_⟩) hH ?_
            · have f0 := hx
              have f1 := HN4S.out
              go_simp
            try simp only [Act.put, List.setIfInBounds_toArray, List.set_cons_zero, List.set_cons_succ]
            refine wpAnyH_ready (rs := [7]) (by kernel_rfl) (by simp) (AllReadyH.cons rfl (fun K hK => ?_) AllReadyH.nil)
            · rw [if_pos (by rfl)]
              go_simp
              obtain ⟨z2, hy⟩ : ∃ y, z1.alloc (.cells #[.string ⟨#[67, 97, 99, 104, 101, 45, 67, 111, 110, 116, 114, 111, 108]⟩, .string ((⟨#[109, 97, 120, 45, 97, 103, 101, 61]⟩ : ByteArray) ++ SB)] 43) = y := ⟨_, rfl⟩
              have hbn : Below z1.heap.size z1 z2 := by rw [← hy]; exact below_al (Below.refl _ _) _
              have HMz2 := Lib.hid (HMz1.out.below hbn)
              have HDz2 := Lib.hid (HDz1.out.trans (hbn.mono HDz1.out.size))
              have HFz2 : Hid (z2.heap[z1.heap.size]? = some (.cells #[.string ⟨#[67, 97, 99, 104, 101, 45, 67, 111, 110, 116, 114, 111, 108]⟩, .string ((⟨#[109, 97, 120, 45, 97, 103, 101, 61]⟩ : ByteArray) ++ SB)] 43 (0, 0))) := Lib.hid (by rw [← hy]; exact heap_alloc_new z1 _)
              change K _ (z1.alloc (.cells #[.string ⟨#[67, 97, 99, 104, 101, 45, 67, 111, 110, 116, 114, 111, 108]⟩, .string ((⟨#[109, 97, 120, 45, 97, 103, 101, 61]⟩ : ByteArray) ++ SB)] 43))
              rw [hy]
              refine hK.out _ _ trivial (fun hH => ?_)
              clear hK K hy hbn
              try simp only [Act.put, List.setIfInBounds_toArray, List.set_cons_zero, List.set_cons_succ]
              refine wpAnyH_ready (rs := [8]) (by kernel_rfl) (by simp) (AllReadyH.cons rfl (fun K hK => ?_) AllReadyH.nil)
              · rw [if_pos (by rfl)]
                refine wp_box_append HMz2.out HNE.out HLN.out (.tmp 35) (.tmp 41) rfl 42 rfl rfl (z1.heap.size) (⟨#[67, 97, 99, 104, 101, 45, 67, 111, 110, 116, 114, 111, 108]⟩, ((⟨#[109, 97, 120, 45, 97, 103, 101, 61]⟩ : ByteArray) ++ SB)) rfl HFz2.out rfl ?_
                intro fa2 n2 fc2 x3 s2_ sf HN HF
                refine hK.out _ _ trivial (fun hH => ?_)
                clear hK K
                try simp only [Act.put, List.setIfInBounds_toArray, List.set_cons_zero, List.set_cons_succ]
                refine wpAnyH_takeTo (i := 9) (d := some 43) (v := .pointer (some ⟨p, 2, none⟩)) rfl rfl (by kernel_rfl) (by kernel_rfl) (by kernel_rfl) (fun _ _ _ h => h) (Or.inl ⟨by rfl, fun x hx => ?_⟩) hH ?_
                · have f0 := hx
                  have f1 := HN4S.out
                  go_simp
                try simp only [Act.put, List.setIfInBounds_toArray, List.set_cons_zero, List.set_cons_succ]
                refine wpAnyH_stepTo (i := 10) (d := none) (by kernel_rfl) rfl rfl (by rfl) (fun _ y => y = x3.setCell ⟨p, 2, none⟩ (.slice fa2 n2 fc2)) (fun K hK => ?_) ?_
                · go_simp
                  exact hK (.bool true) _ rfl
                rintro _ _ rfl
                refine ⟨trivial, ?_⟩
                refine wpAnyH_done (by kernel_rfl) ?_ _
                have wb := HWB.out
                go_wp2_with fail
                go_meet
                exact ⟨rfl, fa2, n2, fc2, by have h := HN.out; rw [HS4.out] at h; exact Lib.hid h, Lib.hid (HF.out w HPG.out.1 HPG.out.2.1 HDz2.out)⟩
        · rw [if_pos (by rfl)]
          go_simp
          go_at_call 19
          refine Calls.mono (CB.out _) ?_
          rintro e z4 ⟨rfl, hbn⟩
          have HMz4 := Lib.hid (HMd.out.below hbn)
          have HDz4 := Lib.hid (HDd.out.trans (hbn.mono HDd.out.size))
          refine hK.out _ _ trivial (fun hH => ?_)
          clear hK K hbn
          try simp only [Act.put, List.setIfInBounds_toArray, List.set_cons_zero, List.set_cons_succ]
          refine wpAnyH_takeTo (i := 5) (d := some 39) (v := .string ((⟨#[109, 97, 120, 45, 97, 103, 101, 61]⟩ : ByteArray) ++ SB)) rfl rfl (by kernel_rfl) (by kernel_rfl) (by kernel_rfl) (fun _ _ _ h => h) (Or.inl ⟨by rfl, fun x hx => ?_⟩) hH ?_
          · have f0 := hx
            have f1 := HN4S.out
            go_simp
          try simp only [Act.put, List.setIfInBounds_toArray, List.set_cons_zero, List.set_cons_succ]
          refine wpAnyH_takeTo (i := 6) (d := some 40) (v := .agg #[.string ⟨#[67, 97, 99, 104, 101, 45, 67, 111, 110, 116, 114, 111, 108]⟩, .string ((⟨#[109, 97, 120, 45, 97, 103, 101, 61]⟩ : ByteArray) ++ SB)]) rfl rfl (by kernel_rfl) (by kernel_rfl) (by kernel_rfl) (fun _ _ _ h => h) (Or.inl ⟨by rfl, fun x hx => ?_⟩) hH ?_
          · have f0 := hx
            have f1 := HN4S.out
            go_simp
          try simp only [Act.put, List.setIfInBounds_toArray, List.set_cons_zero, List.set_cons_succ]
          refine wpAnyH_ready (rs := [1, 7]) (by kernel_rfl) (by simp) (AllReadyH.cons rfl (fun K hK => ?_) (AllReadyH.cons rfl (fun K hK => ?_) AllReadyH.nil))
          · rw [if_pos (by rfl)]
            have kx := (four_at HMz4.out.block).2.2.1
            go_simp
            clear kx
            refine hK.out _ _ trivial (fun hH => ?_)
            clear hK K
            try simp only [Act.put, List.setIfInBounds_toArray, List.set_cons_zero, List.set_cons_succ]
            refine wpAnyH_ready (rs := [7]) (by kernel_rfl) (by simp) (AllReadyH.cons rfl (fun K hK => ?_) AllReadyH.nil)
            · rw [if_pos (by rfl)]
              go_simp
              obtain ⟨z5, hy⟩ : ∃ y, z4.alloc (.cells #[.string ⟨#[67, 97, 99, 104, 101, 45, 67, 111, 110, 116, 114, 111, 108]⟩, .string ((⟨#[109, 97, 120, 45, 97, 103, 101, 61]⟩ : ByteArray) ++ SB)] 43) = y := ⟨_, rfl⟩
              have hbn : Below z4.heap.size z4 z5 := by rw [← hy]; exact below_al (Below.refl _ _) _
              have HMz5 := Lib.hid (HMz4.out.below hbn)
              have HDz5 := Lib.hid (HDz4.out.trans (hbn.mono HDz4.out.size))
              have HFz5 : Hid (z5.heap[z4.heap.size]? = some (.cells #[.string ⟨#[67, 97, 99, 104, 101, 45, 67, 111, 110, 116, 114, 111, 108]⟩, .string ((⟨#[109, 97, 120, 45, 97, 103, 101, 61]⟩ : ByteArray) ++ SB)] 43 (0, 0))) := Lib.hid (by rw [← hy]; exact heap_alloc_new z4 _)
              change K _ (z4.alloc (.cells #[.string ⟨#[67, 97, 99, 104, 101, 45, 67, 111, 110, 116, 114, 111, 108]⟩, .string ((⟨#[109, 97, 120, 45, 97, 103, 101, 61]⟩ : ByteArray) ++ SB)] 43))
              rw [hy]
              refine hK.out _ _ trivial (fun hH => ?_)
              clear hK K hy hbn
              try simp only [Act.put, List.setIfInBounds_toArray, List.set_cons_zero, List.set_cons_succ]
              refine wpAnyH_ready (rs := [8]) (by kernel_rfl) (by simp) (AllReadyH.cons rfl (fun K hK => ?_) AllReadyH.nil)
              · rw [if_pos (by rfl)]
                refine wp_box_append HMz5.out HNE.out HLN.out (.tmp 35) (.tmp 41) rfl 42 rfl rfl (z4.heap.size) (⟨#[67, 97, 99, 104, 101, 45, 67, 111, 110, 116, 114, 111, 108]⟩, ((⟨#[109, 97, 120, 45, 97, 103, 101, 61]⟩ : ByteArray) ++ SB)) rfl HFz5.out rfl ?_
                intro fa2 n2 fc2 x3 s2_ sf HN HF
                refine hK.out _ _ trivial (fun hH => ?_)
                clear hK K
                try simp only [Act.put, List.setIfInBounds_toArray, List.set_cons_zero, List.set_cons_succ]
                refine wpAnyH_takeTo (i := 9) (d := some 43) (v := .pointer (some ⟨p, 2, none⟩)) rfl rfl (by kernel_rfl) (by kernel_rfl) (by kernel_rfl) (fun _ _ _ h => h) (Or.inl ⟨by rfl, fun x hx => ?_⟩) hH ?_
                · have f0 := hx
                  have f1 := HN4S.out
                  go_simp
                try simp only [Act.put, List.setIfInBounds_toArray, List.set_cons_zero, List.set_cons_succ]
                refine wpAnyH_stepTo (i := 10) (d := none) (by kernel_rfl) rfl rfl (by rfl) (fun _ y => y = x3.setCell ⟨p, 2, none⟩ (.slice fa2 n2 fc2)) (fun K hK => ?_) ?_
                · go_simp
                  exact hK (.bool true) _ rfl
                rintro _ _ rfl
                refine ⟨trivial, ?_⟩
                refine wpAnyH_done (by kernel_rfl) ?_ _
                have wb := HWB.out
                go_wp2_with fail
                go_meet
                exact ⟨rfl, fa2, n2, fc2, by have h := HN.out; rw [HS4.out] at h; exact Lib.hid h, Lib.hid (HF.out w HPG.out.1 HPG.out.2.1 HDz5.out)⟩
          · rw [if_pos (by rfl)]
            go_simp
            obtain ⟨z7, hy⟩ : ∃ y, z4.alloc (.cells #[.string ⟨#[67, 97, 99, 104, 101, 45, 67, 111, 110, 116, 114, 111, 108]⟩, .string ((⟨#[109, 97, 120, 45, 97, 103, 101, 61]⟩ : ByteArray) ++ SB)] 43) = y := ⟨_, rfl⟩
            have hbn : Below z4.heap.size z4 z7 := by rw [← hy]; exact below_al (Below.refl _ _) _
            have HMz7 := Lib.hid (HMz4.out.below hbn)
            have HDz7 := Lib.hid (HDz4.out.trans (hbn.mono HDz4.out.size))
            have HFz7 : Hid (z7.heap[z4.heap.size]? = some (.cells #[.string ⟨#[67, 97, 99, 104, 101, 45, 67, 111, 110, 116, 114, 111, 108]⟩, .string ((⟨#[109, 97, 120, 45, 97, 103, 101, 61]⟩ : ByteArray) ++ SB)] 43 (0, 0))) := Lib.hid (by rw [← hy]; exact heap_alloc_new z4 _)
            change K _ (z4.alloc (.cells #[.string ⟨#[67, 97, 99, 104, 101, 45, 67, 111, 110, 116, 114, 111, 108]⟩, .string ((⟨#[109, 97, 120, 45, 97, 103, 101, 61]⟩ : ByteArray) ++ SB)] 43))
            rw [hy]
            refine hK.out _ _ trivial (fun hH => ?_)
            clear hK K hy hbn
            try simp only [Act.put, List.setIfInBounds_toArray, List.set_cons_zero, List.set_cons_succ]
            refine wpAnyH_ready (rs := [1]) (by kernel_rfl) (by simp) (AllReadyH.cons rfl (fun K hK => ?_) AllReadyH.nil)
            · rw [if_pos (by rfl)]
              have kx := (four_at HMz7.out.block).2.2.1
              go_simp
              clear kx
              refine hK.out _ _ trivial (fun hH => ?_)
              clear hK K
              try simp only [Act.put, List.setIfInBounds_toArray, List.set_cons_zero, List.set_cons_succ]
              refine wpAnyH_ready (rs := [8]) (by kernel_rfl) (by simp) (AllReadyH.cons rfl (fun K hK => ?_) AllReadyH.nil)
              · rw [if_pos (by rfl)]
                refine wp_box_append HMz7.out HNE.out HLN.out (.tmp 35) (.tmp 41) rfl 42 rfl rfl (z4.heap.size) (⟨#[67, 97, 99, 104, 101, 45, 67, 111, 110, 116, 114, 111, 108]⟩, ((⟨#[109, 97, 120, 45, 97, 103, 101, 61]⟩ : ByteArray) ++ SB)) rfl HFz7.out rfl ?_
                intro fa2 n2 fc2 x3 s2_ sf HN HF
                refine hK.out _ _ trivial (fun hH => ?_)
                clear hK K
                try simp only [Act.put, List.setIfInBounds_toArray, List.set_cons_zero, List.set_cons_succ]
                refine wpAnyH_takeTo (i := 9) (d := some 43) (v := .pointer (some ⟨p, 2, none⟩)) rfl rfl (by kernel_rfl) (by kernel_rfl) (by kernel_rfl) (fun _ _ _ h => h) (Or.inl ⟨by rfl, fun x hx => ?_⟩) hH ?_
                · have f0 := hx
                  have f1 := HN4S.out
                  go_simp
                try simp only [Act.put, List.setIfInBounds_toArray, List.set_cons_zero, List.set_cons_succ]
                refine wpAnyH_stepTo (i := 10) (d := none) (by kernel_rfl) rfl rfl (by rfl) (fun _ y => y = x3.setCell ⟨p, 2, none⟩ (.slice fa2 n2 fc2)) (fun K hK => ?_) ?_
                · go_simp
                  exact hK (.bool true) _ rfl
                rintro _ _ rfl
                refine ⟨trivial, ?_⟩
                refine wpAnyH_done (by kernel_rfl) ?_ _
                have wb := HWB.out
                go_wp2_with fail
                go_meet
                exact ⟨rfl, fa2, n2, fc2, by have h := HN.out; rw [HS4.out] at h; exact Lib.hid h, Lib.hid (HF.out w HPG.out.1 HPG.out.2.1 HDz7.out)⟩
    case rest =>
      clear HM HBW HNE HLN
      obtain ⟨rfl, fa, n, fc, HM, HBW⟩ := hcut
      have HNE : Hid (firstFs D E2 (optN b4 b) none ≠ []) := Lib.hid (by unfold firstFs; simp)
      have HLN : Hid ((firstFs D E2 (optN b4 b) none).length ≤ 50) := Lib.hid (by have := first_len D E2 (optN b4 b) none; omega)
      have hb8 := HB8.out
      go_upto_if 48 with (fail)
      clear hb8
      go_cut [10] (fun s10 wx => s10 = .int .i64 (firstWant c bad (optN b4 b) (optN b8 a)) ∧ ∃ fa n fc, Hid (Box p B wx (.int .i64 200) (.string ⟨#[]⟩) (.slice fa n fc) (.slice none 0 0) (firstFs D E2 (optN b4 b) (optN b8 a))) ∧ Hid (Below w.heap.size w wx))
      case first =>
        cases b8 with
        | false =>
          go_wp2_with fail
          go_meet
          exact ⟨rfl, _, _, _, HM, HBW⟩
        | true =>
          have HDd : Hid (Below w.heap.size w wc.drew) := Lib.hid HBW.out.drew
          have HMd := Lib.hid (HM.out.below ((Below.refl _ _).drew))
          go_upto_region 12 with (fail)
          refine wp_region_held_drew (S := fun _ => True) (by kernel_rfl) trivial (fun hH => ?_)
          obtain ⟨x0, hx0⟩ : ∃ y, wc.drew = y := ⟨_, rfl⟩
          rw [hx0] at HDd HMd ⊢
          clear hx0
          refine wpAnyH_takeTo (i := 0) (d := some 49) (v := .pointer (some ⟨p, 2, none⟩)) rfl rfl (by kernel_rfl) (by kernel_rfl) (by kernel_rfl) (fun _ _ _ h => h) (Or.inl ⟨by rfl, fun x hx => ?_⟩) hH ?_
          · have f0 := hx
            have f1 := HN8S.out
            go_simp
          try simp only [Act.put, List.setIfInBounds_toArray, List.set_cons_zero, List.set_cons_succ]
          refine wpAnyH_takeTo (i := 2) (d := some 51) (v := .int .u8 a) rfl rfl (by kernel_rfl) (by kernel_rfl) (by kernel_rfl) (fun _ _ _ h => h) (Or.inl ⟨by rfl, fun x hx => ?_⟩) hH ?_
          · have f0 := hx
            have f1 := HN8S.out
            go_simp
          try simp only [Act.put, List.setIfInBounds_toArray, List.set_cons_zero, List.set_cons_succ]
          refine wpAnyH_takeTo (i := 3) (d := some 52) (v := .int .i64 (IntKind.i64.wrap (a : Int))) rfl rfl (by kernel_rfl) (by kernel_rfl) (by kernel_rfl) (fun _ _ _ h => h) (Or.inl ⟨by rfl, fun x hx => ?_⟩) hH ?_
          · have f0 := hx
            have f1 := HN8S.out
            go_simp
          try simp only [Act.put, List.setIfInBounds_toArray, List.set_cons_zero, List.set_cons_succ]
          refine wpAnyH_ready (rs := [1, 4]) (by kernel_rfl) (by simp) (AllReadyH.cons rfl (fun K hK => ?_) (AllReadyH.cons rfl (fun K hK => ?_) AllReadyH.nil))
          · rw [if_pos (by rfl)]
            have kx := (four_at HMd.out.block).2.2.1
            go_simp
            clear kx
            refine hK.out _ _ trivial (fun hH => ?_)
            clear hK K
            try simp only [Act.put, List.setIfInBounds_toArray, List.set_cons_zero, List.set_cons_succ]
            refine wpAnyH_ready (rs := [4]) (by kernel_rfl) (by simp) (AllReadyH.cons rfl (fun K hK => ?_) AllReadyH.nil)
            · rw [if_pos (by rfl)]
              go_simp
              go_at_call 19
              refine Calls.mono (CA.out _) ?_
              rintro e z9 ⟨rfl, hbn⟩
              have HMz9 := Lib.hid (HMd.out.below hbn)
              have HDz9 := Lib.hid (HDd.out.trans (hbn.mono HDd.out.size))
              refine hK.out _ _ trivial (fun hH => ?_)
              clear hK K hbn
              try simp only [Act.put, List.setIfInBounds_toArray, List.set_cons_zero, List.set_cons_succ]
              refine wpAnyH_takeTo (i := 5) (d := some 54) (v := .string ((⟨#[115, 45, 109, 97, 120, 97, 103, 101, 61]⟩ : ByteArray) ++ SA)) rfl rfl (by kernel_rfl) (by kernel_rfl) (by kernel_rfl) (fun _ _ _ h => h) (Or.inl ⟨by rfl, fun x hx => ?_⟩) hH ?_
              · have f0 := hx
                have f1 := HN8S.out
                go_simp
              try simp only [Act.put, List.setIfInBounds_toArray, List.set_cons_zero, List.set_cons_succ]
              refine wpAnyH_takeTo (i := 6) (d := some 55) (v := .agg #[.string ⟨#[67, 97, 99, 104, 101, 45, 67, 111, 110, 116, 114, 111, 108]⟩, .string ((⟨#[115, 45, 109, 97, 120, 97, 103, 101, 61]⟩ : ByteArray) ++ SA)]) rfl rfl (by kernel_rfl) (by kernel_rfl) (by kernel_rfl) (fun _ _ _ h => h) (Or.inl ⟨by rfl, fun x hx => ?_⟩) hH ?_
              · have f0 := hx
                have f1 := HN8S.out
                go_simp
              try simp only [Act.put, List.setIfInBounds_toArray, List.set_cons_zero, List.set_cons_succ]
              refine wpAnyH_ready (rs := [7]) (by kernel_rfl) (by simp) (AllReadyH.cons rfl (fun K hK => ?_) AllReadyH.nil)
              · rw [if_pos (by rfl)]
                go_simp
                obtain ⟨z10, hy⟩ : ∃ y, z9.alloc (.cells #[.string ⟨#[67, 97, 99, 104, 101, 45, 67, 111, 110, 116, 114, 111, 108]⟩, .string ((⟨#[115, 45, 109, 97, 120, 97, 103, 101, 61]⟩ : ByteArray) ++ SA)] 43) = y := ⟨_, rfl⟩
                have hbn : Below z9.heap.size z9 z10 := by rw [← hy]; exact below_al (Below.refl _ _) _
                have HMz10 := Lib.hid (HMz9.out.below hbn)
                have HDz10 := Lib.hid (HDz9.out.trans (hbn.mono HDz9.out.size))
                have HFz10 : Hid (z10.heap[z9.heap.size]? = some (.cells #[.string ⟨#[67, 97, 99, 104, 101, 45, 67, 111, 110, 116, 114, 111, 108]⟩, .string ((⟨#[115, 45, 109, 97, 120, 97, 103, 101, 61]⟩ : ByteArray) ++ SA)] 43 (0, 0))) := Lib.hid (by rw [← hy]; exact heap_alloc_new z9 _)
                change K _ (z9.alloc (.cells #[.string ⟨#[67, 97, 99, 104, 101, 45, 67, 111, 110, 116, 114, 111, 108]⟩, .string ((⟨#[115, 45, 109, 97, 120, 97, 103, 101, 61]⟩ : ByteArray) ++ SA)] 43))
                rw [hy]
                refine hK.out _ _ trivial (fun hH => ?_)
                clear hK K hy hbn
                try simp only [Act.put, List.setIfInBounds_toArray, List.set_cons_zero, List.set_cons_succ]
                refine wpAnyH_ready (rs := [8]) (by kernel_rfl) (by simp) (AllReadyH.cons rfl (fun K hK => ?_) AllReadyH.nil)
                · rw [if_pos (by rfl)]
                  refine wp_box_append HMz10.out HNE.out HLN.out (.tmp 50) (.tmp 56) rfl 57 rfl rfl (z9.heap.size) (⟨#[67, 97, 99, 104, 101, 45, 67, 111, 110, 116, 114, 111, 108]⟩, ((⟨#[115, 45, 109, 97, 120, 97, 103, 101, 61]⟩ : ByteArray) ++ SA)) rfl HFz10.out rfl ?_
                  intro fa2 n2 fc2 x3 s2_ sf HN HF
                  refine hK.out _ _ trivial (fun hH => ?_)
                  clear hK K
                  try simp only [Act.put, List.setIfInBounds_toArray, List.set_cons_zero, List.set_cons_succ]
                  refine wpAnyH_takeTo (i := 9) (d := some 58) (v := .pointer (some ⟨p, 2, none⟩)) rfl rfl (by kernel_rfl) (by kernel_rfl) (by kernel_rfl) (fun _ _ _ h => h) (Or.inl ⟨by rfl, fun x hx => ?_⟩) hH ?_
                  · have f0 := hx
                    have f1 := HN8S.out
                    go_simp
                  try simp only [Act.put, List.setIfInBounds_toArray, List.set_cons_zero, List.set_cons_succ]
                  refine wpAnyH_stepTo (i := 10) (d := none) (by kernel_rfl) rfl rfl (by rfl) (fun _ y => y = x3.setCell ⟨p, 2, none⟩ (.slice fa2 n2 fc2)) (fun K hK => ?_) ?_
                  · go_simp
                    exact hK (.bool true) _ rfl
                  rintro _ _ rfl
                  refine ⟨trivial, ?_⟩
                  refine wpAnyH_done (by kernel_rfl) ?_ _
                  have wb := HWA.out
                  go_wp2_with fail
                  go_meet
                  exact ⟨rfl, fa2, n2, fc2, by have h := HN.out; rw [HS8.out] at h; have e := first_add8 D E2 (optN b4 b) a; exact Lib.hid (e ▸ h), Lib.hid (HF.out w HPG.out.1 HPG.out.2.1 HDz10.out)⟩
          · rw [if_pos (by rfl)]
            go_simp
            go_at_call 19
            refine Calls.mono (CA.out _) ?_
            rintro e z12 ⟨rfl, hbn⟩
            have HMz12 := Lib.hid (HMd.out.below hbn)
            have HDz12 := Lib.hid (HDd.out.trans (hbn.mono HDd.out.size))
            refine hK.out _ _ trivial (fun hH => ?_)
            clear hK K hbn
            try simp only [Act.put, List.setIfInBounds_toArray, List.set_cons_zero, List.set_cons_succ]
            refine wpAnyH_takeTo (i := 5) (d := some 54) (v := .string ((⟨#[115, 45, 109, 97, 120, 97, 103, 101, 61]⟩ : ByteArray) ++ SA)) rfl rfl (by kernel_rfl) (by kernel_rfl) (by kernel_rfl) (fun _ _ _ h => h) (Or.inl ⟨by rfl, fun x hx => ?_⟩) hH ?_
            · have f0 := hx
              have f1 := HN8S.out
              go_simp
            try simp only [Act.put, List.setIfInBounds_toArray, List.set_cons_zero, List.set_cons_succ]
            refine wpAnyH_takeTo (i := 6) (d := some 55) (v := .agg #[.string ⟨#[67, 97, 99, 104, 101, 45, 67, 111, 110, 116, 114, 111, 108]⟩, .string ((⟨#[115, 45, 109, 97, 120, 97, 103, 101, 61]⟩ : ByteArray) ++ SA)]) rfl rfl (by kernel_rfl) (by kernel_rfl) (by kernel_rfl) (fun _ _ _ h => h) (Or.inl ⟨by rfl, fun x hx => ?_⟩) hH ?_
            · have f0 := hx
              have f1 := HN8S.out
              go_simp
            try simp only [Act.put, List.setIfInBounds_toArray, List.set_cons_zero, List.set_cons_succ]
            refine wpAnyH_ready (rs := [1, 7]) (by kernel_rfl) (by simp) (AllReadyH.cons rfl (fun K hK => ?_) (AllReadyH.cons rfl (fun K hK => ?_) AllReadyH.nil))
            · rw [if_pos (by rfl)]
              have kx := (four_at HMz12.out.block).2.2.1
              go_simp
              clear kx
              refine hK.out _ _ trivial (fun hH => ?_)
              clear hK K
              try simp only [Act.put, List.setIfInBounds_toArray, List.set_cons_zero, List.set_cons_succ]
              refine wpAnyH_ready (rs := [7]) (by kernel_rfl) (by simp) (AllReadyH.cons rfl (fun K hK => ?_) AllReadyH.nil)
              · rw [if_pos (by rfl)]
                go_simp
                obtain ⟨z13, hy⟩ : ∃ y, z12.alloc (.cells #[.string ⟨#[67, 97, 99, 104, 101, 45, 67, 111, 110, 116, 114, 111, 108]⟩, .string ((⟨#[115, 45, 109, 97, 120, 97, 103, 101, 61]⟩ : ByteArray) ++ SA)] 43) = y := ⟨_, rfl⟩
                have hbn : Below z12.heap.size z12 z13 := by rw [← hy]; exact below_al (Below.refl _ _) _
                have HMz13 := Lib.hid (HMz12.out.below hbn)
                have HDz13 := Lib.hid (HDz12.out.trans (hbn.mono HDz12.out.size))
                have HFz13 : Hid (z13.heap[z12.heap.size]? = some (.cells #[.string ⟨#[67, 97, 99, 104, 101, 45, 67, 111, 110, 116, 114, 111, 108]⟩, .string ((⟨#[115, 45, 109, 97, 120, 97, 103, 101, 61]⟩ : ByteArray) ++ SA)] 43 (0, 0))) := Lib.hid (by rw [← hy]; exact heap_alloc_new z12 _)
                change K _ (z12.alloc (.cells #[.string ⟨#[67, 97, 99, 104, 101, 45, 67, 111, 110, 116, 114, 111, 108]⟩, .string ((⟨#[115, 45, 109, 97, 120, 97, 103, 101, 61]⟩ : ByteArray) ++ SA)] 43))
                rw [hy]
                refine hK.out _ _ trivial (fun hH => ?_)
                clear hK K hy hbn
                try simp only [Act.put, List.setIfInBounds_toArray, List.set_cons_zero, List.set_cons_succ]
                refine wpAnyH_ready (rs := [8]) (by kernel_rfl) (by simp) (AllReadyH.cons rfl (fun K hK => ?_) AllReadyH.nil)
                · rw [if_pos (by rfl)]
                  refine wp_box_append HMz13.out HNE.out HLN.out (.tmp 50) (.tmp 56) rfl 57 rfl rfl (z12.heap.size) (⟨#[67, 97, 99, 104, 101, 45, 67, 111, 110, 116, 114, 111, 108]⟩, ((⟨#[115, 45, 109, 97, 120, 97, 103, 101, 61]⟩ : ByteArray) ++ SA)) rfl HFz13.out rfl ?_
                  intro fa2 n2 fc2 x3 s2_ sf HN HF
                  refine hK.out _ _ trivial (fun hH => ?_)
                  clear hK K
                  try simp only [Act.put, List.setIfInBounds_toArray, List.set_cons_zero, List.set_cons_succ]
                  refine wpAnyH_takeTo (i := 9) (d := some 58) (v := .pointer (some ⟨p, 2, none⟩)) rfl rfl (by kernel_rfl) (by kernel_rfl) (by kernel_rfl) (fun _ _ _ h => h) (Or.inl ⟨by rfl, fun x hx => ?_⟩) hH ?_
                  · have f0 := hx
                    have f1 := HN8S.out
                    go_simp
                  try simp only [Act.put, List.setIfInBounds_toArray, List.set_cons_zero, List.set_cons_succ]
                  refine wpAnyH_stepTo (i := 10) (d := none) (by kernel_rfl) rfl rfl (by rfl) (fun _ y => y = x3.setCell ⟨p, 2, none⟩ (.slice fa2 n2 fc2)) (fun K hK => ?_) ?_
                  · go_simp
                    exact hK (.bool true) _ rfl
                  rintro _ _ rfl
                  refine ⟨trivial, ?_⟩
                  refine wpAnyH_done (by kernel_rfl) ?_ _
                  have wb := HWA.out
                  go_wp2_with fail
                  go_meet
                  exact ⟨rfl, fa2, n2, fc2, by have h := HN.out; rw [HS8.out] at h; have e := first_add8 D E2 (optN b4 b) a; exact Lib.hid (e ▸ h), Lib.hid (HF.out w HPG.out.1 HPG.out.2.1 HDz13.out)⟩
            · rw [if_pos (by rfl)]
              go_simp
              obtain ⟨z15, hy⟩ : ∃ y, z12.alloc (.cells #[.string ⟨#[67, 97, 99, 104, 101, 45, 67, 111, 110, 116, 114, 111, 108]⟩, .string ((⟨#[115, 45, 109, 97, 120, 97, 103, 101, 61]⟩ : ByteArray) ++ SA)] 43) = y := ⟨_, rfl⟩
              have hbn : Below z12.heap.size z12 z15 := by rw [← hy]; exact below_al (Below.refl _ _) _
              have HMz15 := Lib.hid (HMz12.out.below hbn)
              have HDz15 := Lib.hid (HDz12.out.trans (hbn.mono HDz12.out.size))
              have HFz15 : Hid (z15.heap[z12.heap.size]? = some (.cells #[.string ⟨#[67, 97, 99, 104, 101, 45, 67, 111, 110, 116, 114, 111, 108]⟩, .string ((⟨#[115, 45, 109, 97, 120, 97, 103, 101, 61]⟩ : ByteArray) ++ SA)] 43 (0, 0))) := Lib.hid (by rw [← hy]; exact heap_alloc_new z12 _)
              change K _ (z12.alloc (.cells #[.string ⟨#[67, 97, 99, 104, 101, 45, 67, 111, 110, 116, 114, 111, 108]⟩, .string ((⟨#[115, 45, 109, 97, 120, 97, 103, 101, 61]⟩ : ByteArray) ++ SA)] 43))
              rw [hy]
              refine hK.out _ _ trivial (fun hH => ?_)
              clear hK K hy hbn
              try simp only [Act.put, List.setIfInBounds_toArray, List.set_cons_zero, List.set_cons_succ]
              refine wpAnyH_ready (rs := [1]) (by kernel_rfl) (by simp) (AllReadyH.cons rfl (fun K hK => ?_) AllReadyH.nil)
              · rw [if_pos (by rfl)]
                have kx := (four_at HMz15.out.block).2.2.1
                go_simp
                clear kx
                refine hK.out _ _ trivial (fun hH => ?_)
                clear hK K
                try simp only [Act.put, List.setIfInBounds_toArray, List.set_cons_zero, List.set_cons_succ]
                refine wpAnyH_ready (rs := [8]) (by kernel_rfl) (by simp) (AllReadyH.cons rfl (fun K hK => ?_) AllReadyH.nil)
                · rw [if_pos (by rfl)]
                  refine wp_box_append HMz15.out HNE.out HLN.out (.tmp 50) (.tmp 56) rfl 57 rfl rfl (z12.heap.size) (⟨#[67, 97, 99, 104, 101, 45, 67, 111, 110, 116, 114, 111, 108]⟩, ((⟨#[115, 45, 109, 97, 120, 97, 103, 101, 61]⟩ : ByteArray) ++ SA)) rfl HFz15.out rfl ?_
                  intro fa2 n2 fc2 x3 s2_ sf HN HF
                  refine hK.out _ _ trivial (fun hH => ?_)
                  clear hK K
                  try simp only [Act.put, List.setIfInBounds_toArray, List.set_cons_zero, List.set_cons_succ]
                  refine wpAnyH_takeTo (i := 9) (d := some 58) (v := .pointer (some ⟨p, 2, none⟩)) rfl rfl (by kernel_rfl) (by kernel_rfl) (by kernel_rfl) (fun _ _ _ h => h) (Or.inl ⟨by rfl, fun x hx => ?_⟩) hH ?_
                  · have f0 := hx
                    have f1 := HN8S.out
                    go_simp
                  try simp only [Act.put, List.setIfInBounds_toArray, List.set_cons_zero, List.set_cons_succ]
                  refine wpAnyH_stepTo (i := 10) (d := none) (by kernel_rfl) rfl rfl (by rfl) (fun _ y => y = x3.setCell ⟨p, 2, none⟩ (.slice fa2 n2 fc2)) (fun K hK => ?_) ?_
                  · go_simp
                    exact hK (.bool true) _ rfl
                  rintro _ _ rfl
                  refine ⟨trivial, ?_⟩
                  refine wpAnyH_done (by kernel_rfl) ?_ _
                  have wb := HWA.out
                  go_wp2_with fail
                  go_meet
                  exact ⟨rfl, fa2, n2, fc2, by have h := HN.out; rw [HS8.out] at h; have e := first_add8 D E2 (optN b4 b) a; exact Lib.hid (e ▸ h), Lib.hid (HF.out w HPG.out.1 HPG.out.2.1 HDz15.out)⟩
      case rest =>
        clear HM HBW HNE HLN
        obtain ⟨rfl, fa, n, fc, HM, HBW⟩ := hcut
        obtain ⟨fa1, fc1, hv, hin⟩ := HM.out.slice (by unfold firstFs; simp)
        obtain ⟨rfl, hn, rfl⟩ : fa = fa1 ∧ n = (firstFs D E2 (optN b4 b) (optN b8 a)).length ∧ fc = fc1 := by simpa using hv
        have hlife := HLIFE.out bad b4 b8
        have hfew := HFEW.out bad b4 b8
        rw [HE2.out] at hlife hfew
        have told : Told wc 200 (firstFs D E2 (optN b4 b) (optN b8 a)) fa fc := ⟨HT1.out.up HBW.out, HT2.out.up HBW.out, hin, hfew⟩
        have CL := Lib.hid (told.life hlife ⟨#[]⟩ none 0 0 wc (Below.refl _ _))
        rw [← hn] at CL
        unfold NumPost at CL
        have HC4 := Lib.hid (four_at HM.out.block)
        obtain ⟨W, hW⟩ : ∃ W, firstWant c bad (optN b4 b) (optN b8 a) = W := ⟨_, rfl⟩
        rw [hW] at CL ⊢
        have hself : (W == W) = true := beq_self_eq_true W
        clear hv hin told hn hlife hfew hW
        obtain ⟨r0, r1, r2, r3⟩ := HC4.out
        go_wp2_with fail
        refine CL.out.mono ?_
        rintro e w5 ⟨rfl, hb5⟩
        have HB5 := Lib.hid (HBW.out.trans (hb5.mono HBW.out.size))
        clear hb5
        go_wp2
        go_ret
        exact ⟨by simp, HB5.out⟩
end Go.Proofs.YtaimhfnddolilaaGreatDoor
namespace Go.Proofs.YtaimhfnddolilaaGreatDoor
open Go.RowKit HeadMath HeadS CtrlS DateMath VaryS


theorem ages_few (life age : Nat) (h1 : life < 256) (h2 : age < 256) (d : Option ByteArray) (hd : ∀ t ∈ d, t.size ≤ 100) : FewF (agesFs life age d) := by
  refine few_mem (by unfold agesFs; cases d <;> simp) (fun f hf => ?_)
  unfold agesFs at hf
  rcases List.mem_append.1 hf with hf | hf
  · rcases List.mem_cons.1 hf with rfl | hf
    · exact ⟨show ccN.size ≤ 1000000 by decide, by have := numB_len life h1 maxNB (by decide); show (numB (life : Int) maxNB).size ≤ _; omega⟩
    · obtain rfl : f = (ageN, digB age) := by simpa using hf
      exact ⟨show ageN.size ≤ 1000000 by decide, by have := digB_size age (by omega); show (digB age).size ≤ _; omega⟩
  · cases d with
    | none => cases hf
    | some t =>
      obtain rfl : f = (dateN, t) := by simpa using hf
      exact ⟨show dateN.size ≤ 1000000 by decide, by have := hd t rfl; show t.size ≤ _; omega⟩
theorem ages_add (life age : Nat) (t : ByteArray) : agesFs life age none ++ [(dateN, t)] = agesFs life age (some t) := rfl
set_option maxRecDepth 100000 in
set_option maxHeartbeats 32000000 in
theorem ages_law (life age delay later : Nat) (dated : Bool) (w : World) (h1 : life < 256) (h2 : age < 256) (h3 : delay < 256) (h4 : later < 65536) (t1 : TabP w) (t2 : TabS w) :
    Calls Tryz.prog 4 #[.int .u8 life, .int .u8 age, .int .u8 delay, .int .u16 later, .bool dated] w (BoolPost true w) := by
  have wl : IntKind.i64.wrap (life : Int) = (life : Int) := by rw [IntKind.wrap_i64]; omega
  have wg : IntKind.i64.wrap (age : Int) = (age : Int) := by rw [IntKind.wrap_i64]; omega
  have wd : IntKind.i64.wrap (delay : Int) = (delay : Int) := by rw [IntKind.wrap_i64]; omega
  have wr : IntKind.i64.wrap (later : Int) = (later : Int) := by rw [IntKind.wrap_i64]; omega
  have w2g : IntKind.i64.wrap (2 * (age : Int)) = 2 * (age : Int) := by rw [IntKind.wrap_i64]; omega
  have wcd : IntKind.i64.wrap (1000000000 - 2 * (age : Int)) = 1000000000 - 2 * (age : Int) := by rw [IntKind.wrap_i64]; omega
  have wca : IntKind.i64.wrap (1000000000 - (delay : Int)) = 1000000000 - (delay : Int) := by rw [IntKind.wrap_i64]; omega
  have wcr : IntKind.i64.wrap (1000000000 + (later : Int)) = 1000000000 + (later : Int) := by rw [IntKind.wrap_i64]; omega
  have wgd : IntKind.i64.wrap ((age : Int) + (delay : Int)) = (age : Int) + (delay : Int) := by rw [IntKind.wrap_i64]; omega
  obtain ⟨F, hF⟩ : ∃ F, (if dated then max (age + delay : Int) (2 * age) else (age + delay : Int)) = F := ⟨_, rfl⟩
  have hFb : 0 ≤ F ∧ F ≤ 600 := by rw [← hF]; split <;> omega
  have wF : IntKind.i64.wrap (F + (later : Int)) = F + (later : Int) := by rw [IntKind.wrap_i64]; omega
  have HAGE := Lib.hid (ages_age life age delay later h2 h3 h4 dated)
  have HSERV := Lib.hid (ages_serv life age delay later h1 h2 h3 h4 dated)
  rw [hF] at HAGE HSERV
  have CT : Hid (∀ (t : Int) (x : World), Calls Tryz.prog 20 #[.int .i64 t] x fun e w' => e = .returned (.string (textT t)) ∧ Below x.heap.size x w') := Lib.hid (fun t x => refText_any t x)
  have CT2 := Lib.hid (CT.out (1000000000 - 2 * (age : Int)))
  have CL : Hid (∀ x, Calls Tryz.prog 19 #[.int .i64 life] x fun e w' => e = .returned (.string (digB life)) ∧ Below x.heap.size x w') := Lib.hid (fun x => digit_call life (by omega) x)
  have CG : Hid (∀ x, Calls Tryz.prog 19 #[.int .i64 age] x fun e w' => e = .returned (.string (digB age)) ∧ Below x.heap.size x w') := Lib.hid (fun x => digit_call age (by omega) x)
  have CK := Lib.hid (fknown_any w t1 t2)
  unfold BoolPost at CK ⊢
  have z1 := textT_size (1000000000 - 2 * (age : Int))
  have s4 : (⟨#[109, 97, 120, 45, 97, 103, 101, 61]⟩ : ByteArray) ++ digB life = numB (life : Int) maxNB := by rw [numB_nat life (by omega)]; rfl
  have n4 := numB_len life h1 maxNB (by decide)
  have HFEW : Hid (FewF (agesFs life age (if dated then some (textT (1000000000 - 2 * age)) else none))) := Lib.hid (ages_few life age h1 h2 _ (by
    intro t ht
    cases dated with
    | false => cases ht
    | true =>
      obtain rfl : textT (1000000000 - 2 * age) = t := by simpa using ht
      exact textT_size _))
  have hL0 : agesFs life age none = [(ccN, numB (life : Int) maxNB), (ageN, digB age)] := rfl
  obtain ⟨E, hE⟩ : ∃ E, textT (1000000000 - 2 * (age : Int)) = E := ⟨_, rfl⟩
  rw [hE] at CT2 z1 HFEW HAGE HSERV
  have hadd := ages_add life age E
  obtain ⟨SL, hSL⟩ : ∃ S, digB life = S := ⟨_, rfl⟩
  obtain ⟨SG, hSG⟩ : ∃ S, digB age = S := ⟨_, rfl⟩
  rw [hSL] at CL s4
  rw [hSG] at CG hL0
  rw [← s4] at n4 hL0
  obtain ⟨AF, hAF⟩ : ∃ f : Option ByteArray → Flf, agesFs life age = f := ⟨_, rfl⟩
  rw [hAF] at HFEW HAGE HSERV hadd hL0
  have HN4 := Lib.hid n4
  have HT1 := Lib.hid t1
  have HT2 := Lib.hid t2
  have HL0 := Lib.hid hL0
  have HADD := Lib.hid hadd
  have HF := Lib.hid hF
  have HW := Lib.hid (And.intro wl (And.intro wg (And.intro wd (And.intro wr (And.intro w2g (And.intro wcd (And.intro wca (And.intro wcr (And.intro wgd wF)))))))))
  clear n4 hE hSL hSG hAF t1 t2 CT z1 hFb h1 h2 h3 h4 s4 hL0 hadd hF wd wr w2g wcd wca wcr wgd wF
  go_enter Tryz.func4, Tryz.ntmps4
  go_wp2_with fail
  refine CK.out.mono ?_
  rintro e w1 ⟨rfl, hb1⟩
  have HB1 := Lib.hid hb1
  clear hb1 CK
  go_wp2_with fail
  refine (CL.out _).mono ?_
  rintro e w2 ⟨rfl, hb2⟩
  have HB2 := Lib.hid (HB1.out.trans (hb2.mono HB1.out.size))
  have n4 : ¬ (9223372036854775807 < 8 + SL.size) := by have := HN4.out; rw [ByteArray.size_append] at this; show ¬ (9223372036854775807 < 8 + SL.size); omega
  clear hb2
  go_wp2_with fail
  refine (CG.out _).mono ?_
  rintro e w3 ⟨rfl, hb3⟩
  have HB3 := Lib.hid (HB2.out.trans (hb3.mono HB2.out.size))
  clear hb3
  obtain ⟨x, hx⟩ : ∃ x, ((w3.alloc (.cells #[.string ⟨#[67, 97, 99, 104, 101, 45, 67, 111, 110, 116, 114, 111, 108]⟩, .string (⟨#[109, 97, 120, 45, 97, 103, 101, 61]⟩ ++ SL), .string ⟨#[65, 103, 101]⟩, .string SG] 43)).alloc (.cells #[.int .i64 200, .string ⟨#[]⟩, .slice (some ⟨w3.heap.size, 0, none⟩) 2 2, .slice none 0 0] 25)) = x := ⟨_, rfl⟩
  have hbox := box_lit (w := w3) [(ccN, (⟨#[109, 97, 120, 45, 97, 103, 101, 61]⟩ : ByteArray) ++ SL), (ageN, SG)] 200 (by simp) hx
  have HM := Lib.hid hbox.1
  have HBW := Lib.hid (HB3.out.trans (hbox.2.1.mono HB3.out.size))
  have HX := Lib.hid hx
  have HX3 : Hid (w3.heap.size ≤ x.heap.size) := Lib.hid hbox.2.1.size
  clear hx hbox
  rw [← HL0.out] at HM
  have wd := HW.out.2.2.1
  have wgd := HW.out.2.2.2.2.2.2.2.2.1
  go_upto_if 35 with (fail)
  change Code.wp _ _ _ _ ((w3.alloc (.cells #[.string ⟨#[67, 97, 99, 104, 101, 45, 67, 111, 110, 116, 114, 111, 108]⟩, .string (⟨#[109, 97, 120, 45, 97, 103, 101, 61]⟩ ++ SL), .string ⟨#[65, 103, 101]⟩, .string SG] 43)).alloc (.cells #[.int .i64 200, .string ⟨#[]⟩, .slice (some ⟨w3.heap.size, 0, none⟩) 2 2, .slice none 0 0] 25))
  rw [HX.out]
  obtain ⟨p, hp⟩ : ∃ p, w3.heap.size + 1 = p := ⟨_, rfl⟩
  obtain ⟨B, hB⟩ : ∃ B, w3.heap.size = B := ⟨_, rfl⟩
  have HPG : Hid (w.heap.size ≤ p ∧ w.heap.size ≤ B) := Lib.hid (by have := HB3.out.size; omega)
  rw [hp, hB] at HM ⊢
  rw [hB] at HX3
  clear hp hB HX
  go_cut [13] (fun s13 wx => s13 = .int .i64 F ∧ ∃ fa n fc, Hid (Box p B wx (.int .i64 200) (.string ⟨#[]⟩) (.slice fa n fc) (.slice none 0 0) (AF (if dated then some E else none))) ∧ Hid (Below w.heap.size w wx))
  case first =>
    cases dated with
    | false =>
      have hf := HF.out
      simp only [Bool.false_eq_true, if_false] at hf
      go_wp2_with fail
      go_meet
      exact ⟨by rw [← hf], _, _, _, HM, HBW⟩
    | true =>
      have hf := HF.out
      simp only [if_true] at hf
      have HLN : Hid ((AF none).length ≤ 50) := Lib.hid (by rw [HL0.out]; simp)
      have HNE : Hid (AF none ≠ []) := Lib.hid (by rw [HL0.out]; simp)
      have w2g := HW.out.2.2.2.2.1
      have wcd := HW.out.2.2.2.2.2.1
      have HDd : Hid (Below w.heap.size w x.drew) := Lib.hid HBW.out.drew
      have HMd := Lib.hid (HM.out.below ((Below.refl _ _).drew))
      go_upto_region 7 with (fail)
      refine wp_region_held_drew (S := fun _ => True) (by kernel_rfl) trivial (fun hH => ?_)
      obtain ⟨x0, hx0⟩ : ∃ y, x.drew = y := ⟨_, rfl⟩
      rw [hx0] at HDd HMd ⊢
      clear hx0
      refine wpAnyH_takeTo (i := 0) (d := some 36) (v := .pointer (some ⟨p, 2, none⟩)) rfl rfl (by kernel_rfl) (by kernel_rfl) (by kernel_rfl) (fun _ _ _ h => h) (Or.inl ⟨by rfl, fun x hx => ?_⟩) hH ?_
      · have f0 := hx
        go_simp
      try simp only [Act.put, List.setIfInBounds_toArray, List.set_cons_zero, List.set_cons_succ]
      refine wpAnyH_takeTo (i := 2) (d := some 38) (v := .int .i64 1000000000) rfl rfl (by kernel_rfl) (by kernel_rfl) (by kernel_rfl) (fun _ _ _ h => h) (Or.inl ⟨by rfl, fun x hx => ?_⟩) hH ?_
      · have f0 := hx
        go_simp
      try simp only [Act.put, List.setIfInBounds_toArray, List.set_cons_zero, List.set_cons_succ]
      refine wpAnyH_takeTo (i := 3) (d := some 39) (v := .int .u8 age) rfl rfl (by kernel_rfl) (by kernel_rfl) (by kernel_rfl) (fun _ _ _ h => h) (Or.inl ⟨by rfl, fun x hx => ?_⟩) hH ?_
      · have f0 := hx
        go_simp
      try simp only [Act.put, List.setIfInBounds_toArray, List.set_cons_zero, List.set_cons_succ]
      refine wpAnyH_takeTo (i := 4) (d := some 40) (v := .int .i64 (age : Int)) rfl rfl (by kernel_rfl) (by kernel_rfl) (by kernel_rfl) (fun _ _ _ h => h) (Or.inl ⟨by rfl, fun x hx => ?_⟩) hH ?_
      · have f0 := hx
        go_simp
      try simp only [Act.put, List.setIfInBounds_toArray, List.set_cons_zero, List.set_cons_succ]
      refine wpAnyH_takeTo (i := 5) (d := some 41) (v := .int .i64 (2 * (age : Int))) rfl rfl (by kernel_rfl) (by kernel_rfl) (by kernel_rfl) (fun _ _ _ h => h) (Or.inl ⟨by rfl, fun x hx => ?_⟩) hH ?_
      · have f0 := hx
        go_simp
      try simp only [Act.put, List.setIfInBounds_toArray, List.set_cons_zero, List.set_cons_succ]
      refine wpAnyH_takeTo (i := 6) (d := some 42) (v := .int .i64 (1000000000 - 2 * (age : Int))) rfl rfl (by kernel_rfl) (by kernel_rfl) (by kernel_rfl) (fun _ _ _ h => h) (Or.inl ⟨by rfl, fun x hx => ?_⟩) hH ?_
      · have f0 := hx
        go_simp
      try simp only [Act.put, List.setIfInBounds_toArray, List.set_cons_zero, List.set_cons_succ]
      refine wpAnyH_ready (rs := [1, 7]) (by kernel_rfl) (by simp) (AllReadyH.cons rfl (fun K hK => ?_) (AllReadyH.cons rfl (fun K hK => ?_) AllReadyH.nil))
      · rw [if_pos (by rfl)]
        have kx := (four_at HMd.out.block).2.2.1
        go_simp
        clear kx
        refine hK.out _ _ trivial (fun hH => ?_)
        clear hK K
        try simp only [Act.put, List.setIfInBounds_toArray, List.set_cons_zero, List.set_cons_succ]
        refine wpAnyH_ready (rs := [7]) (by kernel_rfl) (by simp) (AllReadyH.cons rfl (fun K hK => ?_) AllReadyH.nil)
        · rw [if_pos (by rfl)]
          go_simp
          go_at_call 20
          refine Calls.mono (CT2.out _) ?_
          rintro e z1 ⟨rfl, hbn⟩
          have HMz1 := Lib.hid (HMd.out.below hbn)
          have HDz1 := Lib.hid (HDd.out.trans (hbn.mono HDd.out.size))
          refine hK.out _ _ trivial (fun hH => ?_)
          clear hK K hbn
          try simp only [Act.put, List.setIfInBounds_toArray, List.set_cons_zero, List.set_cons_succ]
          refine wpAnyH_takeTo (i := 8) (d := some 44) (v := .agg #[.string ⟨#[68, 97, 116, 101]⟩, .string E]) rfl rfl (by kernel_rfl) (by kernel_rfl) (by kernel_rfl) (fun _ _ _ h => h) (Or.inl ⟨by rfl, fun x hx => ?_⟩) hH ?_
          · have f0 := hx
            go_simp
          try simp only [Act.put, List.setIfInBounds_toArray, List.set_cons_zero, List.set_cons_succ]
          refine wpAnyH_ready (rs := [9]) (by kernel_rfl) (by simp) (AllReadyH.cons rfl (fun K hK => ?_) AllReadyH.nil)
          · rw [if_pos (by rfl)]
            go_simp
            obtain ⟨z2, hy⟩ : ∃ y, z1.alloc (.cells #[.string ⟨#[68, 97, 116, 101]⟩, .string E] 43) = y := ⟨_, rfl⟩
            have hbn : Below z1.heap.size z1 z2 := by rw [← hy]; exact below_al (Below.refl _ _) _
            have HMz2 := Lib.hid (HMz1.out.below hbn)
            have HDz2 := Lib.hid (HDz1.out.trans (hbn.mono HDz1.out.size))
            have HFz2 : Hid (z2.heap[z1.heap.size]? = some (.cells #[.string ⟨#[68, 97, 116, 101]⟩, .string E] 43 (0, 0))) := Lib.hid (by rw [← hy]; exact heap_alloc_new z1 _)
            change K _ (z1.alloc (.cells #[.string ⟨#[68, 97, 116, 101]⟩, .string E] 43))
            rw [hy]
            refine hK.out _ _ trivial (fun hH => ?_)
            clear hK K hy hbn
            try simp only [Act.put, List.setIfInBounds_toArray, List.set_cons_zero, List.set_cons_succ]
            refine wpAnyH_ready (rs := [10]) (by kernel_rfl) (by simp) (AllReadyH.cons rfl (fun K hK => ?_) AllReadyH.nil)
            · rw [if_pos (by rfl)]
              refine wp_box_append HMz2.out HNE.out HLN.out (.tmp 37) (.tmp 45) rfl 46 rfl rfl (z1.heap.size) (⟨#[68, 97, 116, 101]⟩, E) rfl HFz2.out rfl ?_
              intro fa2 n2 fc2 x3 s2_ sf HN HF'
              refine hK.out _ _ trivial (fun hH => ?_)
              clear hK K
              try simp only [Act.put, List.setIfInBounds_toArray, List.set_cons_zero, List.set_cons_succ]
              refine wpAnyH_takeTo (i := 11) (d := some 47) (v := .pointer (some ⟨p, 2, none⟩)) rfl rfl (by kernel_rfl) (by kernel_rfl) (by kernel_rfl) (fun _ _ _ h => h) (Or.inl ⟨by rfl, fun x hx => ?_⟩) hH ?_
              · have f0 := hx
                go_simp
              try simp only [Act.put, List.setIfInBounds_toArray, List.set_cons_zero, List.set_cons_succ]
              refine wpAnyH_stepTo (i := 12) (d := none) (by kernel_rfl) rfl rfl (by rfl) (fun _ y => y = x3.setCell ⟨p, 2, none⟩ (.slice fa2 n2 fc2)) (fun K hK => ?_) ?_
              · go_simp
                exact hK (.bool true) _ rfl
              rintro _ _ rfl
              refine ⟨trivial, ?_⟩
              refine wpAnyH_done (by kernel_rfl) ?_ _
              go_wp2_with fail
              go_meet
              exact ⟨by rw [← hf], fa2, n2, fc2, by have h := HN.out; have e : AF none ++ [(⟨#[68, 97, 116, 101]⟩, E)] = AF (some E) := HADD.out; rw [e] at h; exact Lib.hid h, Lib.hid (HF'.out w HPG.out.1 HPG.out.2 HDz2.out)⟩
      · rw [if_pos (by rfl)]
        go_simp
        go_at_call 20
        refine Calls.mono (CT2.out _) ?_
        rintro e z4 ⟨rfl, hbn⟩
        have HMz4 := Lib.hid (HMd.out.below hbn)
        have HDz4 := Lib.hid (HDd.out.trans (hbn.mono HDd.out.size))
        refine hK.out _ _ trivial (fun hH => ?_)
        clear hK K hbn
        try simp only [Act.put, List.setIfInBounds_toArray, List.set_cons_zero, List.set_cons_succ]
        refine wpAnyH_takeTo (i := 8) (d := some 44) (v := .agg #[.string ⟨#[68, 97, 116, 101]⟩, .string E]) rfl rfl (by kernel_rfl) (by kernel_rfl) (by kernel_rfl) (fun _ _ _ h => h) (Or.inl ⟨by rfl, fun x hx => ?_⟩) hH ?_
        · have f0 := hx
          go_simp
        try simp only [Act.put, List.setIfInBounds_toArray, List.set_cons_zero, List.set_cons_succ]
        refine wpAnyH_ready (rs := [1, 9]) (by kernel_rfl) (by simp) (AllReadyH.cons rfl (fun K hK => ?_) (AllReadyH.cons rfl (fun K hK => ?_) AllReadyH.nil))
        · rw [if_pos (by rfl)]
          have kx := (four_at HMz4.out.block).2.2.1
          go_simp
          clear kx
          refine hK.out _ _ trivial (fun hH => ?_)
          clear hK K
          try simp only [Act.put, List.setIfInBounds_toArray, List.set_cons_zero, List.set_cons_succ]
          refine wpAnyH_ready (rs := [9]) (by kernel_rfl) (by simp) (AllReadyH.cons rfl (fun K hK => ?_) AllReadyH.nil)
          · rw [if_pos (by rfl)]
            go_simp
            obtain ⟨z5, hy⟩ : ∃ y, z4.alloc (.cells #[.string ⟨#[68, 97, 116, 101]⟩, .string E] 43) = y := ⟨_, rfl⟩
            have hbn : Below z4.heap.size z4 z5 := by rw [← hy]; exact below_al (Below.refl _ _) _
            have HMz5 := Lib.hid (HMz4.out.below hbn)
            have HDz5 := Lib.hid (HDz4.out.trans (hbn.mono HDz4.out.size))
            have HFz5 : Hid (z5.heap[z4.heap.size]? = some (.cells #[.string ⟨#[68, 97, 116, 101]⟩, .string E] 43 (0, 0))) := Lib.hid (by rw [← hy]; exact heap_alloc_new z4 _)
            change K _ (z4.alloc (.cells #[.string ⟨#[68, 97, 116, 101]⟩, .string E] 43))
            rw [hy]
            refine hK.out _ _ trivial (fun hH => ?_)
            clear hK K hy hbn
            try simp only [Act.put, List.setIfInBounds_toArray, List.set_cons_zero, List.set_cons_succ]
            refine wpAnyH_ready (rs := [10]) (by kernel_rfl) (by simp) (AllReadyH.cons rfl (fun K hK => ?_) AllReadyH.nil)
            · rw [if_pos (by rfl)]
              refine wp_box_append HMz5.out HNE.out HLN.out (.tmp 37) (.tmp 45) rfl 46 rfl rfl (z4.heap.size) (⟨#[68, 97, 116, 101]⟩, E) rfl HFz5.out rfl ?_
              intro fa2 n2 fc2 x3 s2_ sf HN HF'
              refine hK.out _ _ trivial (fun hH => ?_)
              clear hK K
              try simp only [Act.put, List.setIfInBounds_toArray, List.set_cons_zero, List.set_cons_succ]
              refine wpAnyH_takeTo (i := 11) (d := some 47) (v := .pointer (some ⟨p, 2, none⟩)) rfl rfl (by kernel_rfl) (by kernel_rfl) (by kernel_rfl) (fun _ _ _ h => h) (Or.inl ⟨by rfl, fun x hx => ?_⟩) hH ?_
              · have f0 := hx
                go_simp
              try simp only [Act.put, List.setIfInBounds_toArray, List.set_cons_zero, List.set_cons_succ]
              refine wpAnyH_stepTo (i := 12) (d := none) (by kernel_rfl) rfl rfl (by rfl) (fun _ y => y = x3.setCell ⟨p, 2, none⟩ (.slice fa2 n2 fc2)) (fun K hK => ?_) ?_
              · go_simp
                exact hK (.bool true) _ rfl
              rintro _ _ rfl
              refine ⟨trivial, ?_⟩
              refine wpAnyH_done (by kernel_rfl) ?_ _
              go_wp2_with fail
              go_meet
              exact ⟨by rw [← hf], fa2, n2, fc2, by have h := HN.out; have e : AF none ++ [(⟨#[68, 97, 116, 101]⟩, E)] = AF (some E) := HADD.out; rw [e] at h; exact Lib.hid h, Lib.hid (HF'.out w HPG.out.1 HPG.out.2 HDz5.out)⟩
        · rw [if_pos (by rfl)]
          go_simp
          obtain ⟨z7, hy⟩ : ∃ y, z4.alloc (.cells #[.string ⟨#[68, 97, 116, 101]⟩, .string E] 43) = y := ⟨_, rfl⟩
          have hbn : Below z4.heap.size z4 z7 := by rw [← hy]; exact below_al (Below.refl _ _) _
          have HMz7 := Lib.hid (HMz4.out.below hbn)
          have HDz7 := Lib.hid (HDz4.out.trans (hbn.mono HDz4.out.size))
          have HFz7 : Hid (z7.heap[z4.heap.size]? = some (.cells #[.string ⟨#[68, 97, 116, 101]⟩, .string E] 43 (0, 0))) := Lib.hid (by rw [← hy]; exact heap_alloc_new z4 _)
          change K _ (z4.alloc (.cells #[.string ⟨#[68, 97, 116, 101]⟩, .string E] 43))
          rw [hy]
          refine hK.out _ _ trivial (fun hH => ?_)
          clear hK K hy hbn
          try simp only [Act.put, List.setIfInBounds_toArray, List.set_cons_zero, List.set_cons_succ]
          refine wpAnyH_ready (rs := [1]) (by kernel_rfl) (by simp) (AllReadyH.cons rfl (fun K hK => ?_) AllReadyH.nil)
          · rw [if_pos (by rfl)]
            have kx := (four_at HMz7.out.block).2.2.1
            go_simp
            clear kx
            refine hK.out _ _ trivial (fun hH => ?_)
            clear hK K
            try simp only [Act.put, List.setIfInBounds_toArray, List.set_cons_zero, List.set_cons_succ]
            refine wpAnyH_ready (rs := [10]) (by kernel_rfl) (by simp) (AllReadyH.cons rfl (fun K hK => ?_) AllReadyH.nil)
            · rw [if_pos (by rfl)]
              refine wp_box_append HMz7.out HNE.out HLN.out (.tmp 37) (.tmp 45) rfl 46 rfl rfl (z4.heap.size) (⟨#[68, 97, 116, 101]⟩, E) rfl HFz7.out rfl ?_
              intro fa2 n2 fc2 x3 s2_ sf HN HF'
              refine hK.out _ _ trivial (fun hH => ?_)
              clear hK K
              try simp only [Act.put, List.setIfInBounds_toArray, List.set_cons_zero, List.set_cons_succ]
              refine wpAnyH_takeTo (i := 11) (d := some 47) (v := .pointer (some ⟨p, 2, none⟩)) rfl rfl (by kernel_rfl) (by kernel_rfl) (by kernel_rfl) (fun _ _ _ h => h) (Or.inl ⟨by rfl, fun x hx => ?_⟩) hH ?_
              · have f0 := hx
                go_simp
              try simp only [Act.put, List.setIfInBounds_toArray, List.set_cons_zero, List.set_cons_succ]
              refine wpAnyH_stepTo (i := 12) (d := none) (by kernel_rfl) rfl rfl (by rfl) (fun _ y => y = x3.setCell ⟨p, 2, none⟩ (.slice fa2 n2 fc2)) (fun K hK => ?_) ?_
              · go_simp
                exact hK (.bool true) _ rfl
              rintro _ _ rfl
              refine ⟨trivial, ?_⟩
              refine wpAnyH_done (by kernel_rfl) ?_ _
              go_wp2_with fail
              go_meet
              exact ⟨by rw [← hf], fa2, n2, fc2, by have h := HN.out; have e : AF none ++ [(⟨#[68, 97, 116, 101]⟩, E)] = AF (some E) := HADD.out; rw [e] at h; exact Lib.hid h, Lib.hid (HF'.out w HPG.out.1 HPG.out.2 HDz7.out)⟩
  case rest =>
    clear HM HBW HX3
    obtain ⟨rfl, fa, n, fc, HM, HBW⟩ := hcut
    obtain ⟨O, hO⟩ : ∃ O, (if dated then some E else none) = O := ⟨_, rfl⟩
    rw [hO] at HM HFEW HAGE HSERV
    have hne : AF O ≠ [] := by
      intro e
      have h0 := congrArg List.length HL0.out
      cases dated with
      | false => simp only [Bool.false_eq_true, if_false] at hO; rw [← hO] at e; rw [e] at h0; cases h0
      | true => simp only [if_true] at hO; rw [← hO, ← HADD.out] at e; simp at e
    obtain ⟨fa1, fc1, hv, hin⟩ := HM.out.slice hne
    obtain ⟨rfl, hn, rfl⟩ : fa = fa1 ∧ n = (AF O).length ∧ fc = fc1 := by simpa using hv
    obtain ⟨y, hy⟩ : ∃ y, (wc.alloc (.cells #[.int .i64 (1000000000 - (delay : Int)), .int .i64 1000000000] 27)).alloc (.cells #[.bool false, .bool false, .bool false, .bool false, .bool false, .bool false, .bool false, .bool false, .int .i64 (-1), .int .i64 (-1), .int .i64 (-1), .int .i64 (-1)] 29) = y := ⟨_, rfl⟩
    have h2 := two_reqs wc (.cells #[.int .i64 (1000000000 - (delay : Int)), .int .i64 1000000000] 27) (.cells #[.bool false, .bool false, .bool false, .bool false, .bool false, .bool false, .bool false, .bool false, .int .i64 (-1), .int .i64 (-1), .int .i64 (-1), .int .i64 (-1)] 29)
    rw [hy] at h2
    have hby : Below wc.heap.size wc y := by rw [← hy]; exact below_al (below_al (Below.refl _ _) _) _
    have HBY := Lib.hid (HBW.out.trans (hby.mono HBW.out.size))
    have told : Told y 200 (AF O) fa fc := ⟨HT1.out.up HBY.out, HT2.out.up HBY.out, kin_in (w := wc) ⟨y, hby⟩ hin, HFEW.out⟩
    have C1 := Lib.hid (told.age HAGE.out ⟨#[]⟩ none 0 0)
    obtain ⟨b, hb⟩ : ∃ b, decide (F + (later : Int) < (life : Int)) = b := ⟨_, rfl⟩
    rw [hb] at HSERV
    have C2 := Lib.hid (told.serv HSERV.out ⟨#[]⟩ none 0 0)
    rw [← hn] at C1 C2
    unfold NumPost at C1
    unfold BoolPost ctlV ctl0 at C2
    simp only at C2
    have HBb := Lib.hid hb
    have KR : Hid (∀ z, Below y.heap.size y z → z.cell? ⟨p, 0, none⟩ = some (.int .i64 200) ∧ z.cell? ⟨p, 1, none⟩ = some (.string ⟨#[]⟩) ∧ z.cell? ⟨p, 2, none⟩ = some (.slice fa n fc) ∧ z.cell? ⟨p, 3, none⟩ = some (.slice none 0 0)) := Lib.hid (fun z hz => four_at ((HM.out.below hby).below hz).block)
    have KT : Hid (∀ z, Below y.heap.size y z → z.cell? ⟨wc.heap.size, 0, none⟩ = some (.int .i64 (1000000000 - (delay : Int))) ∧ z.cell? ⟨wc.heap.size, 1, none⟩ = some (.int .i64 1000000000)) := Lib.hid (fun z hz => two_at (stood3 hz h2.1))
    have KC : Hid (∀ z, Below y.heap.size y z → CtlAt z (wc.heap.size + 1) ⟨false, false, false, false, false, false, false, false, -1, -1, -1, -1⟩) := Lib.hid (fun z hz => stood3 hz h2.2)
    have HY := Lib.hid hy
    obtain ⟨wl, wg, wd, wr, w2g, wcd, wca, wcr, wgd, wF⟩ := HW.out
    clear hO hne hv hin hn hy h2 hby told hb HM HAGE HSERV HFEW HF HL0 HADD w2g wcd wgd wg
    go_upto_region 12 with (fail)
    change Code.wp _ _ _ _ ((wc.alloc (.cells #[.int .i64 (1000000000 - (delay : Int)), .int .i64 1000000000] 27)).alloc (.cells #[.bool false, .bool false, .bool false, .bool false, .bool false, .bool false, .bool false, .bool false, .int .i64 (-1), .int .i64 (-1), .int .i64 (-1), .int .i64 (-1)] 29))
    rw [HY.out]
    obtain ⟨r0, r1, r2, r3⟩ := KR.out y (Below.refl _ _)
    obtain ⟨u0, u1⟩ := KT.out y (Below.refl _ _)
    go_wp2_with fail
    refine (C1.out y (Below.refl _ _)).mono ?_
    rintro e w5 ⟨rfl, hb5⟩
    have HB5 := Lib.hid hb5
    clear hb5 r0 r1 r2 r3 u0 u1
    obtain ⟨r0, r1, r2, r3⟩ := KR.out w5 HB5.out
    obtain ⟨u0, u1⟩ := KT.out w5 HB5.out
    obtain ⟨n0, n1, n2, n3, n4, n5, n6, n7, n8, n9, n10, n11⟩ := ctl_reads (KC.out w5 HB5.out)
    simp only at n0 n1 n2 n3 n4 n5 n6 n7 n8 n9 n10 n11
    go_wp2_with fail
    refine (C2.out w5 HB5.out).mono ?_
    rintro e w6 ⟨rfl, hb6⟩
    have HB6 := Lib.hid (HB5.out.trans (hb6.mono HB5.out.size))
    clear hb6 r0 r1 r2 r3 u0 u1 n0 n1 n2 n3 n4 n5 n6 n7 n8 n9 n10 n11
    have hb := HBb.out
    have hself : (b == b) = true := beq_self_eq_true b
    go_wp2
    go_ret
    exact ⟨by simp, HBY.out.trans (HB6.out.mono HBY.out.size)⟩
  end Go.Proofs.YtaimhfnddolilaaGreatDoor
namespace Go.Proofs.YtaimhfnddolilaaGreatDoor
open Go.RowKit HeadMath HeadS CtrlS DateMath

set_option maxRecDepth 100000 in
set_option maxHeartbeats 8000000 in
theorem refLife_any (fs : Flf) (st : Int) (rs : ByteArray) (fa ba : Option Addr) (fc bn bc : Nat) (w : World) (hin : FieldsIn w.heap.size w fa fs) (hf : FewF fs) :
    Calls Tryz.prog 12 #[.agg #[.int .i64 st, .string rs, .slice fa fs.length fc, .slice ba bn bc]] w (NumPost (lifeF st fs) w) := by
  obtain ⟨v, hv⟩ : ∃ v, w.alloc (.cells #[.int .i64 st, .string rs, .slice fa fs.length fc, .slice ba bn bc] 25) = v := ⟨_, rfl⟩
  have hb : Below w.heap.size w v := by rw [← hv]; exact (Below.refl _ _).alloc (Nat.le_refl _) _
  have hsz : v.heap.size = w.heap.size + 1 := by rw [← hv]; simp
  have c0 : v.cell? ⟨w.heap.size, 0, none⟩ = some (.int .i64 st) := by rw [← hv]; simp [go_sem]
  have c2 : v.cell? ⟨w.heap.size, 2, none⟩ = some (.slice fa fs.length fc) := by rw [← hv]; simp [go_sem]
  have hin1 : FieldsIn v.heap.size v fa fs := kin_in (w := w) ⟨v, hb⟩ hin
  have HC : Hid (∀ y, Below v.heap.size v y → y.cell? ⟨w.heap.size, 0, none⟩ = some (.int .i64 st) ∧ y.cell? ⟨w.heap.size, 2, none⟩ = some (.slice fa fs.length fc)) := Lib.hid (fun y hy => ⟨(hy.cell (p := ⟨w.heap.size, 0, none⟩) (by show w.heap.size < v.heap.size; omega)).trans c0, (hy.cell (p := ⟨w.heap.size, 2, none⟩) (by show w.heap.size < v.heap.size; omega)).trans c2⟩)
  have cP := refControl_any fs fa fc v hin1 hf
  unfold CtrlS.ParsePost at cP
  have cD : ∀ n : ByteArray, n.size ≤ 1000 → ∀ x, Below v.heap.size v x → Calls Tryz.prog 25 #[.slice fa fs.length fc, .string n] x (DatePost n fs x) := fun n hn x hx => refDate_any fs n fa fc x (kin_in (w := v) ⟨x, hx⟩ hin1) hf hn
  have cG := fun x (hx : Below v.heap.size v x) => refGet_any fs expN fa fc fs.length x (kin_in (w := v) ⟨x, hx⟩ hin1) rfl hf.small (by have := hf.1; omega) (by decide)
  unfold GetPost at cG
  have cD1 := cD dateN (by decide)
  have cD2 := cD expN (by decide)
  have cD3 := cD lastN (by decide)
  unfold DatePost at cD1 cD2 cD3
  have hu : ∀ v : World, Calls Tryz.prog 18 #[.int .i64 st] v fun e w' => e = .returned (.bool (heurF st)) ∧ Below v.heap.size v w' := fun v => refHeur_any st v
  have hbd := dateF_bd dateN fs
  have hbe := dateF_bd expN fs
  have hbm := dateF_bd lastN fs
  have hok := parse_ok fs
  have hR0 : lifeF st fs = min (if 0 ≤ (parseF fs).sMax then (parseF fs).sMax else if 0 ≤ (parseF fs).maxA then (parseF fs).maxA
  else if (getF expN fs).isSome then (if (dateF expN fs).2 && (dateF dateN fs).2 then max ((dateF expN fs).1 - (dateF dateN fs).1) 0 else 0)
  else if (dateF lastN fs).2 && (dateF dateN fs).2 && (heurF st || (parseF fs).pub) then min (max (((dateF dateN fs).1 - (dateF lastN fs).1).tdiv 10) 0) 86400 else 0) 2147483647 := rfl
  obtain ⟨c, hc⟩ : ∃ c, parseF fs = c := ⟨_, rfl⟩
  obtain ⟨g, hg⟩ : ∃ g, getF expN fs = g := ⟨_, rfl⟩
  obtain ⟨D, hD⟩ : ∃ D, (dateF dateN fs).1 = D := ⟨_, rfl⟩
  obtain ⟨G, hG⟩ : ∃ G, (dateF dateN fs).2 = G := ⟨_, rfl⟩
  obtain ⟨E, hE⟩ : ∃ D, (dateF expN fs).1 = D := ⟨_, rfl⟩
  obtain ⟨H, hH⟩ : ∃ G, (dateF expN fs).2 = G := ⟨_, rfl⟩
  obtain ⟨M, hM⟩ : ∃ D, (dateF lastN fs).1 = D := ⟨_, rfl⟩
  obtain ⟨L, hL⟩ : ∃ G, (dateF lastN fs).2 = G := ⟨_, rfl⟩
  obtain ⟨u, hu0⟩ : ∃ u, heurF st = u := ⟨_, rfl⟩
  obtain ⟨R, hR⟩ : ∃ R, lifeF st fs = R := ⟨_, rfl⟩
  rw [hc, hg, hD, hG, hE, hH, hM, hL, hu0, hR] at hR0
  rw [hR]
  rw [hD] at hbd
  rw [hE] at hbe
  rw [hM] at hbm
  rw [hc] at cP hok
  rw [hg] at cG
  rw [hD, hG] at cD1
  rw [hE, hH] at cD2
  rw [hM, hL] at cD3
  rw [hu0] at hu
  unfold dateN at cD1
  unfold expN at cD2 cG
  unfold lastN at cD3
  obtain ⟨b0, b1, b2, b3, b4, b5, b6, b7, z8, z9, z10, z11⟩ := c
  simp only at hR0
  unfold Ctl.ok maxAge at hok
  simp only at hok
  unfold ctlV at cP
  simp only at cP
  obtain ⟨⟨_, k1⟩, ⟨_, k2⟩, _, _⟩ := hok
  have CP := Lib.hid cP
  have CG := Lib.hid cG
  have CD1 := Lib.hid cD1
  have CD2 := Lib.hid cD2
  have CD3 := Lib.hid cD3
  have HU := Lib.hid hu
  have HR := Lib.hid hR0
  have HV := Lib.hid hv
  have HB := Lib.hid hb
  have q1 : IntKind.i64.wrap (E - D) = E - D := by rw [IntKind.wrap_i64]; omega
  have q2 : IntKind.i64.wrap (D - M) = D - M := by rw [IntKind.wrap_i64]; omega
  have q3 : IntKind.i64.wrap ((D - M).tdiv 10) = (D - M).tdiv 10 := tdiv_bd (by omega) (by omega)
  have q4 : IntKind.i64.wrap ((max (D - M) 0).tdiv 10) = (max (D - M) 0).tdiv 10 := tdiv_bd (by omega) (by omega)
  have HQ := Lib.hid (And.intro q1 (And.intro q2 (And.intro q3 q4)))
  have HBD := Lib.hid (And.intro hbd (And.intro hbe (And.intro hbm (And.intro k1 k2))))
  obtain ⟨fl, hfl⟩ : ∃ n, fs.length = n := ⟨_, rfl⟩
  rw [hfl] at CP CD1 CD2 CD3 CG HC HV ⊢
  unfold NumPost
  clear cP cD cD1 cD2 cD3 cG hin hin1 hf hb hv hR hR0 hc hg hD hG hE hH hM hL hu hu0 hfl c0 c2 q1 q2 q3 q4 hbd hbe hbm k1 k2
  go_enter Tryz.func12, Tryz.ntmps12
  go_wp2_with fail
  change Calls _ _ _ (w.alloc (.cells #[.int .i64 st, .string rs, .slice fa fl fc, .slice ba bn bc] 25)) _
  rw [HV.out]
  refine CP.out.mono ?_
  rintro e w2 ⟨rfl, hb2⟩
  obtain ⟨x, hx⟩ : ∃ x, (w2.alloc (.cells #[.bool false, .bool false, .bool false, .bool false, .bool false, .bool false, .bool false, .bool false, .int .i64 0, .int .i64 0, .int .i64 0, .int .i64 0] 29)).setCells w2.heap.size 0 [.bool b0, .bool b1, .bool b2, .bool b3, .bool b4, .bool b5, .bool b6, .bool b7, .int .i64 z8, .int .i64 z9, .int .i64 z10, .int .i64 z11] = x := ⟨_, rfl⟩
  have hn := ctl_new w2 ⟨b0, b1, b2, b3, b4, b5, b6, b7, z8, z9, z10, z11⟩
  simp only at hn
  have HT := Lib.hid hn.2.2
  have HBX := Lib.hid (show Below v.heap.size v x by rw [← hx]; exact hb2.trans (hn.2.1.mono hb2.size))
  have HCT : Hid (∀ y, Below x.heap.size x y → CtlAt y w2.heap.size ⟨b0, b1, b2, b3, b4, b5, b6, b7, z8, z9, z10, z11⟩) := Lib.hid (fun y hy => by
    have h := hn.1
    rw [hx] at h
    exact (hy.block _ (Array.getElem?_eq_some_iff.1 h).1).trans h)
  obtain ⟨n0, n1, n2, n3, n4, n5, n6, n7, n8, n9, n10, n11⟩ := ctl_reads (hn.1)
  simp only at n8 n9
  have HX := Lib.hid hx
  have HBE := Lib.hid (HB.out.trans (HBX.out.mono HB.out.size))
  clear hb2 hn n0 n1 n2 n3 n4 n5 n6 n7 n10 n11 hx
  have SX : ∀ y, Below x.heap.size x y → Below w.heap.size w y := fun y hy => HBE.out.trans (hy.mono HBE.out.size)
  have SV : ∀ y, Below x.heap.size x y → Below v.heap.size v y := fun y hy => HBX.out.trans (hy.mono HBX.out.size)
  have HSX := Lib.hid SX
  have HSV := Lib.hid SV
  clear SX SV
  by_cases s9 : 0 ≤ z9
  · have e9 : decide (0 ≤ z9) = true := decide_eq_true s9
    have HRR : Hid (z9 = R) := Lib.hid (by have := HBD.out; rw [HR.out, if_pos s9]; omega)
    clear s9 n8
    go_wp2_with ((with_reducible show wpList _ _ _ (⟨none, .store 29 _ _, _, _, _, _⟩ :: _) _ _); refine wpList_store_mid rfl 29 (.tmp 3) (.tmp 14) rfl w2.heap.size 0 #[.bool b0, .bool b1, .bool b2, .bool b3, .bool b4, .bool b5, .bool b6, .bool b7, .int .i64 z8, .int .i64 z9, .int .i64 z10, .int .i64 z11] rfl rfl HT.out infoCtl (onesCtl ⟨b0, b1, b2, b3, b4, b5, b6, b7, z8, z9, z10, z11⟩) ?_)
    rw [HX.out]
    go_ret
    exact ⟨by rw [← HRR.out]; rfl, HBE.out⟩
  · have e9 : decide (0 ≤ z9) = false := decide_eq_false s9
    by_cases s8 : 0 ≤ z8
    · have e8 : decide (0 ≤ z8) = true := decide_eq_true s8
      have HRR : Hid (z8 = R) := Lib.hid (by have := HBD.out; rw [HR.out, if_neg s9, if_pos s8]; omega)
      clear s9 s8
      go_wp2_with ((with_reducible show wpList _ _ _ (⟨none, .store 29 _ _, _, _, _, _⟩ :: _) _ _); refine wpList_store_mid rfl 29 (.tmp 3) (.tmp 14) rfl w2.heap.size 0 #[.bool b0, .bool b1, .bool b2, .bool b3, .bool b4, .bool b5, .bool b6, .bool b7, .int .i64 z8, .int .i64 z9, .int .i64 z10, .int .i64 z11] rfl rfl HT.out infoCtl (onesCtl ⟨b0, b1, b2, b3, b4, b5, b6, b7, z8, z9, z10, z11⟩) ?_)
      rw [HX.out]
      go_ret
      exact ⟨by rw [← HRR.out]; rfl, HBE.out⟩
    · have e8 : decide (0 ≤ z8) = false := decide_eq_false s8
      have HRR : Hid (R = min (if g.isSome then (if H && G then max (E - D) 0 else 0) else if L && G && (u || b3) then min (max ((D - M).tdiv 10) 0) 86400 else 0) 2147483647) := Lib.hid (by rw [HR.out, if_neg s9, if_neg s8])
      clear s9 s8
      go_wp2_with first | ((with_reducible show wpList _ _ _ (⟨none, .store 29 _ _, _, _, _, _⟩ :: _) _ _); refine wpList_store_mid rfl 29 (.tmp 3) (.tmp 14) rfl w2.heap.size 0 #[.bool b0, .bool b1, .bool b2, .bool b3, .bool b4, .bool b5, .bool b6, .bool b7, .int .i64 z8, .int .i64 z9, .int .i64 z10, .int .i64 z11] rfl rfl HT.out infoCtl (onesCtl ⟨b0, b1, b2, b3, b4, b5, b6, b7, z8, z9, z10, z11⟩) ?_; have n2 := (HC.out x HBX.out).2; rw [← HX.out] at n2) | fail
      rw [HX.out]
      refine (CD1.out _ HBX.out).mono ?_
      rintro e w3 ⟨rfl, hb3⟩
      have HB3 := Lib.hid hb3
      have n2' := (HC.out w3 (HSV.out _ hb3)).2
      clear n2 n8 n9 e8 e9 hb3
      go_wp2_with fail
      refine (CG.out _ (HSV.out _ HB3.out)).mono ?_
      rintro e w4 ⟨hb4, ⟨rfl, rfl⟩ | ⟨y, rfl, rfl⟩⟩
      · have HB4 := Lib.hid (HB3.out.trans (hb4.mono HB3.out.size))
        have n2' := (HC.out w4 (HSV.out _ HB4.out)).2
        clear hb4
        go_wp2_with fail
        refine (CD3.out _ (HSV.out _ HB4.out)).mono ?_
        rintro e w5 ⟨rfl, hb5⟩
        have HB5 := Lib.hid (HB4.out.trans (hb5.mono HB4.out.size))
        have n0' := (HC.out w5 (HSV.out _ HB5.out)).1
        clear hb5 n2'
        cases L with
        | false =>
          go_wp2
          go_ret
          exact ⟨by rw [HRR.out]; rfl, HSX.out _ HB5.out⟩
        | true =>
          cases G with
          | false =>
            go_wp2
            go_ret
            exact ⟨by rw [HRR.out]; rfl, HSX.out _ HB5.out⟩
          | true =>
            go_wp2_with fail
            refine (HU.out _).mono ?_
            rintro e w6 ⟨rfl, hb6⟩
            have HB6 := Lib.hid (HB5.out.trans (hb6.mono HB5.out.size))
            have n3' := (ctl_reads (HCT.out w6 HB6.out)).2.2.2.1
            simp only at n3'
            clear hb6 n0'
            have q2 := HQ.out.2.1
            have q3 := HQ.out.2.2.1
            have q4 := HQ.out.2.2.2
            cases u with
            | true =>
              go_wp2
              go_ret
              exact ⟨by rw [HRR.out]; exact congrArg (fun x => Ending.returned (.int .i64 x)) (show min ((max (D - M) 0).tdiv 10) 86400 = _ by simp [tdiv_max]; omega), HSX.out _ HB6.out⟩
            | false =>
              cases b3 with
              | true =>
                go_wp2
                go_ret
                exact ⟨by rw [HRR.out]; exact congrArg (fun x => Ending.returned (.int .i64 x)) (show min ((max (D - M) 0).tdiv 10) 86400 = _ by simp [tdiv_max]; omega), HSX.out _ HB6.out⟩
              | false =>
                go_wp2
                go_ret
                exact ⟨by rw [HRR.out]; rfl, HSX.out _ HB6.out⟩
      · have HB4 := Lib.hid (HB3.out.trans (hb4.mono HB3.out.size))
        have n2' := (HC.out w4 (HSV.out _ HB4.out)).2
        clear hb4
        go_wp2_with fail
        refine (CD2.out _ (HSV.out _ HB4.out)).mono ?_
        rintro e w5 ⟨rfl, hb5⟩
        have HB5 := Lib.hid (HB4.out.trans (hb5.mono HB4.out.size))
        clear hb5 n2'
        have q1 := HQ.out.1
        cases H with
        | false =>
          go_wp2
          go_ret
          exact ⟨by rw [HRR.out]; rfl, HSX.out _ HB5.out⟩
        | true =>
          cases G with
          | false =>
            go_wp2
            go_ret
            exact ⟨by rw [HRR.out]; rfl, HSX.out _ HB5.out⟩
          | true =>
            go_wp2
            go_ret
            exact ⟨by rw [HRR.out]; rfl, HSX.out _ HB5.out⟩
end Go.Proofs.YtaimhfnddolilaaGreatDoor
namespace Go.Proofs.YtaimhfnddolilaaGreatDoor
open Go.RowKit HeadMath HeadS CtrlS DateMath VaryS

set_option maxRecDepth 100000 in
set_option maxHeartbeats 16000000 in
theorem refServ_any (q : Ctl) (fs : Flf) (st asked came now : Int) (rs : ByteArray) (fa ba : Option Addr) (fc bn bc : Nat) (w : World) (hin : FieldsIn w.heap.size w fa fs) (hf : FewF fs) :
    Calls Tryz.prog 16 #[ctlV q, .agg #[.int .i64 st, .string rs, .slice fa fs.length fc, .slice ba bn bc], .agg #[.int .i64 asked, .int .i64 came], .int .i64 now] w (BoolPost (servF q st fs asked came now) w) := by
  obtain ⟨a0, a1, a2, a3, a4, a5, a6, a7, y8, y9, y10, y11⟩ := q
  show Calls _ _ #[.agg #[.bool a0, .bool a1, .bool a2, .bool a3, .bool a4, .bool a5, .bool a6, .bool a7, .int .i64 y8, .int .i64 y9, .int .i64 y10, .int .i64 y11], _, _, _] _ _
  obtain ⟨v, hv⟩ : ∃ v, ((w.alloc (.cells #[.bool a0, .bool a1, .bool a2, .bool a3, .bool a4, .bool a5, .bool a6, .bool a7, .int .i64 y8, .int .i64 y9, .int .i64 y10, .int .i64 y11] 29)).alloc (.cells #[.int .i64 st, .string rs, .slice fa fs.length fc, .slice ba bn bc] 25)).alloc (.cells #[.int .i64 asked, .int .i64 came] 27) = v := ⟨_, rfl⟩
  have h3 := three_newF w (.cells #[.bool a0, .bool a1, .bool a2, .bool a3, .bool a4, .bool a5, .bool a6, .bool a7, .int .i64 y8, .int .i64 y9, .int .i64 y10, .int .i64 y11] 29) (.cells #[.int .i64 st, .string rs, .slice fa fs.length fc, .slice ba bn bc] 25) (.cells #[.int .i64 asked, .int .i64 came] 27)
  simp only at h3
  rw [hv] at h3
  obtain ⟨g0, g1, g2, hsz, hb⟩ := h3
  have HGQ : Hid (∀ y, Below v.heap.size v y → CtlAt y w.heap.size ⟨a0, a1, a2, a3, a4, a5, a6, a7, y8, y9, y10, y11⟩) := Lib.hid (fun y hy => (hy.block _ (by omega)).trans g0)
  have HGR : Hid (∀ y, Below v.heap.size v y → y.heap[w.heap.size + 1]? = some (.cells #[.int .i64 st, .string rs, .slice fa fs.length fc, .slice ba bn bc] 25 (0, 0))) := Lib.hid (fun y hy => (hy.block _ (by omega)).trans g1)
  have HGT : Hid (∀ y, Below v.heap.size v y → y.heap[w.heap.size + 1 + 1]? = some (.cells #[.int .i64 asked, .int .i64 came] 27 (0, 0))) := Lib.hid (fun y hy => (hy.block _ (by omega)).trans g2)
  have c2 := (four_at g1).2.2.1
  have hin1 : FieldsIn v.heap.size v fa fs := kin_in (w := w) ⟨v, hb⟩ hin
  have cP := refControl_any fs fa fc v hin1 hf
  unfold CtrlS.ParsePost at cP
  have cA : ∀ x, Below v.heap.size v x → Calls Tryz.prog 14 #[.agg #[.int .i64 st, .string rs, .slice fa fs.length fc, .slice ba bn bc], .agg #[.int .i64 asked, .int .i64 came], .int .i64 now] x (NumPost (ageF fs asked came now) x) := fun x hx => refAge_any fs st asked came now rs fa ba fc bn bc x (kin_in (w := v) ⟨x, hx⟩ hin1) hf
  have cL : ∀ x, Below v.heap.size v x → Calls Tryz.prog 12 #[.agg #[.int .i64 st, .string rs, .slice fa fs.length fc, .slice ba bn bc]] x (NumPost (lifeF st fs) x) := fun x hx => refLife_any fs st rs fa ba fc bn bc x (kin_in (w := v) ⟨x, hx⟩ hin1) hf
  have hbA := ageF_bd fs asked came now
  have hbL := lifeF_bd st fs
  have hR0 : servF ⟨a0, a1, a2, a3, a4, a5, a6, a7, y8, y9, y10, y11⟩ st fs asked came now = if a1 || (parseF fs).noCache then false
    else if 0 ≤ y8 ∧ y8 < ageF fs asked came now then false
    else if ageF fs asked came now < lifeF st fs then decide (y10 ≤ lifeF st fs - ageF fs asked came now)
    else if (parseF fs).must || (parseF fs).prox || decide (0 ≤ (parseF fs).sMax) || decide (0 ≤ y10) then false
    else a7 || (decide (0 ≤ y11) && decide (ageF fs asked came now - lifeF st fs ≤ y11)) := rfl
  obtain ⟨c, hc⟩ : ∃ c, parseF fs = c := ⟨_, rfl⟩
  obtain ⟨A, hA⟩ : ∃ A, ageF fs asked came now = A := ⟨_, rfl⟩
  obtain ⟨L, hL⟩ : ∃ L, lifeF st fs = L := ⟨_, rfl⟩
  obtain ⟨R, hR⟩ : ∃ R, servF ⟨a0, a1, a2, a3, a4, a5, a6, a7, y8, y9, y10, y11⟩ st fs asked came now = R := ⟨_, rfl⟩
  rw [hc, hA, hL, hR] at hR0
  rw [hR]
  rw [hA] at cA hbA
  rw [hL] at cL hbL
  rw [hc] at cP
  obtain ⟨b0, b1, b2, b3, b4, b5, b6, b7, z8, z9, z10, z11⟩ := c
  simp only at hR0
  unfold ctlV at cP
  simp only at cP
  unfold NumPost at cA cL
  have CP := Lib.hid cP
  have CA := Lib.hid cA
  have CL := Lib.hid cL
  have HR := Lib.hid hR0
  have HV := Lib.hid hv
  have HB := Lib.hid hb
  have q1 : IntKind.i64.wrap (L - A) = L - A := by rw [IntKind.wrap_i64]; omega
  have q2 : IntKind.i64.wrap (A - L) = A - L := by rw [IntKind.wrap_i64]; omega
  have HBD := Lib.hid (And.intro hbA hbL)
  obtain ⟨fl, hfl⟩ : ∃ n, fs.length = n := ⟨_, rfl⟩
  rw [hfl] at CP CA CL HGR HV c2 ⊢
  unfold BoolPost
  clear cP cA cL hin hin1 hf hb hv hR hR0 hc hA hL hfl hbA hbL g0 g1 g2 hsz
  have k1 := (ctl_reads (HGQ.out v (Below.refl _ _))).2.1
  go_enter Tryz.func16, Tryz.ntmps16
  go_wp2_with fail
  change Calls _ _ _ (((w.alloc (.cells #[.bool a0, .bool a1, .bool a2, .bool a3, .bool a4, .bool a5, .bool a6, .bool a7, .int .i64 y8, .int .i64 y9, .int .i64 y10, .int .i64 y11] 29)).alloc (.cells #[.int .i64 st, .string rs, .slice fa fl fc, .slice ba bn bc] 25)).alloc (.cells #[.int .i64 asked, .int .i64 came] 27)) _
  rw [HV.out]
  refine CP.out.mono ?_
  rintro e w2 ⟨rfl, hb2⟩
  obtain ⟨x, hx⟩ : ∃ x, (w2.alloc (.cells #[.bool false, .bool false, .bool false, .bool false, .bool false, .bool false, .bool false, .bool false, .int .i64 0, .int .i64 0, .int .i64 0, .int .i64 0] 29)).setCells w2.heap.size 0 [.bool b0, .bool b1, .bool b2, .bool b3, .bool b4, .bool b5, .bool b6, .bool b7, .int .i64 z8, .int .i64 z9, .int .i64 z10, .int .i64 z11] = x := ⟨_, rfl⟩
  have hn := ctl_new w2 ⟨b0, b1, b2, b3, b4, b5, b6, b7, z8, z9, z10, z11⟩
  simp only at hn
  have HT := Lib.hid hn.2.2
  have hvx : Below v.heap.size v x := by rw [← hx]; exact hb2.trans (hn.2.1.mono hb2.size)
  have HBX := Lib.hid hvx
  have hct : CtlAt x w2.heap.size ⟨b0, b1, b2, b3, b4, b5, b6, b7, z8, z9, z10, z11⟩ := by have h := hn.1; rw [hx] at h; exact h
  have HX := Lib.hid hx
  have HBE := Lib.hid (HB.out.trans (HBX.out.mono HB.out.size))
  have HSX : Hid (∀ z : Kin x, Below w.heap.size w z.wd) := Lib.hid (fun z => HBE.out.trans (z.below.mono HBE.out.size))
  have HSV : Hid (∀ z : Kin x, Below v.heap.size v z.wd) := Lib.hid (fun z => HBX.out.trans (z.below.mono HBX.out.size))
  have HQK : Hid (∀ z : Kin x, z.wd.cell? ⟨w.heap.size, 1, none⟩ = some (.bool a1) ∧ z.wd.cell? ⟨w.heap.size, 7, none⟩ = some (.bool a7) ∧ z.wd.cell? ⟨w.heap.size, 8, none⟩ = some (.int .i64 y8) ∧ z.wd.cell? ⟨w.heap.size, 10, none⟩ = some (.int .i64 y10) ∧ z.wd.cell? ⟨w.heap.size, 11, none⟩ = some (.int .i64 y11)) := Lib.hid (fun z => by
    obtain ⟨n0, n1, n2, n3, n4, n5, n6, n7, n8, n9, n10, n11⟩ := ctl_reads (HGQ.out _ (HSV.out z))
    exact ⟨n1, n7, n8, n10, n11⟩)
  have HCK : Hid (∀ z : Kin x, z.wd.cell? ⟨w2.heap.size, 1, none⟩ = some (.bool b1) ∧ z.wd.cell? ⟨w2.heap.size, 4, none⟩ = some (.bool b4) ∧ z.wd.cell? ⟨w2.heap.size, 5, none⟩ = some (.bool b5) ∧ z.wd.cell? ⟨w2.heap.size, 9, none⟩ = some (.int .i64 z9)) := Lib.hid (fun z => by
    have h : CtlAt z.wd w2.heap.size ⟨b0, b1, b2, b3, b4, b5, b6, b7, z8, z9, z10, z11⟩ := (z.below.block _ (Array.getElem?_eq_some_iff.1 hct).1).trans hct
    obtain ⟨n0, n1, n2, n3, n4, n5, n6, n7, n8, n9, n10, n11⟩ := ctl_reads h
    exact ⟨n1, n4, n5, n9⟩)
  have HRK : Hid (∀ z : Kin x, z.wd.cell? ⟨w.heap.size + 1, 0, none⟩ = some (.int .i64 st) ∧ z.wd.cell? ⟨w.heap.size + 1, 1, none⟩ = some (.string rs) ∧ z.wd.cell? ⟨w.heap.size + 1, 2, none⟩ = some (.slice fa fl fc) ∧ z.wd.cell? ⟨w.heap.size + 1, 3, none⟩ = some (.slice ba bn bc)) := Lib.hid (fun z => four_at (HGR.out _ (HSV.out z)))
  have HTK : Hid (∀ z : Kin x, z.wd.cell? ⟨w.heap.size + 1 + 1, 0, none⟩ = some (.int .i64 asked) ∧ z.wd.cell? ⟨w.heap.size + 1 + 1, 1, none⟩ = some (.int .i64 came)) := Lib.hid (fun z => two_at (HGT.out _ (HSV.out z)))
  have M1 : Hid (∀ z : Kin x, Calls Tryz.prog 14 #[.agg #[.int .i64 st, .string rs, .slice fa fl fc, .slice ba bn bc], .agg #[.int .i64 asked, .int .i64 came], .int .i64 now] z.wd fun e w'' => e = .returned (.int .i64 A) ∧ ∃ y : Kin x, w'' = y.wd) := Lib.hid (fun z => Kin.calls (CA.out _ (HSV.out z)))
  have M2 : Hid (∀ z : Kin x, Calls Tryz.prog 12 #[.agg #[.int .i64 st, .string rs, .slice fa fl fc, .slice ba bn bc]] z.wd fun e w'' => e = .returned (.int .i64 L) ∧ ∃ y : Kin x, w'' = y.wd) := Lib.hid (fun z => Kin.calls (CL.out _ (HSV.out z)))
  clear hb2 hn hx hvx hct c2 k1
  go_upto_region 2 with ((with_reducible show wpList _ _ _ (⟨none, .store 29 _ _, _, _, _, _⟩ :: _) _ _); refine wpList_store_mid rfl 29 (.tmp 9) (.tmp 14) rfl w2.heap.size 0 #[.bool b0, .bool b1, .bool b2, .bool b3, .bool b4, .bool b5, .bool b6, .bool b7, .int .i64 z8, .int .i64 z9, .int .i64 z10, .int .i64 z11] rfl rfl HT.out infoCtl (onesCtl ⟨b0, b1, b2, b3, b4, b5, b6, b7, z8, z9, z10, z11⟩) ?_)
  rw [HX.out]
  simp only [Act.put]
  have a0' := fun z => (HRK.out z).1
  have a1' := fun z => (HRK.out z).2.1
  have a2' := fun z => (HRK.out z).2.2.1
  have a3' := fun z => (HRK.out z).2.2.2
  have t0' := fun z => (HTK.out z).1
  have t1' := fun z => (HTK.out z).2
  refine wp_region_kin (by kernel_rfl) (by kernel_rfl) ?_
  repeat (go_big_quiet_step (first | (go_at_call 14; with_reducible exact M1.out _) | (go_at_call 12; with_reducible exact M2.out _)))
  refine wpQuiet_nil ?_
  intro _ hx
  obtain ⟨z, rfl⟩ := hx
  clear a0' a1' a2' a3' t0' t1'
  have i1 := (HQK.out z).1
  have i7 := (HQK.out z).2.1
  have i8 := (HQK.out z).2.2.1
  have i10 := (HQK.out z).2.2.2.1
  have i11 := (HQK.out z).2.2.2.2
  have j1 := (HCK.out z).1
  have j4 := (HCK.out z).2.1
  have j5 := (HCK.out z).2.2.1
  have j9 := (HCK.out z).2.2.2
  have HE := Lib.hid (HSX.out z)
  have hbd := HBD.out
  cases a1 with
  | true =>
    go_wp2
    go_ret
    exact ⟨by rw [HR.out]; rfl, HE.out⟩
  | false =>
    cases b1 with
    | true =>
      go_wp2
      go_ret
      exact ⟨by rw [HR.out]; rfl, HE.out⟩
    | false =>
      have HS : Hid (R = servL A L y8 y10 y11 z9 b4 b5 a7) := Lib.hid HR.out
      by_cases s1 : 0 ≤ y8
      · have e1 : decide (0 ≤ y8) = true := decide_eq_true s1
        by_cases s2 : y8 < A
        · have e2 : decide (y8 < A) = true := decide_eq_true s2
          go_wp2
          go_ret
          exact ⟨congrArg (fun b => Ending.returned (.bool b)) (show (false : Bool) = R from (HS.out.trans (servL1 (by omega) (by omega))).symm), HE.out⟩
        · have e2 : decide (y8 < A) = false := decide_eq_false s2
          have hn : ¬ (0 ≤ y8 ∧ y8 < A) := by omega
          by_cases s3 : A < L
          · have e3 : decide (A < L) = true := decide_eq_true s3
            by_cases s0 : y10 < 0
            · have e0 : decide (y10 < 0) = true := decide_eq_true s0
              go_wp2
              go_ret
              exact ⟨congrArg (fun b => Ending.returned (.bool b)) (show (true : Bool) = R from (HS.out.trans ((servL2 (by omega) (by omega)).trans (decide_eq_true (by omega)))).symm), HE.out⟩
            · have e0 : decide (y10 < 0) = false := decide_eq_false s0
              go_wp2
              go_ret
              exact ⟨congrArg (fun b => Ending.returned (.bool b)) (show (decide (y10 ≤ L - A) : Bool) = R from (HS.out.trans (servL2 (by omega) (by omega))).symm), HE.out⟩
          · have e3 : decide (A < L) = false := decide_eq_false s3
            cases b4 with
            | true =>
              go_wp2
              go_ret
              exact ⟨congrArg (fun b => Ending.returned (.bool b)) (show (false : Bool) = R from (HS.out.trans (servL3 (by omega) (by omega) (.inl rfl))).symm), HE.out⟩
            | false =>
              cases b5 with
              | true =>
                go_wp2
                go_ret
                exact ⟨congrArg (fun b => Ending.returned (.bool b)) (show (false : Bool) = R from (HS.out.trans (servL3 (by omega) (by omega) (.inr (.inl rfl)))).symm), HE.out⟩
              | false =>
                by_cases s9 : 0 ≤ z9
                · have e9 : decide (0 ≤ z9) = true := decide_eq_true s9
                  go_wp2
                  go_ret
                  exact ⟨congrArg (fun b => Ending.returned (.bool b)) (show (false : Bool) = R from (HS.out.trans (servL3 (by omega) (by omega) (.inr (.inr (.inl (by omega)))))).symm), HE.out⟩
                · have e9 : decide (0 ≤ z9) = false := decide_eq_false s9
                  by_cases s10 : 0 ≤ y10
                  · have e10 : decide (0 ≤ y10) = true := decide_eq_true s10
                    go_wp2
                    go_ret
                    exact ⟨congrArg (fun b => Ending.returned (.bool b)) (show (false : Bool) = R from (HS.out.trans (servL3 (by omega) (by omega) (.inr (.inr (.inr (by omega)))))).symm), HE.out⟩
                  · have e10 : decide (0 ≤ y10) = false := decide_eq_false s10
                    cases a7 with
                    | true =>
                      go_wp2
                      go_ret
                      exact ⟨congrArg (fun b => Ending.returned (.bool b)) (show (true : Bool) = R from (HS.out.trans (servL4 (by omega) (by omega) rfl rfl (by omega) (by omega))).symm), HE.out⟩
                    | false =>
                      by_cases s11 : 0 ≤ y11
                      · have e11 : decide (0 ≤ y11) = true := decide_eq_true s11
                        go_wp2
                        go_ret
                        exact ⟨congrArg (fun b => Ending.returned (.bool b)) (show (decide (A - L ≤ y11) : Bool) = R from (HS.out.trans (by rw [servL4 (by omega) (by omega) rfl rfl (by omega) (by omega), e11]; rfl)).symm), HE.out⟩
                      · have e11 : decide (0 ≤ y11) = false := decide_eq_false s11
                        go_wp2
                        go_ret
                        exact ⟨congrArg (fun b => Ending.returned (.bool b)) (show (false : Bool) = R from (HS.out.trans (by rw [servL4 (by omega) (by omega) rfl rfl (by omega) (by omega), e11]; rfl)).symm), HE.out⟩
      · have e1 : decide (0 ≤ y8) = false := decide_eq_false s1
        have hn : ¬ (0 ≤ y8 ∧ y8 < A) := by omega
        by_cases s3 : A < L
        · have e3 : decide (A < L) = true := decide_eq_true s3
          by_cases s0 : y10 < 0
          · have e0 : decide (y10 < 0) = true := decide_eq_true s0
            go_wp2
            go_ret
            exact ⟨congrArg (fun b => Ending.returned (.bool b)) (show (true : Bool) = R from (HS.out.trans ((servL2 (by omega) (by omega)).trans (decide_eq_true (by omega)))).symm), HE.out⟩
          · have e0 : decide (y10 < 0) = false := decide_eq_false s0
            go_wp2
            go_ret
            exact ⟨congrArg (fun b => Ending.returned (.bool b)) (show (decide (y10 ≤ L - A) : Bool) = R from (HS.out.trans (servL2 (by omega) (by omega))).symm), HE.out⟩
        · have e3 : decide (A < L) = false := decide_eq_false s3
          cases b4 with
          | true =>
            go_wp2
            go_ret
            exact ⟨congrArg (fun b => Ending.returned (.bool b)) (show (false : Bool) = R from (HS.out.trans (servL3 (by omega) (by omega) (.inl rfl))).symm), HE.out⟩
          | false =>
            cases b5 with
            | true =>
              go_wp2
              go_ret
              exact ⟨congrArg (fun b => Ending.returned (.bool b)) (show (false : Bool) = R from (HS.out.trans (servL3 (by omega) (by omega) (.inr (.inl rfl)))).symm), HE.out⟩
            | false =>
              by_cases s9 : 0 ≤ z9
              · have e9 : decide (0 ≤ z9) = true := decide_eq_true s9
                go_wp2
                go_ret
                exact ⟨congrArg (fun b => Ending.returned (.bool b)) (show (false : Bool) = R from (HS.out.trans (servL3 (by omega) (by omega) (.inr (.inr (.inl (by omega)))))).symm), HE.out⟩
              · have e9 : decide (0 ≤ z9) = false := decide_eq_false s9
                by_cases s10 : 0 ≤ y10
                · have e10 : decide (0 ≤ y10) = true := decide_eq_true s10
                  go_wp2
                  go_ret
                  exact ⟨congrArg (fun b => Ending.returned (.bool b)) (show (false : Bool) = R from (HS.out.trans (servL3 (by omega) (by omega) (.inr (.inr (.inr (by omega)))))).symm), HE.out⟩
                · have e10 : decide (0 ≤ y10) = false := decide_eq_false s10
                  cases a7 with
                  | true =>
                    go_wp2
                    go_ret
                    exact ⟨congrArg (fun b => Ending.returned (.bool b)) (show (true : Bool) = R from (HS.out.trans (servL4 (by omega) (by omega) rfl rfl (by omega) (by omega))).symm), HE.out⟩
                  | false =>
                    by_cases s11 : 0 ≤ y11
                    · have e11 : decide (0 ≤ y11) = true := decide_eq_true s11
                      go_wp2
                      go_ret
                      exact ⟨congrArg (fun b => Ending.returned (.bool b)) (show (decide (A - L ≤ y11) : Bool) = R from (HS.out.trans (by rw [servL4 (by omega) (by omega) rfl rfl (by omega) (by omega), e11]; rfl)).symm), HE.out⟩
                    · have e11 : decide (0 ≤ y11) = false := decide_eq_false s11
                      go_wp2
                      go_ret
                      exact ⟨congrArg (fun b => Ending.returned (.bool b)) (show (false : Bool) = R from (HS.out.trans (by rw [servL4 (by omega) (by omega) rfl rfl (by omega) (by omega), e11]; rfl)).symm), HE.out⟩
end Go.Proofs.YtaimhfnddolilaaGreatDoor
