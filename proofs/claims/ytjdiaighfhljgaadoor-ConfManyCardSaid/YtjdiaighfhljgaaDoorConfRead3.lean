/-
  conf.read: rules.
-/
import Derived.Test.YtjdiaighfhljgaaDoorConfRead2
namespace Go.Proofs.YtjdiaighfhljgaaDoor
open Go.RowKit GlobMath DateMath

theorem ruleInfo : (Tryd.prog.info? 50).map (fun i => (i.zero, i.size, i.bytes)) = some (some (.agg #[.bool false, .string ⟨#[]⟩, .string ⟨#[]⟩, .string ⟨#[]⟩]), 4, 56) := by kernel_rfl
/-- The row of rules has grown, and is stored where it was. -/
theorem IsC.grow {B p : Nat} {c : ConfS} {u w4 : World} {v v' : Value} {xs ys : List Value} (h1 : p < B) (h2 : B ≤ u.heap.size) (h3 : u.heap[p]? = some (.cells #[v, .bool c.ranges, .string c.console, .int .i64 c.log] 27 (0, 0))) (h4 : u.ownsRow B 50 4 v c.n xs)
    (ho : w4.ownsRow B 50 4 v' (c.n + 1) ys) (hg : u.grownBy w4 v.ownBlock) :
    w4.heap[p]? = some (.cells #[v, .bool c.ranges, .string c.console, .int .i64 c.log] 27 (0, 0)) ∧ IsC B p { c with n := c.n + 1 } (w4.setCell ⟨p, 0, none⟩ v') ∧ Spares (foot B p) u (w4.setCell ⟨p, 0, none⟩ v') := by
  have hv : ∀ g, v.ownBlock = some g → B ≤ g := fun g hg => (World.ownsRow.lt h4 g hg).1
  have hs1 : Spares (foot B p) u w4 := (Spares.refl _ u).grown hg (fun k hk => .inl (.inr (hv k hk)))
  have hp : w4.heap[p]? = some (.cells #[v, .bool c.ranges, .string c.console, .int .i64 c.log] 27 (0, 0)) := by
    rw [hg.block p (by omega) (fun e => by have := hv p e.symm; omega)]; exact h3
  have hs2 : Spares (fun b => b = p) w4 (w4.setCell ⟨p, 0, none⟩ v') := Spares.setCell (F := fun b => b = p) (Spares.refl _ w4) (p := ⟨p, 0, none⟩) (.inl rfl) _
  refine ⟨hp, ⟨h1, Nat.le_trans h2 (Nat.le_trans hs1.size hs2.size), v', ys, ?_, hs2.own ho (fun g hg e => ?_)⟩, hs1.trans' hs2 (fun b hb => .inl (.inl hb))⟩
  · simp only [World.setCell, Array.getElem?_modify, hp]
    simp
  · have := (World.ownsRow.lt ho g hg).1
    omega
theorem rule_cells (w : World) (a : Bool) (m h p : ByteArray) : ∀ j u, [Value.bool a, .string m, .string h, .string p][j]? = some u → (w.alloc (.cells #[.bool a, .string m, .string h, .string p] 50)).cell? ((⟨w.heap.size, 0, none⟩ : Addr).add j) = some u :=
  fun j u hu => World.news_of_block (heap_alloc_new w (.cells #[.bool a, .string m, .string h, .string p] 50)) j u hu
set_option maxHeartbeats 8000000 in
theorem read_rule (B p : Nat) (c : ConfS) (s : ByteArray) (w : World) (hs : s.size ≤ 1000000) (hn : c.n ≤ 1000) (x : ByteArray) (r : List ByteArray) (hL : wordsL s = x :: r) (hO : Other x) (al : Bool) (me ho pa : ByteArray) (hR : ruleL (wordsL s) = .tuple #[ruleA al me ho pa, .int .i64 0]) (hC : IsC B p c w) : Calls Tryd.prog 11 #[.pointer (some ⟨p, 0, none⟩), .string s] w (ReadPost B p c .rule w) := by
  have HC := Lib.hid hC
  clear hC
  have cW := fun w => words_any s w hs
  unfold WordsPost at cW
  have cR := fun w => rule_any s w hs
  unfold RulePost at cR
  rw [hR] at cR
  unfold ruleA at cR
  simp only [hL] at cW
  clear hL hR
  obtain ⟨⟨hx, h35⟩, e1, e2, e3⟩ := hO
  have q : ((x[0].toNat : Int) == 35) = false := by
    have hl := x[0].toNat_lt
    have : ¬ x[0].toNat = 35 := fun h => h35 (UInt8.toNat_inj.1 (by simpa using h))
    simp; omega
  have q1 : (x.toList == [114, 97, 110, 103, 101, 115]) = false := by rw [Lib.toList_data]; exact e1
  have q2 : (x.toList == [99, 111, 110, 115, 111, 108, 101]) = false := by rw [Lib.toList_data]; exact e2
  have q3 : (x.toList == [108, 111, 103]) = false := by rw [Lib.toList_data]; exact e3
  clear h35 e1 e2 e3
  go_enter Tryd.func11, Tryd.ntmps11
  go_wp2_with fail
  refine (cW w).mono ?_
  rintro e v2 ⟨v, rfl, hr, hb⟩
  have HS := Lib.hid (below_none hb)
  rcases hr.shape with ⟨rfl, hl0⟩ | ⟨g, cp, rfl, _, hg, hc, hcells⟩
  · cases hl0
  · have c0 : v2.cell? ⟨g, 0, none⟩ = some (.string x) := hcells 0 (Nat.zero_lt_succ _)
    have e0 : (((x :: r).length : Int) == 0) = false := by simp; omega
    obtain ⟨n, hn'⟩ : ∃ n, (x :: r).length = n := ⟨_, rfl⟩
    rw [hn'] at hc e0 ⊢
    have h1 : 1 ≤ n := by rw [← hn']; simp
    have HC2 := Lib.hid (HC.out.spares HS.out)
    clear hr hb cW hcells hn'
    go_wp2_with fail
    refine (cR _).mono ?_
    rintro e w3 ⟨rfl, hs3⟩
    have HS3 := Lib.hid (HS.out.trans hs3)
    have HC3 := Lib.hid (HC2.out.spares hs3)
    clear hs3 cR HS HC2
    obtain ⟨vr, hvr⟩ : ∃ vr, w3.alloc (.cells #[.bool al, .string me, .string ho, .string pa] 50) = vr := ⟨_, rfl⟩
    have hva : vr.cell? ⟨w3.heap.size, 0, none⟩ = some (.bool al) ∧ vr.cell? ⟨w3.heap.size, 1, none⟩ = some (.string me) ∧ vr.cell? ⟨w3.heap.size, 2, none⟩ = some (.string ho) ∧ vr.cell? ⟨w3.heap.size, 3, none⟩ = some (.string pa) := by
      rw [← hvr]
      have := heap_alloc_new w3 (.cells #[.bool al, .string me, .string ho, .string pa] 50)
      refine ⟨?_, ?_, ?_, ?_⟩ <;> (rw [Lib.cell_of_heap this]; rfl)
    have HSR : Hid (Spares nowhere w vr) := Lib.hid (by rw [← hvr]; exact HS3.out.alloc _)
    have hs4 : Spares nowhere w3 vr := by rw [← hvr]; exact (Spares.refl _ _).alloc _
    have HCR : Hid (IsC B p c vr) := Lib.hid (HC3.out.spares hs4)
    have HVR := Lib.hid hvr
    clear hvr HS3
    obtain ⟨g1, g2, rv, xs, g3, g4⟩ := HC3.out
    have hw0 : w3.cell? ⟨p, 0, none⟩ = some rv := by rw [Lib.cell_of_heap g3]; rfl
    have hpn : ¬ p = w3.heap.size := by omega
    have g2' : B ≤ vr.heap.size := Nat.le_trans g2 hs4.size
    have g3' := hs4.heap g3 (fun h => h)
    have g4' := hs4.own g4 (fun _ _ h => h)
    have hc0 : vr.cell? ⟨p, 0, none⟩ = some rv := by rw [Lib.cell_of_heap g3']; rfl
    have G1 := Lib.hid g1
    have G2 := Lib.hid g2'
    have G3 := Lib.hid g3'
    have G4 := Lib.hid g4'
    obtain ⟨ra, rc, rfl⟩ : ∃ ra rc, rv = .slice ra c.n rc := by
      rcases g4.2 with ⟨hv, h2⟩ | ⟨k, cap, cur, hv, _⟩
      · exact ⟨none, 0, by rw [hv, h2]⟩
      · exact ⟨_, _, hv⟩
    have hwa : (w3.alloc (.cells #[.bool al, .string me, .string ho, .string pa] 50)).cell? ⟨p, 0, none⟩ = some (.slice ra c.n rc) := by rw [HVR.out]; exact hc0
    clear g1 g2 g3 g4 g2' g3' g4' hs4 HC3 hw0
    obtain ⟨ha0, ha1, ha2, ha3⟩ := hva
    by_cases hlt : c.n < 50
    · have l1 : decide ((c.n : Int) < 50) = true := by simp; omega
      have l2 : decide (c.n < 50) = true := by simpa using hlt
      have HL := Lib.hid (show stepC c .rule = some { c with n := c.n + 1 } from if_pos hlt)
      clear hlt
      go_wp2_with fail
      change Calls _ _ _ (w3.alloc (.cells #[.bool al, .string me, .string ho, .string pa] 50)) _
      rw [HVR.out]
      refine (demand_yes _).mono ?_
      rintro e w5 ⟨rfl, rfl⟩
      obtain ⟨i0, hi, hz0, hz1, hz2⟩ := info_parts ruleInfo
      have HO : Hid ((w5.drew.alloc (.cells #[.bool al, .string me, .string ho, .string pa] 50)).ownsRow B 50 4 (.slice ra c.n rc) c.n xs) := Lib.hid (World.ownsRow.alloc (show w5.drew.ownsRow B 50 4 (.slice ra c.n rc) c.n xs from G4.out) _)
      have HN := Lib.hid (rule_cells w5.drew al me ho pa)
      have HL1 := Lib.hid (show c.n + 1 ≤ maxLen by unfold maxLen; omega)
      have HL2 := Lib.hid (show (c.n + 1) * 56 ≤ 140737488355328 by omega)
      have HSB := Lib.hid (show B ≤ (w5.drew.alloc (.cells #[.bool al, .string me, .string ho, .string pa] 50)).heap.size from by have := G2.out; simp; omega)
      have HG3 : Hid ((w5.drew.alloc (.cells #[.bool al, .string me, .string ho, .string pa] 50)).heap[p]? = some (.cells #[.slice ra c.n rc, .bool c.ranges, .string c.console, .int .i64 c.log] 27 (0, 0))) := Lib.hid (by
        rw [Below.heap_alloc w5.drew _ p (by have h1 := G1.out; have h2 := G2.out; show p < w5.heap.size; omega)]; exact G3.out)
      have HSW : Hid (Spares nowhere w (w5.drew.alloc (.cells #[.bool al, .string me, .string ho, .string pa] 50))) := Lib.hid (HSR.out.drew.alloc _)
      have hwb : (w5.alloc (.cells #[.bool al, .string me, .string ho, .string pa] 50)).cell? ⟨p, 0, none⟩ = some (.slice ra c.n rc) := (World.cell?_of_block (Below.heap_alloc w5 _ p (by have h1 := G1.out; have h2 := G2.out; omega))).trans hc0
      clear l1 l2
      go_wp2
      go_region_law
        (refine step_append_lies _ (by rfl) _ _ _ (by rfl) B 50 i0 _ 4 56 Tryd.underlying25 hi hz0 hz1 hz2 rfl (by decide) _ c.n xs (by rfl)
           HO.out ⟨w5.heap.size, 0, none⟩ 1 1 [.bool al, .string me, .string ho, .string pa] (by rfl) (by rfl) HN.out (by simp [Value.oneCell']) Nat.one_pos HL1.out HL2.out HSB.out (w5.heap.size + 1) (by simp) ?_
         intro gg cg w4 hown' hgrow _ _
         have hp4 := IsC.grow G1.out HSB.out HG3.out HO.out hown' hgrow
         have f4 : w4.frozen? ⟨p, 0, none⟩ = false := Lib.frozen_of_heap hp4.1 0
         have c4 : w4.cell? ⟨p, 0, none⟩ = some (.slice ra c.n rc) := (Lib.cell_of_heap hp4.1 0).trans rfl
         have HP4 := Lib.hid hp4.2
         clear hown' hgrow hp4)
      all_goals (
        go_wp2
        first | go_end0 | (simp only [Exit.inBlock, Exit.then]; refine bodyPost_ret (results_none rfl _ _ _) rfl ?_) | refine bodyPost_ret (results_none rfl _ _ _) rfl ?_
        exact readPost_some HL.out rfl HP4.out.1 ((spares_foot HSW.out).trans HP4.out.2))
    · have l1 : decide ((c.n : Int) < 50) = false := by simp; omega
      have l2 : decide (c.n < 50) = false := by simpa using hlt
      have HL := Lib.hid (show stepC c .rule = none from if_neg hlt)
      clear hlt
      go_wp2_with fail
      change Calls _ _ _ (w3.alloc (.cells #[.bool al, .string me, .string ho, .string pa] 50)) _
      rw [HVR.out]
      refine (demand_no _).mono ?_
      rintro e w5 ⟨rfl, rfl⟩
      unfold FaultE
      go_wp2
      exact ⟨rfl, readPost_none HL.out rfl HCR.out (spares_foot HSR.out)⟩
set_option maxHeartbeats 8000000 in
theorem read_bad (B p : Nat) (c : ConfS) (s : ByteArray) (w : World) (hs : s.size ≤ 1000000) (x : ByteArray) (r : List ByteArray) (hL : wordsL s = x :: r) (hO : Other x) (hR : ruleL (wordsL s) = noRule) (hC : IsC B p c w) : Calls Tryd.prog 11 #[.pointer (some ⟨p, 0, none⟩), .string s] w (ReadPost B p c .bad w) := by
  have HC := Lib.hid hC
  clear hC
  have cW := fun w => words_any s w hs
  unfold WordsPost at cW
  have cR := fun w => rule_any s w hs
  unfold RulePost at cR
  rw [hR] at cR
  unfold noRule ruleA at cR
  simp only [hL] at cW
  clear hL hR
  obtain ⟨⟨hx, h35⟩, e1, e2, e3⟩ := hO
  have q : ((x[0].toNat : Int) == 35) = false := by
    have hl := x[0].toNat_lt
    have : ¬ x[0].toNat = 35 := fun h => h35 (UInt8.toNat_inj.1 (by simpa using h))
    simp; omega
  have q1 : (x.toList == [114, 97, 110, 103, 101, 115]) = false := by rw [Lib.toList_data]; exact e1
  have q2 : (x.toList == [99, 111, 110, 115, 111, 108, 101]) = false := by rw [Lib.toList_data]; exact e2
  have q3 : (x.toList == [108, 111, 103]) = false := by rw [Lib.toList_data]; exact e3
  clear h35 e1 e2 e3
  go_enter Tryd.func11, Tryd.ntmps11
  go_wp2_with fail
  refine (cW w).mono ?_
  rintro e v2 ⟨v, rfl, hr, hb⟩
  have HS := Lib.hid (below_none hb)
  rcases hr.shape with ⟨rfl, hl0⟩ | ⟨g, cp, rfl, _, hg, hc, hcells⟩
  · cases hl0
  · have c0 : v2.cell? ⟨g, 0, none⟩ = some (.string x) := hcells 0 (Nat.zero_lt_succ _)
    have e0 : (((x :: r).length : Int) == 0) = false := by simp; omega
    obtain ⟨n, hn'⟩ : ∃ n, (x :: r).length = n := ⟨_, rfl⟩
    rw [hn'] at hc e0 ⊢
    have h1 : 1 ≤ n := by rw [← hn']; simp
    have HC2 := Lib.hid (HC.out.spares HS.out)
    clear hr hb cW hcells hn'
    go_wp2_with fail
    refine (cR _).mono ?_
    rintro e w3 ⟨rfl, hs3⟩
    have HS3 := Lib.hid ((HS.out.trans hs3).alloc (.cells #[.bool false, .string ⟨#[]⟩, .string ⟨#[]⟩, .string ⟨#[]⟩] 50))
    have HC3 := Lib.hid (HC2.out.spares (hs3.alloc (.cells #[.bool false, .string ⟨#[]⟩, .string ⟨#[]⟩, .string ⟨#[]⟩] 50)))
    clear hs3 cR HS HC2
    go_wp2_with fail
    refine (demand_no _).mono ?_
    rintro e w5 ⟨rfl, rfl⟩
    unfold FaultE
    go_wp2
    exact ⟨rfl, readPost_none rfl rfl HC3.out (spares_foot HS3.out)⟩
/-- One line. -/
theorem read_any (B p : Nat) (c : ConfS) (s : ByteArray) (k : Kind) (w : World) (hs : s.size ≤ 1000000) (hn : c.n ≤ 1000) (hk : KindOf s k) (hC : IsC B p c w) : Calls Tryd.prog 11 #[.pointer (some ⟨p, 0, none⟩), .string s] w (ReadPost B p c k w) := by
  cases k with
  | quiet => exact read_quiet B p c s w hs hk hC
  | off => exact read_off B p c s w hs hk hC
  | log n => obtain ⟨d, h1, h2⟩ := hk; exact read_log B p c s d n w hs h1 h2 hC
  | rule => obtain ⟨x, r, h1, h2, a, m, h, q, h3⟩ := hk; exact read_rule B p c s w hs hn x r h1 h2 a m h q h3 hC
  | bad => obtain ⟨x, r, h1, h2, h3⟩ := hk; exact read_bad B p c s w hs x r h1 h2 h3 hC
end Go.Proofs.YtjdiaighfhljgaaDoor
