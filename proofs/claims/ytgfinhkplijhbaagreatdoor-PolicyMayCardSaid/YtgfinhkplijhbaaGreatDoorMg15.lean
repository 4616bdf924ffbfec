/-
  mix: one block of 64 bytes into the state.
  take: all whole blocks into the state.
-/
import Derived.StillTailTactics
import Derived.Deep.Cut
import Derived.Test.YtgfinhkplijhbaaGreatDoorMg7
import Derived.Test.YtgfinhkplijhbaaGreatDoorMg14
namespace Go.Proofs.YtgfinhkplijhbaaGreatDoor
open Go.RowKit

theorem words_any (p : Nat) (d : Int) (z : Value) (made st : List Value) (w : World) (hg : w.heap[p]? = some (.cells (sumCells d 0 z made st) 113 (0, 0))) (hm : made.length = 72) (hd : d = 0 ∨ d = 1 ∧ made = madeV) :
    Calls Tryz.prog 82 #[.pointer (some ⟨p, 0, none⟩)] w (Made p z st w) := by
  rcases hd with rfl | ⟨rfl, rfl⟩
  · exact words_first p z made st w hg hm
  · exact words_again p z st w hg

theorem byte_cell {w : World} {b off : Nat} {l : List UInt8} (h : BytesAt w (some ⟨b, off, none⟩) l) (i : Nat) (hi : i < l.length) : w.cell? ⟨b, off + i, none⟩ = some (.int .u8 (l.getD i 0).toNat) := by
  have := h.cells i (.int .u8 (l.getD i 0).toNat) (by simp [Lib.byteCells, List.getD_eq_getElem?_getD, List.getElem?_eq_getElem hi])
  cases i with
  | zero => simpa [Addr.add] using this
  | succ i => simpa [Addr.add] using this

theorem heap_frozen {w : World} {g : Nat} {cs : Array Value} {t : TypeId} (h : w.heap[g]? = some (.cells cs t (0, 0))) (i : Nat) : w.frozen? ⟨g, i, none⟩ = false := by
  simp [World.frozen?, h]
theorem moreW_succ (n : Nat) : ∀ l, moreW (n + 1) l = moreW n l ++ [nextW (moreW n l)] := by
  induction n with
  | zero => intro l; rfl
  | succ n ih => intro l; rw [moreW, ih]; rfl
theorem heap_set_other {w : World} {g p i : Nat} {u : Value} (h : g ≠ p) : (w.setCell ⟨g, i, none⟩ u).heap[p]? = w.heap[p]? := by
  simp [World.setCell, Array.getElem?_modify, h]
set_option maxRecDepth 100000 in
set_option maxHeartbeats 4000000 in
theorem mix_any (p : Nat) (d : Int) (z : Value) (s : S8) (made : List Value) (b off n c : Nat) (l : List UInt8) (w : World) (hg : w.heap[p]? = some (.cells (sumCells d 0 z made (stV s)) 113 (0, 0))) (hm : made.length = 72) (hd : d = 0 ∨ d = 1 ∧ made = madeV)
    (hl : BytesAt w (some ⟨b, off, none⟩) l) (hl64 : 64 ≤ l.length) (hn : n = l.length) (hmax : n < 9223372036854775808) (hnc : n ≤ c) (hbp : b ≠ p) (hbw : b < w.heap.size) :
    Calls Tryz.prog 109 #[.pointer (some ⟨p, 0, none⟩), .slice (some ⟨b, off, none⟩) n c] w fun e w' => e = .returned (.tuple #[]) ∧ w'.heap[p]? = some (.cells (sumCells 1 0 z madeV (stV (mixS s l))) 113 (0, 0)) ∧ Spares (fun b => b = p) w w' := by
  have HC := Lib.hid (words_any p d z made (stV s) w hg hm hd)
  have HL := Lib.hid hl
  have HN := Lib.hid hn
  have hp : p < w.heap.size := (Array.getElem?_eq_some_iff.1 hg).1
  clear hg hd hl hn
  go_enter Tryz.func109, Tryz.ntmps109
  go_wp2_with (go_at_call 82; refine (HC.out).mono ?_; rintro e w2 ⟨rfl, hg2, hs2⟩)
  have HQ : Hid ((w2.alloc (.cells (rowW []) 109)).heap[w2.heap.size]? = some (.cells (rowW []) 109 (0, 0))) := Lib.hid (heap_alloc_new w2 _)
  have HPQ : p < w2.heap.size := Nat.lt_of_lt_of_le hp hs2.size
  have HBQ : b < w2.heap.size := Nat.lt_of_lt_of_le hbw hs2.size
  have hs2a : Spares (fun b => b = p) w (w2.alloc (.cells (rowW []) 109)) := hs2.alloc _
  have HG : Hid ((w2.alloc (.cells (rowW []) 109)).heap[p]? = some (.cells (sumCells 1 0 z madeV (stV s)) 113 (0, 0))) := Lib.hid (((Spares.refl nowhere w2).alloc _).heap hg2 (fun h => h))
  have HS := Lib.hid hs2a
  obtain ⟨q, hq⟩ : ∃ q, w2.heap.size = q := ⟨_, rfl⟩
  have hqp : q ≠ p := by omega
  have hqb : q ≠ b := by omega
  have hqw : w.heap.size ≤ q := by rw [← hq]; exact hs2.size
  clear hs2a hg2 hs2
  rw [hq]
  rw [hq] at HQ
  clear hq
  go_loopw [32] (fun i wr => ∃ k : Nat, k ≤ 16 ∧ i = .int .i64 k ∧ Hid (wr.heap[q]? = some (.cells (rowW (wordsOf k l)) 109 (0, 0))) ∧ Hid (wr.heap[p]? = some (.cells (sumCells 1 0 z madeV (stV s)) 113 (0, 0))) ∧ Hid (Spares (fun b => b = p) w wr)) (fun i _ => 16 - (intOf i).toNat)
  case atStart => refine ⟨0, by omega, rfl, HQ, HG, HS⟩
  case round =>
    obtain ⟨k, hk, rfl, HQ1, HG1, HS1⟩ := hrel
    by_cases hlt : k < 16
    · have i1 : (k : Int) < 16 := by omega
      have i2 : (4 : Int) * (k : Int) ≤ (n : Int) := by have := HN.out; omega
      have i3 : (4 : Int) * (k : Int) < (c : Int) := by have := HN.out; omega
      have i4 : ¬ ((c : Int) = 4 * (k : Int)) := by omega
      have i5 : ¬ (c = 4 * k) := by omega
      have i6 : ¬ (c - 4 * k = 0) := by omega
      have hw1 := word_any (l.getD (4 * k) 0) (l.getD (4 * k + 1) 0) (l.getD (4 * k + 2) 0) (l.getD (4 * k + 3) 0) b (off + 4 * k) (n - 4 * k) (c - 4 * k) wr (by have := HN.out; omega)
        (byte_cell (HL.out.spares HS1.out (fun b' off' e => by cases e; exact hbp)) (4 * k) (by omega))
        (byte_cell (HL.out.spares HS1.out (fun b' off' e => by cases e; exact hbp)) (4 * k + 1) (by omega))
        (byte_cell (HL.out.spares HS1.out (fun b' off' e => by cases e; exact hbp)) (4 * k + 2) (by omega))
        (byte_cell (HL.out.spares HS1.out (fun b' off' e => by cases e; exact hbp)) (4 * k + 3) (by omega))
      have hx : beW (l.getD (4 * k) 0) (l.getD (4 * k + 1) 0) (l.getD (4 * k + 2) 0) (l.getD (4 * k + 3) 0) = wordAt l k := rfl
      rw [hx] at hw1
      obtain ⟨x, hxk⟩ : ∃ x, wordAt l k = x := ⟨_, rfl⟩
      rw [hxk] at hw1
      have HX := Lib.hid hxk
      have i7 : (k : Int) < 64 := by omega
      have HW := Lib.hid hw1
      have hfz : wr.frozen? ⟨q, k, none⟩ = false := heap_frozen HQ1.out k
      clear hx hxk
      have hcl : wr.cell? ⟨q, k, none⟩ = some (.int .u32 0) := by
        rw [Lib.cell_of_heap HQ1.out]
        exact rowW_zero _ _ (by rw [wordsOf_len]; omega) (by omega)
      clear hw1
      go_wp2_with fail
      refine (HW.out).mono ?_
      rintro e w3 ⟨rfl, m, rfl⟩
      have hcl3 : (wr.drewN m).cell? ⟨q, k, none⟩ = some (.int .u32 0) := hcl
      go_wp2
      go_roundw
      case rel =>
        refine ⟨k + 1, by omega, by go_num, Lib.hid ?_, Lib.hid ?_, Lib.hid (Spares.setCell ((HS1.out).drewN m) (p := ⟨q, k, none⟩) (.inr hqw) _)⟩
        · rw [heap_set (w := wr.drewN m) HQ1.out, wordsOf_succ, HX.out]
          have := rowW_set (wordsOf k l) x (by rw [wordsOf_len]; omega)
          rw [wordsOf_len] at this
          rw [this]
        · rw [heap_set_other (w := wr.drewN m) hqp]; exact HG1.out
      case measure => simp [intOf]; omega
    · obtain rfl : k = 16 := by omega
      have SQ := Lib.hid HQ1.out
      clear hk hlt HC HQ HG HS
      have fx := xorW_int
      have fa := addW_wrap
      have fa2 := addW_int
      have fs3 : ∀ x : UInt32, (x.toNat : Int) / 8 = ((shrW x 3).toNat : Int) := fun x => shrW_int x 3
      have fs10 : ∀ x : UInt32, (x.toNat : Int) / 1024 = ((shrW x 10).toNat : Int) := fun x => shrW_int x 10
      go_wp2
      rw [show ((16 : Nat) : Int) = 16 from rfl]
      go_loopw [7] (fun i wr => ∃ k : Nat, k ≤ 48 ∧ i = .int .i64 ((k + 16 : Nat) : Int) ∧ Hid (wr.heap[q]? = some (.cells (rowW (moreW k (wordsOf 16 l))) 109 (0, 0))) ∧ Hid (wr.heap[p]? = some (.cells (sumCells 1 0 z madeV (stV s)) 113 (0, 0))) ∧ Hid (Spares (fun b => b = p) w wr)) (fun i _ => 64 - (intOf i).toNat)
      case atStart => exact ⟨0, by omega, rfl, SQ, HG1, HS1⟩
      clear SQ HQ1 HG1 HS1
      case round =>
        obtain ⟨k, hk, rfl, HQ1, HG1, HS1⟩ := hrel
        obtain ⟨S, hS⟩ : ∃ S, moreW k (wordsOf 16 l) = S := ⟨_, rfl⟩
        have hlen : S.length = k + 16 := by rw [← hS, moreW_len, wordsOf_len]; omega
        rw [hS] at HQ1
        have HSS := Lib.hid hS
        by_cases hlt : k < 48
        · obtain ⟨j, hj⟩ : ∃ j, k + 16 = j := ⟨_, rfl⟩
          rw [hj] at hlen
          obtain ⟨x0, hx0⟩ : ∃ x, S.getD k 0 = x := ⟨_, rfl⟩
          obtain ⟨x1, hx1⟩ : ∃ x, S.getD (k + 1) 0 = x := ⟨_, rfl⟩
          obtain ⟨x9, hx9⟩ : ∃ x, S.getD (k + 9) 0 = x := ⟨_, rfl⟩
          obtain ⟨x14, hx14⟩ : ∃ x, S.getD (k + 14) 0 = x := ⟨_, rfl⟩
          have c0 : wr.cell? ⟨q, k, none⟩ = some (.int .u32 x0.toNat) := by rw [Lib.cell_of_heap HQ1.out, rowW_get S k (by omega), hx0]
          have c1 : wr.cell? ⟨q, k + 1, none⟩ = some (.int .u32 x1.toNat) := by rw [Lib.cell_of_heap HQ1.out, rowW_get S _ (by omega), hx1]
          have c9 : wr.cell? ⟨q, k + 9, none⟩ = some (.int .u32 x9.toNat) := by rw [Lib.cell_of_heap HQ1.out, rowW_get S _ (by omega), hx9]
          have c14 : wr.cell? ⟨q, k + 14, none⟩ = some (.int .u32 x14.toNat) := by rw [Lib.cell_of_heap HQ1.out, rowW_get S _ (by omega), hx14]
          have cj : wr.cell? ⟨q, j, none⟩ = some (.int .u32 0) := by
            rw [Lib.cell_of_heap HQ1.out]
            exact rowW_zero _ _ (by omega) (by omega)
          have hfz : wr.frozen? ⟨q, j, none⟩ = false := heap_frozen HQ1.out j
          have hnext : nextW S = addW (addW (addW x0 (smallS x1)) x9) (greatS x14) := by
            unfold nextW
            rw [show S.length - 16 = k by omega, show S.length - 15 = k + 1 by omega, show S.length - 7 = k + 9 by omega, show S.length - 2 = k + 14 by omega, hx0, hx1, hx9, hx14]
          have HNX := Lib.hid hnext
          obtain ⟨j1, hj1⟩ : ∃ j, k + 1 = j := ⟨_, rfl⟩
          obtain ⟨j9, hj9⟩ : ∃ j, k + 9 = j := ⟨_, rfl⟩
          obtain ⟨j14, hj14⟩ : ∃ j, k + 14 = j := ⟨_, rfl⟩
          rw [hj1] at c1
          rw [hj9] at c9
          rw [hj14] at c14
          have g15 : (j : Int) - 15 = (j1 : Int) := by omega
          have g2 : (j : Int) - 2 = (j14 : Int) := by omega
          have g16 : (j : Int) - 16 = (k : Int) := by omega
          have g7 : (j : Int) - 7 = (j9 : Int) := by omega
          have b1 : (j1 : Int) < 64 := by omega
          have b14 : (j14 : Int) < 64 := by omega
          have b9 : (j9 : Int) < 64 := by omega
          have b0 : (k : Int) < 64 := by omega
          have bj : (j : Int) < 64 := by omega
          have HK := Lib.hid hj
          have HLEN := Lib.hid hlen
          rw [hj]
          clear hx0 hx1 hx9 hx14 hnext hS hj1 hj9 hj14 hlen
          have r1 : ∀ w, Calls Tryz.prog 127 #[.int .u32 x1.toNat, .int .i64 (-7)] w fun e w' => e = .returned (.int .u32 (rotW x1 7).toNat) ∧ w = w' := fun w => rotl_any x1 7 (-7) rfl (by decide) (by decide) w
          have r2 : ∀ w, Calls Tryz.prog 127 #[.int .u32 x1.toNat, .int .i64 (-18)] w fun e w' => e = .returned (.int .u32 (rotW x1 18).toNat) ∧ w = w' := fun w => rotl_any x1 18 (-18) rfl (by decide) (by decide) w
          have r3 : ∀ w, Calls Tryz.prog 127 #[.int .u32 x14.toNat, .int .i64 (-17)] w fun e w' => e = .returned (.int .u32 (rotW x14 17).toNat) ∧ w = w' := fun w => rotl_any x14 17 (-17) rfl (by decide) (by decide) w
          have r4 : ∀ w, Calls Tryz.prog 127 #[.int .u32 x14.toNat, .int .i64 (-19)] w fun e w' => e = .returned (.int .u32 (rotW x14 19).toNat) ∧ w = w' := fun w => rotl_any x14 19 (-19) rfl (by decide) (by decide) w
          have R1 := Lib.hid r1
          have R2 := Lib.hid r2
          have R3 := Lib.hid r3
          have R4 := Lib.hid r4
          clear r1 r2 r3 r4
          go_wp2
          go_quiet (fail)
          go_wp2_with fail
          refine (R1.out _).mono ?_
          rintro e w3 ⟨rfl, rfl⟩
          go_wp2_with fail
          refine (R2.out _).mono ?_
          rintro e w3 ⟨rfl, rfl⟩
          go_wp2_with fail
          refine (R3.out _).mono ?_
          rintro e w3 ⟨rfl, rfl⟩
          go_wp2_with fail
          refine (R4.out _).mono ?_
          rintro e w3 ⟨rfl, rfl⟩
          go_upto_region 13 with (fail)
          have w0 : IntKind.i64.wrap (k : Int) = (k : Int) := by rw [IntKind.wrap_i64]; omega
          have w9 : IntKind.i64.wrap (j9 : Int) = (j9 : Int) := by rw [IntKind.wrap_i64]; omega
          have e0 : ∀ t d o u, ({ heap := wr.heap, tape := t, drawn := d, os := o, output := u } : World).cell? ⟨q, k, none⟩ = some (.int .u32 x0.toNat) := fun _ _ _ _ => c0
          have e9 : ∀ t d o u, ({ heap := wr.heap, tape := t, drawn := d, os := o, output := u } : World).cell? ⟨q, j9, none⟩ = some (.int .u32 x9.toNat) := fun _ _ _ _ => c9
          have ej : ∀ t d o u, ({ heap := wr.heap, tape := t, drawn := d, os := o, output := u } : World).cell? ⟨q, j, none⟩ = some (.int .u32 0) := fun _ _ _ _ => cj
          have ef : ∀ t d o u, ({ heap := wr.heap, tape := t, drawn := d, os := o, output := u } : World).frozen? ⟨q, j, none⟩ = false := fun _ _ _ _ => hfz
          go_still_tail 15, (by kernel_rfl)
          go_wp2
          go_roundw
          case rel =>
            refine ⟨k + 1, by omega, by rw [show ((k + 1 + 16 : Nat) : Int) = (j : Int) + 1 by have := HK.out; omega], Lib.hid ?_, Lib.hid ?_, Lib.hid ?_⟩
            · refine (heap_set (w := (wr.drewN nq).drew) HQ1.out j _).trans ?_
              have hrow := rowW_set S (nextW S) (by have := HLEN.out; omega)
              rw [HLEN.out, HNX.out] at hrow
              rw [moreW_succ, HSS.out, HNX.out]
              exact congrArg (fun r => some (Obj.cells r 109 (0, 0))) hrow
            · exact (heap_set_other (w := (wr.drewN nq).drew) hqp).trans HG1.out
            · exact Spares.setCell (HS1.out.drewN (nq + 1)) (p := ⟨q, j, none⟩) (.inr hqw) _
          case measure =>
            simp [intOf]
            omega
        · obtain rfl : k = 48 := by omega
          have hWlen : S.length = 64 := by omega
          have q0 : wr.cell? ⟨p, 75, none⟩ = some (.int .u32 s.a.toNat) := by rw [Lib.cell_of_heap HG1.out]; exact sum_cell 1 0 z madeV (stV s) madeV_len 0
          have q1 : wr.cell? ⟨p, 76, none⟩ = some (.int .u32 s.b.toNat) := by rw [Lib.cell_of_heap HG1.out]; exact sum_cell 1 0 z madeV (stV s) madeV_len 1
          have q2 : wr.cell? ⟨p, 77, none⟩ = some (.int .u32 s.c.toNat) := by rw [Lib.cell_of_heap HG1.out]; exact sum_cell 1 0 z madeV (stV s) madeV_len 2
          have q3 : wr.cell? ⟨p, 78, none⟩ = some (.int .u32 s.d.toNat) := by rw [Lib.cell_of_heap HG1.out]; exact sum_cell 1 0 z madeV (stV s) madeV_len 3
          have q4 : wr.cell? ⟨p, 79, none⟩ = some (.int .u32 s.e.toNat) := by rw [Lib.cell_of_heap HG1.out]; exact sum_cell 1 0 z madeV (stV s) madeV_len 4
          have q5 : wr.cell? ⟨p, 80, none⟩ = some (.int .u32 s.f.toNat) := by rw [Lib.cell_of_heap HG1.out]; exact sum_cell 1 0 z madeV (stV s) madeV_len 5
          have q6 : wr.cell? ⟨p, 81, none⟩ = some (.int .u32 s.g.toNat) := by rw [Lib.cell_of_heap HG1.out]; exact sum_cell 1 0 z madeV (stV s) madeV_len 6
          have q7 : wr.cell? ⟨p, 82, none⟩ = some (.int .u32 s.h.toNat) := by rw [Lib.cell_of_heap HG1.out]; exact sum_cell 1 0 z madeV (stV s) madeV_len 7
          have HW := Lib.hid hWlen
          clear hlen hk hlt hWlen hS
          rw [show ((48 + 16 : Nat) : Int) = 64 from rfl]
          go_wp2
          go_quiet (fail)
          go_wp2
          go_quiet (fail)
          have RQ := Lib.hid HQ1.out
          have RG := Lib.hid HG1.out
          have RS := Lib.hid HS1.out
          clear q0 q1 q2 q3 q4 q5 q6 q7 HQ1 HG1 HS1
          go_wp2
          go_loopw [12, 13, 14, 15, 16, 17, 18, 19, 126] (fun va vb vc vd ve vf vg vh i wr => ∃ (k : Nat) (t : S8), k ≤ 64 ∧ i = .int .i64 k ∧ va = .int .u32 t.a.toNat ∧ vb = .int .u32 t.b.toNat ∧ vc = .int .u32 t.c.toNat ∧ vd = .int .u32 t.d.toNat ∧ ve = .int .u32 t.e.toNat ∧ vf = .int .u32 t.f.toNat ∧ vg = .int .u32 t.g.toNat ∧ vh = .int .u32 t.h.toNat ∧ Hid (runS S s k = t) ∧ Hid (wr.heap[q]? = some (.cells (rowW S) 109 (0, 0))) ∧ Hid (wr.heap[p]? = some (.cells (sumCells 1 0 z madeV (stV s)) 113 (0, 0))) ∧ Hid (Spares (fun b => b = p) w wr)) (fun _ _ _ _ _ _ _ _ i _ => 64 - (intOf i).toNat)
          case atStart => exact ⟨0, s, by omega, rfl, rfl, rfl, rfl, rfl, rfl, rfl, rfl, rfl, Lib.hid rfl, Lib.hid RQ.out, Lib.hid RG.out, Lib.hid ((RS.out.drewN _).drewN _)⟩
          case round =>
            obtain ⟨k, t, hk, rfl, rfl, rfl, rfl, rfl, rfl, rfl, rfl, rfl, HR, HQ1, HG1, HS1⟩ := hrel
            by_cases hlt : k < 64
            · have fb := andW_int
              have fn := notW_walk
              obtain ⟨kw, hkw⟩ : ∃ x, roundK.getD k 0 = x := ⟨_, rfl⟩
              obtain ⟨xw, hxw⟩ : ∃ x, S.getD k 0 = x := ⟨_, rfl⟩
              have cw : wr.cell? ⟨q, k, none⟩ = some (.int .u32 xw.toNat) := by rw [Lib.cell_of_heap HQ1.out, rowW_get S k (by have := HW.out; omega), hxw]
              have ck : wr.cell? ⟨p, 11 + k, none⟩ = some (.int .u32 kw.toNat) := by rw [Lib.cell_of_heap HG1.out, sum_round z (stV s) k hlt, hkw]
              have HKW := Lib.hid hkw
              have HXW := Lib.hid hxw
              clear hkw hxw
              have bk : (k : Int) < 64 := by omega
              have T6 := Lib.hid (fun w => rotl_any t.e 6 (-6) rfl (by decide) (by decide) w)
              have T11 := Lib.hid (fun w => rotl_any t.e 11 (-11) rfl (by decide) (by decide) w)
              have T25 := Lib.hid (fun w => rotl_any t.e 25 (-25) rfl (by decide) (by decide) w)
              have T2 := Lib.hid (fun w => rotl_any t.a 2 (-2) rfl (by decide) (by decide) w)
              have T13 := Lib.hid (fun w => rotl_any t.a 13 (-13) rfl (by decide) (by decide) w)
              have T22 := Lib.hid (fun w => rotl_any t.a 22 (-22) rfl (by decide) (by decide) w)
              go_wp2_with fail
              refine (T6.out _).mono ?_
              rintro e w3 ⟨rfl, rfl⟩
              go_wp2_with fail
              refine (T11.out _).mono ?_
              rintro e w3 ⟨rfl, rfl⟩
              go_wp2_with fail
              refine (T25.out _).mono ?_
              rintro e w3 ⟨rfl, rfl⟩
              go_upto_region 21 with (fail)
              go_quiet (fail)
              go_wp2_with fail
              refine (T2.out _).mono ?_
              rintro e w3 ⟨rfl, rfl⟩
              go_wp2_with fail
              refine (T13.out _).mono ?_
              rintro e w3 ⟨rfl, rfl⟩
              go_wp2_with fail
              refine (T22.out _).mono ?_
              rintro e w3 ⟨rfl, rfl⟩
              go_wp2
              go_roundw
              case rel =>
                exact ⟨k + 1, stepS t kw xw, by omega, by go_num, rfl, rfl, rfl, rfl, rfl, rfl, rfl, rfl, Lib.hid (by rw [runS, HR.out, HKW.out, HXW.out]), Lib.hid HQ1.out, Lib.hid HG1.out, Lib.hid (HS1.out.drewN nq)⟩
              case measure => simp [intOf]; omega
            · obtain rfl : k = 64 := by omega
              rw [show ((64 : Nat) : Int) = 64 from rfl]
              have HT : Hid (addS s t = mixS s l) := Lib.hid (by rw [← HR.out, runS_all S HW.out, mixS, HSS.out])
              have LG : Hid (wr.heap[p]? = some (.cells (sumCells 1 0 z madeV (mixedV 0 s t)) 113 (0, 0))) := Lib.hid (by rw [mixed_none]; exact HG1.out)
              clear hk hlt HR HW HQ1 RQ RG RS HSS HG1 HL HN HPQ HBQ fx fs3 fs10
              go_wp2
              obtain ⟨A, hA⟩ : ∃ A : Array Value, (#[.int .u32 (t.a.toNat : Int), .int .u32 (t.b.toNat : Int), .int .u32 (t.c.toNat : Int), .int .u32 (t.d.toNat : Int), .int .u32 (t.e.toNat : Int), .int .u32 (t.f.toNat : Int), .int .u32 (t.g.toNat : Int), .int .u32 (t.h.toNat : Int)] : Array Value) = A := ⟨_, rfl⟩
              rw [hA]
              have hA2 : Hid (A = (stV t).toArray) := Lib.hid hA.symm
              have hsz : A.size = 8 := by rw [hA2.out]; rfl
              clear hA
              go_loopw [203] (fun i wr => ∃ (k : Nat), k ≤ 8 ∧ i = .int .i64 k ∧ Hid (wr.heap[p]? = some (.cells (sumCells 1 0 z madeV (mixedV k s t)) 113 (0, 0))) ∧ Hid (Spares (fun b => b = p) w wr)) (fun i _ => 8 - (intOf i).toNat)
              case atStart => exact ⟨0, by omega, rfl, LG, HS1⟩
              clear LG HS1
              case round =>
                obtain ⟨k, hk, rfl, HG1, HS1⟩ := hrel
                by_cases hlt : k < 8
                · have bk : (k : Int) < 8 := by omega
                  obtain ⟨x, hx⟩ : ∃ x, (wl s).getD k 0 = x := ⟨_, rfl⟩
                  obtain ⟨y, hy⟩ : ∃ x, (wl t).getD k 0 = x := ⟨_, rfl⟩
                  have c1 : wr.cell? ⟨p, 75 + k, none⟩ = some (.int .u32 x.toNat) := by rw [Lib.cell_of_heap HG1.out, sum_cell 1 0 z madeV _ madeV_len, mixed_get k hlt, hx]
                  have hfz : wr.frozen? ⟨p, 75 + k, none⟩ = false := heap_frozen HG1.out _
                  have hix : A[k]? = some (.int .u32 y.toNat) := by rw [← hy, hA2.out, List.getElem?_toArray]; exact stV_get k hlt t
                  have hidx := index_words A k _ hlt hix
                  have HX := Lib.hid hx
                  have HY := Lib.hid hy
                  clear hx hy
                  go_wp2
                  have e1 : ∀ t d o u, ({ heap := wr.heap, tape := t, drawn := d, os := o, output := u } : World).cell? ⟨p, 75 + k, none⟩ = some (.int .u32 x.toNat) := fun _ _ _ _ => c1
                  have ef : ∀ t d o u, ({ heap := wr.heap, tape := t, drawn := d, os := o, output := u } : World).frozen? ⟨p, 75 + k, none⟩ = false := fun _ _ _ _ => hfz
                  go_still_tail 11, (by kernel_rfl)
                  go_wp2
                  go_roundw
                  case rel =>
                    refine ⟨k + 1, by omega, by go_num, Lib.hid ?_, Lib.hid ((HS1.out.setCell (p := ⟨p, 75 + k, none⟩) (.inl rfl) _).drew)⟩
                    refine (heap_set HG1.out (75 + k) _).trans ?_
                    rw [sum_set 1 0 z madeV _ madeV_len, ← HX.out, ← HY.out, mixed_set k hlt]
                  case measure => simp [intOf]; omega
                · obtain rfl : k = 8 := by omega
                  have R : Hid (wr.heap[p]? = some (.cells (sumCells 1 0 z madeV (stV (mixS s l))) 113 (0, 0))) := Lib.hid (by rw [← HT.out, ← mixed_all]; exact HG1.out)
                  go_wp2
                  first | go_end0 | (simp only [Exit.inBlock, Exit.then]; refine bodyPost_ret (results_none rfl _ _ _) rfl ?_) | refine bodyPost_ret (results_none rfl _ _ _) rfl ?_
                  exact ⟨rfl, R.out, HS1.out⟩
end Go.Proofs.YtgfinhkplijhbaaGreatDoor
namespace Go.Proofs.YtgfinhkplijhbaaGreatDoor
open Go.RowKit

theorem bytesAt_drop {w : World} {b off k : Nat} {l : List UInt8} (h : BytesAt w (some ⟨b, off, none⟩) l) : BytesAt w (some ⟨b, off + k, none⟩) (l.drop k) := by
  intro j hj
  have hj' : k + j < l.length := by simp at hj; omega
  obtain ⟨b', off', e, hc⟩ := h (k + j) hj'
  injection e with e
  injection e with e1 e2 e3
  subst e1; subst e2
  exact ⟨_, _, rfl, by rw [List.getElem_drop, Nat.add_assoc]; exact hc⟩
theorem bytesAt_take {w : World} {a : Option Addr} {l : List UInt8} (k : Nat) (h : BytesAt w a l) : BytesAt w a (l.take k) := by
  intro j hj
  have hj' : j < l.length := by simp at hj; omega
  obtain ⟨b', off', e, hc⟩ := h j hj'
  exact ⟨_, _, e, by rw [List.getElem_take]; exact hc⟩
theorem takeS_snoc : ∀ (m : Nat) (s : S8) (l : List UInt8), takeS (m + 1) s l = mixS (takeS m s l) ((l.drop (64 * m)).take 64)
  | 0, s, l => by simp [takeS]
  | m + 1, s, l => by
    rw [takeS, takeS_snoc m, takeS, List.drop_drop]
    rw [show 64 + 64 * m = 64 * (m + 1) by omega]
theorem mixS_take (s : S8) (l : List UInt8) : mixS s (l.take 64) = mixS s l := by
  have h : wordsOf 16 (l.take 64) = wordsOf 16 l := by
    unfold wordsOf
    refine List.map_congr_left fun i hi => ?_
    have hi : i < 16 := by simpa using hi
    unfold wordAt
    have g : ∀ j, j < 64 → (l.take 64).getD j 0 = l.getD j 0 := fun j hj => by
      rw [List.getD_eq_getElem?_getD, List.getD_eq_getElem?_getD, List.getElem?_take, if_pos hj]
    rw [g _ (by omega), g _ (by omega), g _ (by omega), g _ (by omega)]
  unfold mixS
  rw [h]
def lenV : Value → Nat
  | .slice _ n _ => n
  | _ => 0
/-- What take leaves. -/
def Taken (p : Nat) (z : Value) (s : S8) (b : Nat) (l : List UInt8) (w : World) (e : Ending) (w' : World) : Prop :=
  ∃ (m o n c : Nat), n + 64 * m = l.length ∧ n < 64 ∧ n ≤ c ∧ e = .returned (.slice (some ⟨b, o, none⟩) n c) ∧ BytesAt w' (some ⟨b, o, none⟩) (l.drop (64 * m)) ∧ w'.heap[p]? = some (.cells (sumCells 1 0 z madeV (stV (takeS m s l))) 113 (0, 0)) ∧ Spares (fun b => b = p) w w'
set_option maxRecDepth 100000 in
set_option maxHeartbeats 1000000 in
theorem take_any (p : Nat) (z : Value) (s : S8) (b off n c : Nat) (l : List UInt8) (w : World) (hg : w.heap[p]? = some (.cells (sumCells 1 0 z madeV (stV s)) 113 (0, 0)))
    (hl : BytesAt w (some ⟨b, off, none⟩) l) (hn : n = l.length) (_ : n < 9223372036854775808) (hnc : n ≤ c) (hbp : b ≠ p) (hbw : b < w.heap.size) :
    Calls Tryz.prog 83 #[.pointer (some ⟨p, 0, none⟩), .slice (some ⟨b, off, none⟩) n c] w (Taken p z s b l w) := by
  have HG := Lib.hid hg
  have HL := Lib.hid hl
  have HN := Lib.hid hn
  clear hg hl hn
  go_enter Tryz.func83, Tryz.ntmps83
  go_wp2
  go_loopw [1] (fun v wr => ∃ (m o k c : Nat), k + 64 * m = n ∧ k ≤ c ∧ v = .slice (some ⟨b, o, none⟩) k c ∧ Hid (BytesAt wr (some ⟨b, o, none⟩) (l.drop (64 * m))) ∧ Hid (wr.heap[p]? = some (.cells (sumCells 1 0 z madeV (stV (takeS m s l))) 113 (0, 0))) ∧ Hid (Spares (fun b => b = p) w wr)) (fun v _ => lenV v)
  case atStart => exact ⟨0, off, n, c, by omega, hnc, rfl, HL, HG, Lib.hid (Spares.refl _ _)⟩
  case round =>
    obtain ⟨m, o, k, c, hk, hkc, rfl, HL1, HG1, HS1⟩ := hrel
    by_cases hlt : 64 ≤ k
    · have i1 : (64 : Int) ≤ (k : Int) := by omega
      have i2 : (64 : Int) ≤ (c : Int) := by omega
      have hlen : 64 ≤ (l.drop (64 * m)).length := by rw [List.length_drop]; have := HN.out; omega
      have HM := Lib.hid (mix_any p 1 z (takeS m s l) madeV b o 64 c ((l.drop (64 * m)).take 64) wr HG1.out madeV_len (.inr ⟨rfl, rfl⟩) (bytesAt_take 64 HL1.out) (by rw [List.length_take]; omega) (by rw [List.length_take]; omega) (by omega) (by omega) hbp (Nat.lt_of_lt_of_le hbw HS1.out.size))
      by_cases hcc : c = 64
      · subst hcc
        obtain rfl : k = 64 := by omega
        go_wp2_with fail
        refine HM.out.mono ?_
        rintro e w3 ⟨rfl, hg3, hs3⟩
        have HG3 := Lib.hid hg3
        have HS3 := Lib.hid hs3
        clear hg3 hs3
        go_wp2
        go_roundw
        case rel =>
          refine ⟨m + 1, o, 0, 0, by omega, by omega, rfl, Lib.hid ?_, Lib.hid (by rw [takeS_snoc]; exact HG3.out), Lib.hid (HS1.out.trans HS3.out)⟩
          rw [List.drop_of_length_le (by have := HN.out; omega)]
          exact bytesAt_nil _ _
        case measure => simp [lenV]
      · have i3 : ¬ (c - 64 = 0) := by omega
        have i4 : ¬ ((c : Int) = 64) := by omega
        go_wp2_with fail
        refine HM.out.mono ?_
        rintro e w3 ⟨rfl, hg3, hs3⟩
        have HG3 := Lib.hid hg3
        have HS3 := Lib.hid hs3
        clear hg3 hs3
        go_wp2
        go_roundw
        case rel =>
          refine ⟨m + 1, o + 64, k - 64, c - 64, by omega, by omega, rfl, Lib.hid ?_, Lib.hid (by rw [takeS_snoc]; exact HG3.out), Lib.hid (HS1.out.trans HS3.out)⟩
          have h := bytesAt_drop (k := 64) (HL1.out.spares HS3.out (fun b' off' e => by cases e; exact hbp))
          rw [List.drop_drop] at h
          rw [show 64 * (m + 1) = 64 * m + 64 by omega]
          exact h
        case measure => simp [lenV]; omega
    · have i1 : ¬ (64 : Int) ≤ (k : Int) := by omega
      go_wp2
      go_ret
      exact ⟨m, o, k, c, by have := HN.out; omega, by omega, hkc, rfl, HL1.out, HG1.out, HS1.out⟩
end Go.Proofs.YtgfinhkplijhbaaGreatDoor
