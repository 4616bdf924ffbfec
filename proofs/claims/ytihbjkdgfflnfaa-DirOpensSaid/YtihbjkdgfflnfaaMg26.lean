/-
  The reference's Open.
  What the law of spoilt bytes wants.
-/
import Derived.Test.YtihbjkdgfflnfaaMg23
namespace Go.Proofs.Ytihbjkdgfflnfaa
open Go.RowKit

def RefOpenPost (b : List UInt8) (w : World) (e : Ending) (w' : World) : Prop :=
  Spares nowhere w w' ∧ ((∃ n s E p F bk R, dirO b = some (n, s, E) ∧ e = .returned (.tuple #[.pointer (some ⟨p, 0, none⟩), .int .i64 0]) ∧ IsRef F p bk n s R E w' ∧ ∀ k, F k → w.heap.size ≤ k ∧ k < w'.heap.size) ∨
    (dirO b = none ∧ e = .returned (.tuple #[.pointer none, .int .i64 40])))
theorem refOpenPost_no {b : List UInt8} {w w' : World} (h : dirO b = none) (hs : Spares nowhere w w') : RefOpenPost b w (.returned (.tuple #[.pointer none, .int .i64 40])) w' := ⟨hs, .inr ⟨h, rfl⟩⟩
/-- The reference's directory under way. -/
structure RD (p bk n s : Nat) (w : World) (E : List (List Ent)) (wr : World) : Prop where
  ex : ∃ F R, IsRef F p bk n s R E wr ∧ ∀ k, F k → w.heap.size ≤ k ∧ k < wr.heap.size
  sp : Spares nowhere w wr
theorem RD.quiet {p bk n s : Nat} {w : World} {E : List (List Ent)} {wr W : World} (h : RD p bk n s w E wr) (hs : Spares nowhere wr W) : RD p bk n s w E W := by
  obtain ⟨⟨F, R, hd, hF⟩, hsp⟩ := h
  exact ⟨⟨F, R, hd.spares hs (fun _ _ _ h => h), fun k hk => ⟨(hF k hk).1, Nat.lt_of_lt_of_le (hF k hk).2 hs.size⟩⟩, hsp.trans hs⟩
theorem RD.hd {p bk n s : Nat} {w : World} {E : List (List Ent)} {wr : World} (h : RD p bk n s w E wr) : wr.cell? ⟨p, 0, none⟩ = some (.slice (some ⟨bk, 0, none⟩) n n) := by
  obtain ⟨⟨F, R, hd, hF⟩, hsp⟩ := h
  rw [Lib.cell_of_heap hd.hd]; rfl
/-- An entry put behind bucket i's: what the region reads, what the append makes, and what is stored. -/
theorem RD.app {p bk n s : Nat} {w : World} {E : List (List Ent)} {w0 u : World} (h : RD p bk n s w E w0) (hu : Spares nowhere w0 u) {i : Nat} (hi : i < n) {l : List Ent} (hl : atRow E i = l) (x : Ent) (hx : x.ok) (hls : l.length + 1 ≤ s) (hs16 : s ≤ 16) :
    ∃ (ad : Option Addr) (cap : Nat) (G : Nat → Prop), (∀ W, Spares nowhere u W → W.cell? ⟨bk, i, none⟩ = some (.slice ad l.length cap)) ∧ (∀ k, G k → w.heap.size ≤ k ∧ k < w0.heap.size ∧ k ≠ p) ∧ G bk ∧
      ∀ wn ty, Spares nowhere u wn → ∃ (ad' : Option Addr) (cap' : Nat) (w4 : World), (Builtin.append_ #[38, 38] ty #[.slice ad l.length cap, .slice (some ⟨wn.heap.size, 0, none⟩) 1 1]).run Try.prog (wn.alloc (.cells #[.int .u16 x.tag, .int .u32 x.at_, .int .u16 x.sec, .int .u64 x.turn] 41)) = .ok (.slice ad' (l.length + 1) cap') w4 ∧
        Spares G u w4 ∧ (w4.cell? ⟨bk, i, none⟩ = some (.slice ad l.length cap) ∧ w4.frozen? ⟨bk, i, none⟩ = false) ∧ RD p bk n s w (E.set i (l ++ [x])) (w4.setCell ⟨bk, i, none⟩ (.slice ad' (l.length + 1) cap')) := by
  obtain ⟨⟨F, R, hdA, hF⟩, hspA⟩ := h
  have hd0 := hdA.spares hu (fun _ _ _ h => h)
  have hsp0 := hspA.trans hu
  have hEn := hd0.rows.len
  have hiE : i < E.length := by omega
  have hrow' : E[i] = l := by rw [← hl]; unfold atRow; rw [List.getD_eq_getElem?_getD, List.getElem?_eq_getElem hiE]; rfl
  obtain ⟨G, hG⟩ : ∃ G : Nat → Prop, (fun k => k = bk ∨ ∃ o, (R i).a = some (k, o)) = G := ⟨_, rfl⟩
  have hGb : ∀ k, k = bk → G k := fun k e => by rw [← hG]; exact .inl e
  have hGr : ∀ k, (∃ o, (R i).a = some (k, o)) → G k := fun k e => by rw [← hG]; exact .inr e
  have hGF : ∀ k, G k → F k ∧ k ≠ p := fun k e => by
    rw [← hG] at e
    rcases e with rfl | ⟨o, e⟩
    · exact ⟨hd0.rows.inF, fun e => hd0.ne e.symm⟩
    · exact ⟨((hd0.rows.row i hiE).room k o e).1, hd0.offp i hi k o e⟩
  refine ⟨(R i).ad, (R i).cap, G, fun W hW => ?_, fun k hk => ⟨(hF k (hGF k hk).1).1, (hF k (hGF k hk).1).2, (hGF k hk).2⟩, hGb _ rfl, fun wn ty hs => ?_⟩
  · have hc := ((hd0.spares hW (fun _ _ _ h => h)).rows.cell i hiE).1
    rw [hrow'] at hc
    exact hc
  · have h0 := hs.alloc (.cells #[.int .u16 x.tag, .int .u32 x.at_, .int .u16 x.sec, .int .u64 x.turn] 41)
    have hd := hd0.spares h0 (fun _ _ _ h => h)
    have hrw := hd.rows.row i hiE
    rw [hrow'] at hrw
    obtain ⟨r', w4, hrun, hr', hsp, hrest, hcase⟩ := append_ent hrw x ⟨wn.heap.size, 0, none⟩ ty (ent_new wn x) (by omega)
    obtain ⟨R', hR'⟩ := put_ref hd hi (row := l) (fun _ => hrow') hr' hsp hrest hcase (fun e he => by
      rcases List.mem_append.1 he with he | he
      · exact hd.rows.ok l (by rw [← hrow']; exact List.getElem_mem _) e he
      · rw [List.mem_singleton.1 he]; exact hx) (by rw [List.length_append, List.length_singleton]; omega)
    rw [show (l ++ [x]).length = l.length + 1 by simp] at hR'
    have hnb : ¬ ∃ o, (R i).a = some (bk, o) := fun ⟨o, e⟩ => hd.rows.off i hi bk o e rfl
    have hcw := hd.rows.cell i hiE
    rw [hrow'] at hcw
    obtain ⟨cur, hcur, _⟩ := hd.rows.blk
    have hs4 : Spares G u w4 := ((h0.mono (fun _ h => h.elim) : Spares G u _).trans' hsp (fun k hk => .inl (hGr k hk)))
    have hs5 : Spares G u (w4.setCell ⟨bk, i, none⟩ (.slice r'.ad (l.length + 1) r'.cap)) := hs4.setCell (p := ⟨bk, i, none⟩) (.inl (hGb _ rfl)) _
    refine ⟨r'.ad, r'.cap, w4, hrun, hs4, ⟨(hsp.cell (p := ⟨bk, i, none⟩) hd.rows.lt hnb).trans hcw.1, Lib.frozen_of_heap (hsp.heap hcur hnb) i⟩, ⟨⟨_, R', hR', fun k hk => ?_⟩, ?_⟩⟩
    · rcases hk with hk | ⟨rfl, hk⟩
      · exact ⟨(hF k hk).1, Nat.lt_of_lt_of_le (hF k hk).2 (Nat.le_trans hu.size hs5.size)⟩
      · refine ⟨Nat.le_trans hsp0.size h0.size, ?_⟩
        simpa [World.setCell] using hk
    · exact hsp0.trans' hs5 (fun k hk => .inr (hF k (hGF k hk).1).1)
theorem row_set (E : List (List Ent)) (l l' : List Ent) (T : List (List Ent)) : (E ++ l :: T).set E.length l' = E ++ l' :: T := by
  rw [List.set_append_right _ _ (Nat.le_refl _), Nat.sub_self, List.set_cons_zero]
theorem row_at (E : List (List Ent)) (l : List Ent) (T : List (List Ent)) : atRow (E ++ l :: T) E.length = l := by
  unfold atRow
  rw [List.getD_eq_getElem?_getD, List.getElem?_append_right (Nat.le_refl _), Nat.sub_self]
  rfl
theorem row_next (E : List (List Ent)) (l : List Ent) {n k : Nat} : E ++ l :: List.replicate (n - k - 1) [] = (E ++ [l]) ++ List.replicate (n - (k + 1)) [] := by
  rw [List.append_assoc, show n - (k + 1) = n - k - 1 by omega]; rfl
theorem row_none (E : List (List Ent)) {n k : Nat} (h : k < n) : E ++ List.replicate (n - k) [] = E ++ [] :: List.replicate (n - k - 1) [] := by
  obtain ⟨m, hm⟩ : ∃ m, n - k = m + 1 := ⟨n - k - 1, by omega⟩
  rw [hm, List.replicate_succ]; rfl
set_option maxRecDepth 100000 in
set_option maxHeartbeats 8000000 in
theorem refOpen_any (a0 : Option Addr) (b : List UInt8) (c : Nat) (w : World) (hat : BytesAt w a0 b) (hc : b.length ≤ c) (hbig : c ≤ 9223372036854775807) :
    Calls Try.prog 33 #[.slice a0 b.length c] w (RefOpenPost b w) := by
  obtain ⟨L, hL⟩ : ∃ L, b.length = L := ⟨_, rfl⟩
  rw [hL] at hc ⊢
  by_cases h12 : L < 12
  · have i0 : (L : Int) < 12 := by omega
    have HNO : Hid (dirO b = none) := Lib.hid (headO_no (fun h => by have := h.1; omega))
    go_enter Try.func33, Try.ntmps33
    go_wp2
    go_ret2
    exact refOpenPost_no HNO.out (Spares.refl _ _)
  · have i0 : ¬ (L : Int) < 12 := by omega
    obtain ⟨a1, a2, rfl, hx0⟩ := hat 0 (by omega)
    have ha1 : a1 < w.heap.size := cellB_lt hx0
    obtain ⟨X, hX⟩ : ∃ X : ByteArray, (⟨(b.take 4).toArray⟩ : ByteArray) = X := ⟨_, rfl⟩
    have hcv := conv_bytes (bytesAt_takeF 4 hat) c
    rw [List.length_take, show min 4 b.length = 4 by omega, hX] at hcv
    obtain ⟨m, hm⟩ : ∃ m : Bool, (X.toList == [68, 73, 82, 49]) = m := ⟨_, rfl⟩
    have hm2 : (b.take 4 == [68, 73, 82, 49]) = m := by rw [← hm, ← hX]; exact (dmark_eq b).symm
    have HM2 := Lib.hid hm2
    have HL := Lib.hid hL
    cases m with
    | false =>
      have HNO : Hid (dirO b = none) := Lib.hid (headO_no (fun h => by rw [h.2.1] at hm2; simp at hm2))
      clear hX hm2 hat hx0 hL
      go_enter Try.func33, Try.ntmps33
      go_wp2
      go_ret2
      exact refOpenPost_no HNO.out (Spares.refl _ _)
    | true =>
      have h4 : b.take 4 = [68, 73, 82, 49] := by simpa using hm2
      have hb1 := bytesAt_cut hat 4 4
      have hb2 := bytesAt_cut hat 8 4
      obtain ⟨q0, hA0, hB0⟩ := bytes_from hat 12 c (by omega) (by omega)
      have C1 : Hid (Calls Try.prog 46 #[.slice (some ⟨a1, a2 + 4, none⟩) 4 (c - 4)] w.drew fun e w' => e = .returned (.int .u64 (nO b : Nat)) ∧ w' = w.drew) := Lib.hid ((refGet_any _ 4 (c - 4) ((b.drop 4).take 4) w.drew (hb1.spares (Spares.refl nowhere w).drew (fun _ _ _ h => h)) (by rw [List.length_take, List.length_drop]; omega) (by rw [List.length_take]; omega)).mono (by rintro e w' ⟨rfl, rfl⟩; exact ⟨rfl, rfl⟩))
      have C2 : Hid (Calls Try.prog 46 #[.slice (some ⟨a1, a2 + 8, none⟩) 4 (c - 8)] w.drew fun e w' => e = .returned (.int .u64 (sO b : Nat)) ∧ w' = w.drew) := Lib.hid ((refGet_any _ 4 (c - 8) ((b.drop 8).take 4) w.drew (hb2.spares (Spares.refl nowhere w).drew (fun _ _ _ h => h)) (by rw [List.length_take, List.length_drop]; omega) (by rw [List.length_take]; omega)).mono (by rintro e w' ⟨rfl, rfl⟩; exact ⟨rfl, rfl⟩))
      have HB0 := Lib.hid hB0
      have H4 := Lib.hid h4
      obtain ⟨n, hn⟩ : ∃ n, nO b = n := ⟨_, rfl⟩
      obtain ⟨s, hs⟩ : ∃ s, sO b = s := ⟨_, rfl⟩
      rw [hn] at C1
      rw [hs] at C2
      have HN := Lib.hid hn
      have HSS := Lib.hid hs
      have hc4 : ¬ c = 4 := by omega
      have hc8 : ¬ c = 8 := by omega
      have g4 : (4 : Int) ≤ (c : Int) := by omega
      have g8 : (8 : Int) ≤ (c : Int) := by omega
      have g12 : (12 : Int) ≤ (c : Int) := by omega
      have g12' : (12 : Int) ≤ (L : Int) := by omega
      have hL12 : b.length = L := hL
      have HL12 := Lib.hid hL12
      have hat0 := hat
      clear hX hx0 hm2 hat hb1 hb2 hB0 h4 hn hs hL hL12
      go_enter Try.func33, Try.ntmps33
      go_upto_region 3 with (fail)
      refine wp_region_held_drew (S := fun _ => True) (by kernel_rfl) (trivial) (fun hS0 => ?_)
      refine wpAnyH_take (i := 0) (v := ?_) rfl (by kernel_rfl) (by kernel_rfl) (by kernel_rfl) (fun _ _ _ h => h) (Or.inl ⟨by rfl, ?_⟩) (by assumption) ?_
      rotate_left
      · intro w9 hS9
        skip
        go_simp
        try with_reducible rfl
      simp only [List.getElem_toArray, List.getElem_cons_zero, Act.put, List.setIfInBounds_toArray, List.set_cons_succ, List.set_cons_zero]
      refine wpAnyH_take (i := 1) (v := ?_) rfl (by kernel_rfl) (by kernel_rfl) (by kernel_rfl) (fun _ _ _ h => h) (Or.inl ⟨by rfl, ?_⟩) (by assumption) ?_
      rotate_left
      · intro w9 hS9
        skip
        go_simp
        try with_reducible rfl
      simp only [List.getElem_toArray, List.getElem_cons_succ, List.getElem_cons_zero, Act.put, List.setIfInBounds_toArray, List.set_cons_succ, List.set_cons_zero]
      refine wpAnyH_take (i := 3) (v := ?_) rfl (by kernel_rfl) (by kernel_rfl) (by kernel_rfl) (fun _ _ _ h => h) (Or.inl ⟨by rfl, ?_⟩) (by assumption) ?_
      rotate_left
      · intro w9 hS9
        skip
        go_simp
        try with_reducible rfl
      simp only [List.getElem_toArray, List.getElem_cons_succ, List.getElem_cons_zero, Act.put, List.setIfInBounds_toArray, List.set_cons_succ, List.set_cons_zero]
      refine wpAnyH_take (i := 4) (v := ?_) rfl (by kernel_rfl) (by kernel_rfl) (by kernel_rfl) (fun _ _ _ h => h) (Or.inl ⟨by rfl, ?_⟩) (by assumption) ?_
      rotate_left
      · intro w9 hS9
        skip
        go_simp
        try with_reducible rfl
      simp only [List.getElem_toArray, List.getElem_cons_succ, List.getElem_cons_zero, Act.put, List.setIfInBounds_toArray, List.set_cons_succ, List.set_cons_zero]
      refine wpAnyH_ready (rs := [2]) (by kernel_rfl) (by simp) ?_
      refine AllReadyH.cons rfl (fun K9 hK9 => ?_) ?_
      · go_simp
        go_at_call 46
        with_reducible refine Calls.mono C1.out ?_
        rintro e v1 ⟨rfl, rfl⟩
        try go_simp
        refine hK9.out _ _ ?_ (fun hS9 => ?_)
        · exact trivial
        clear hK9 K9
        refine wpAnyH_ready (rs := [5]) (by kernel_rfl) (by simp) ?_
        refine AllReadyH.cons rfl (fun K9 hK9 => ?_) ?_
        · go_simp
          go_at_call 46
          with_reducible refine Calls.mono C2.out ?_
          rintro e v1 ⟨rfl, rfl⟩
          try go_simp
          refine hK9.out _ _ ?_ (fun hS9 => ?_)
          · exact trivial
          clear hK9 K9
          refine wpAnyH_take (i := 6) (v := ?_) rfl (by kernel_rfl) (by kernel_rfl) (by kernel_rfl) (fun _ _ _ h => h) (Or.inl ⟨by rfl, ?_⟩) (by assumption) ?_
          rotate_left
          · intro w9 hS9
            skip
            go_simp
            try with_reducible rfl
          simp only [List.getElem_toArray, List.getElem_cons_succ, List.getElem_cons_zero, Act.put, List.setIfInBounds_toArray, List.set_cons_succ, List.set_cons_zero]
          refine wpAnyH_take (i := 7) (v := ?_) rfl (by kernel_rfl) (by kernel_rfl) (by kernel_rfl) (fun _ _ _ h => h) (Or.inl ⟨by rfl, ?_⟩) (by assumption) ?_
          rotate_left
          · intro w9 hS9
            skip
            go_simp
            try with_reducible rfl
          simp only [List.getElem_toArray, List.getElem_cons_succ, List.getElem_cons_zero, Act.put, List.setIfInBounds_toArray, List.set_cons_succ, List.set_cons_zero]
          refine wpAnyH_done (by kernel_rfl) ?_ _
          by_cases m1 : n < 1
          · have j1 : (n : Int) < 1 := by omega
            have HNO : dirO b = none := headO_no (fun h => by have := h.2.2.1; rw [HN.out] at this; omega)
            go_wp2
            go_ret2
            exact refOpenPost_no HNO (Spares.refl _ _).drew
          have j1 : ¬ (n : Int) < 1 := by omega
          by_cases m2 : 4096 < n
          · have j2 : (4096 : Int) < (n : Int) := by omega
            have HNO : dirO b = none := headO_no (fun h => by have := h.2.2.2.1; rw [HN.out] at this; omega)
            go_wp2
            go_ret2
            exact refOpenPost_no HNO (Spares.refl _ _).drew
          have j2 : ¬ (4096 : Int) < (n : Int) := by omega
          by_cases m3 : s < 1
          · have j3 : (s : Int) < 1 := by omega
            have HNO : dirO b = none := headO_no (fun h => by have := h.2.2.2.2.1; rw [HSS.out] at this; omega)
            go_wp2
            go_ret2
            exact refOpenPost_no HNO (Spares.refl _ _).drew
          have j3 : ¬ (s : Int) < 1 := by omega
          by_cases m4 : 16 < s
          · have j4 : (16 : Int) < (s : Int) := by omega
            have HNO : dirO b = none := headO_no (fun h => by have := h.2.2.2.2.2; rw [HSS.out] at this; omega)
            go_wp2
            go_ret2
            exact refOpenPost_no HNO (Spares.refl _ _).drew
          have j4 : ¬ (16 : Int) < (s : Int) := by omega
          have HYES : Hid (headO b = true) := Lib.hid (headO_yes ⟨by rw [HL.out]; omega, H4.out, by rw [HN.out]; omega, by rw [HN.out]; omega, by rw [HSS.out]; omega, by rw [HSS.out]; omega⟩)
          have wn : IntKind.i64.wrap (n : Int) = (n : Int) := by rw [IntKind.wrap_i64]; omega
          have ws : IntKind.i64.wrap (s : Int) = (s : Int) := by rw [IntKind.wrap_i64]; omega
          have NEW : Hid (∀ W, Spares nowhere w W → Calls Try.prog 13 #[.int .i64 (n : Int), .int .i64 (s : Int)] W fun e v => ∃ p bk, e = .returned (.pointer (some ⟨p, 0, none⟩)) ∧ Hid (RD p bk n s w (List.replicate n []) v)) := Lib.hid (fun W hW => (refNew_any (n : Int) (s : Int) n s W (by omega) (by omega)).mono (by
            rintro e v ⟨F, p, bk, R, rfl, hd, hsp, hlo, hhi⟩
            exact ⟨p, bk, rfl, Lib.hid ⟨⟨F, R, hd, fun k hk => ⟨Nat.le_trans hW.size (hlo k hk), hhi k hk⟩⟩, hW.trans hsp⟩⟩))
          go_wp2_with fail
          refine (NEW.out _ (Spares.refl _ _).drew).mono ?_
          rintro e v ⟨p, bk, rfl, HI0⟩
          have hs16 : s ≤ 16 := by omega
          have HAT := Lib.hid hat0
          clear hat0
          go_wp2
          go_loopw [7, 8] (fun r7 i wr => ∃ k t : Nat, ∃ E : List (List Ent), k ≤ n ∧ i = .int .i64 k ∧ r7 = .int .i64 t ∧ 12 ≤ t ∧ t ≤ L ∧ Hid (rowsO s (b.drop 12) k = some (E, b.drop t)) ∧ Hid (RD p bk n s w (E ++ List.replicate (n - k) []) wr)) (fun _ i _ => n - (intOf i).toNat)
          case atStart => exact ⟨0, 12, [], by omega, rfl, rfl, by omega, by omega, Lib.hid rfl, Lib.hid (by simpa using HI0.out)⟩
          case round =>
            obtain ⟨k, t, E, hk, rfl, rfl, h12t, htL, HRO, HI⟩ := hrel
            by_cases hlt : k < n
            · obtain ⟨bk0, hbk0⟩ : ∃ x : Nat, x = x := ⟨0, rfl⟩
              have hEk : E.length = k := (rowsO_back HRO.out).2.1
              have hbad : rowO s (b.drop t) = none → dirO b = none := fun h => dirO_rows HYES.out (by
                rw [HN.out, HSS.out]
                exact rowsO_none (rowsO_bad HRO.out h) n (by omega))
              have HBAD := Lib.hid hbad
              have HEK := Lib.hid hEk
              clear hbad hEk hbk0
              by_cases htl : L ≤ t
              · have f1 : (L : Int) ≤ (t : Int) := by omega
                have HNO := HBAD.out (by rw [List.drop_eq_nil_of_le (by rw [HL12.out]; exact htl)]; rfl)
                go_wp2
                go_ret2
                exact refOpenPost_no HNO HI.out.sp
              · have f1 : ¬ (L : Int) ≤ (t : Int) := by omega
                have f1' : (t : Int) < (L : Int) := by omega
                have htb : t < b.length := by rw [HL12.out]; omega
                obtain ⟨x, hx⟩ : ∃ x, b[t] = x := ⟨_, rfl⟩
                obtain ⟨R, hR⟩ : ∃ R, b.drop (t + 1) = R := ⟨_, rfl⟩
                have hdx : b.drop t = x :: R := by rw [List.drop_eq_getElem_cons htb, hx, hR]
                have hRl : R.length = L - t - 1 := by rw [← hR, List.length_drop, HL12.out]; omega
                obtain ⟨m, hm⟩ : ∃ m, x.toNat = m := ⟨_, rfl⟩
                have hm256 : m < 256 := by rw [← hm]; exact UInt8.toNat_lt _
                have hcx : ∀ W, Spares nowhere w W → W.cell? ⟨a1, a2 + t, none⟩ = some (.int .u8 m) := fun W hW => by
                  obtain ⟨b2, o2, e2, hcell⟩ := HAT.out t htb
                  simp only [Option.some.injEq, Addr.mk.injEq] at e2
                  obtain ⟨rfl, rfl, _⟩ := e2
                  rw [hx, hm] at hcell
                  exact (hW.cell (p := ⟨_, _, none⟩) ha1 (fun h => h)).trans hcell
                have c1 := hcx wr HI.out.sp
                have v1 : IntKind.i64.wrap (m : Int) = (m : Int) := by rw [IntKind.wrap_i64]; omega
                have v2 : IntKind.i64.wrap ((L : Int) - (t : Int)) = (L : Int) - (t : Int) := by rw [IntKind.wrap_i64]; omega
                have v3 : IntKind.i64.wrap ((L : Int) - (t : Int) - 1) = (L : Int) - (t : Int) - 1 := by rw [IntKind.wrap_i64]; omega
                have v4 : IntKind.i64.wrap (16 * (m : Int)) = 16 * (m : Int) := by rw [IntKind.wrap_i64]; omega
                have v5 : IntKind.i64.wrap ((t : Int) + 1) = (t : Int) + 1 := by rw [IntKind.wrap_i64]; omega
                have v6 : (0 : Int) ≤ (t : Int) := by omega
                by_cases hsm : s < m
                · have f2 : (s : Int) < (m : Int) := by omega
                  have HNO := HBAD.out (by rw [hdx, rowO, if_pos (by rw [hm]; exact hsm)])
                  go_wp2
                  go_ret2
                  exact refOpenPost_no HNO HI.out.sp
                · have f2 : ¬ (s : Int) < (m : Int) := by omega
                  by_cases h16m : L - t - 1 < 16 * m
                  · have f3 : (L : Int) - (t : Int) - 1 < 16 * (m : Int) := by omega
                    have HNO := HBAD.out (by
                      rw [hdx, rowO, if_neg (by rw [hm]; exact hsm), hm]
                      obtain ⟨m, rfl⟩ : ∃ m', m = m' + 1 := ⟨m - 1, by omega⟩
                      rw [opE_short (by omega)])
                    go_wp2
                    go_ret2
                    exact refOpenPost_no HNO HI.out.sp
                  · have f3 : ¬ (L : Int) - (t : Int) - 1 < 16 * (m : Int) := by omega
                    have HBAD2 : Hid (opE R m = none → dirO b = none) := Lib.hid (fun h => HBAD.out (by rw [hdx, rowO, if_neg (by rw [hm]; exact hsm), hm, h]))
                    have HGOOD : Hid (∀ l, opE R m = some l → rowsO s (b.drop 12) (k + 1) = some (E ++ [l], b.drop (t + 1 + 16 * m))) := Lib.hid (fun l h => rowsO_good HRO.out (by rw [hdx, rowO, if_neg (by rw [hm]; exact hsm), hm, h, ← hR, List.drop_drop]))
                    have HR := Lib.hid hR
                    have HRL := Lib.hid hRl
                    have HI1 : Hid (RD p bk n s w (E ++ [] :: List.replicate (n - k - 1) []) wr) := Lib.hid (by rw [← row_none E hlt]; exact HI.out)
                    clear hdx hR hRl hx hm hcx HBAD HRO HI
                    go_upto_region 15 with (fail)
                    go_wp2
                    obtain ⟨wo, hwo⟩ : ∃ wo, wo = wr := ⟨_, rfl⟩
                    subst hwo
                    go_loopw [7, 10] (fun r7 i wr => ∃ j t' : Nat, ∃ l : List Ent, j ≤ m ∧ Hid (t' = t + 1 + 16 * j) ∧ i = .int .i64 j ∧ r7 = .int .i64 t' ∧ Hid (opE R j = some l) ∧ Hid (RD p bk n s w (E ++ l :: List.replicate (n - k - 1) []) wr)) (fun _ i _ => m - (intOf i).toNat)
                    case atStart => exact ⟨0, t + 1, [], by omega, Lib.hid (by omega), rfl, by simp, Lib.hid rfl, HI1⟩
                    case round =>
                      obtain ⟨j, t', l, hj, HT', rfl, rfl, HOP, HI⟩ := hrel
                      by_cases hltj : j < m
                      · have ht' := HT'.out
                        have hop := opE_back HOP.out
                        obtain ⟨X, hX⟩ : ∃ X, (R.drop (16 * j)).take 16 = X := ⟨_, rfl⟩
                        have hXl : X.length = 16 := by rw [← hX, List.length_take, List.length_drop, HRL.out]; omega
                        have hstep := opE_step HOP.out (show ¬ R.length < 16 * (j + 1) by rw [HRL.out]; omega)
                        rw [hX] at hstep
                        have hrg : wr.rangeAt a1 (a2 + t') (Lib.byteCells X) := by
                          intro z u hz
                          rw [← hX] at hz
                          have hzl : z < 16 := by
                            have := (List.getElem?_eq_some_iff.1 hz).1
                            rw [byteCells_len, hX, hXl] at this; exact this
                          obtain ⟨b2, o2, e2, hcell⟩ := HAT.out (t' + z) (by rw [HL12.out]; omega)
                          simp only [Option.some.injEq, Addr.mk.injEq] at e2
                          obtain ⟨rfl, rfl, _⟩ := e2
                          rw [(HI.out.sp.cell (p := ⟨a1, a2 + t' + z, none⟩) ha1 (fun h => h)), show a2 + t' + z = a2 + (t' + z) by omega, hcell]
                          unfold Lib.byteCells at hz
                          rw [List.getElem?_map, List.getElem?_take, if_pos hzl, List.getElem?_drop, ← HR.out, List.getElem?_drop, show t + 1 + (16 * j + z) = t' + z by omega, List.getElem?_eq_getElem (by rw [HL12.out]; omega)] at hz
                          simpa using hz
                        have ka := arr16
                        have hct : ¬ c = t' := by omega
                        have g0 : (0 : Int) ≤ (t' : Int) := by omega
                        have g1 : (t' : Int) + 16 ≤ (c : Int) := by omega
                        have g1' : (t' : Int) ≤ (c : Int) := by omega
                        have g2 : (t' : Int) ≤ (t' : Int) + 16 := by omega
                        have g3 : ((t' : Int) + 16 - (t' : Int)) = 16 := by omega
                        have g4 : t' + 16 - t' = 16 := by omega
                        have y1 : IntKind.i64.wrap ((t' : Int) + 16) = (t' : Int) + 16 := by rw [IntKind.wrap_i64]; omega
                        have y2 : IntKind.i64.wrap ((j : Int) + 1) = (j : Int) + 1 := by rw [IntKind.wrap_i64]; omega
                        have HRG := Lib.hid hrg
                        have HIA : Hid ((Try.prog.info? 82).map (·.size) = some (Lib.byteCells X).length) := Lib.hid (by rw [byteCells_len, hXl]; kernel_rfl)
                        have HXL := Lib.hid hXl
                        have HST := Lib.hid hstep
                        have HLJ := Lib.hid hop.1
                        have HCOE := Lib.hid (refOpenEntry_any X)
                        clear hrg hXl hstep hX hop ht'
                        go_wp2_with ((with_reducible show wpList _ _ _ (⟨some 100, _, _, _, _, _⟩ :: _) _ _); refine wpList_load_mid rfl 82 (.tmp 99) rfl a1 (a2 + t') rfl (Lib.byteCells X) _ HRG.out Try.underlying82 rfl HIA.out ?_)
                        refine (HCOE.out wr HXL.out).mono ?_
                        rintro e w2 ⟨rfl, hs2⟩
                        rw [oeV_entO]
                        have HI2 := Lib.hid (HI.out.quiet hs2)
                        have HW2 := Lib.hid hs2
                        clear HCOE HRG HIA hs2
                        cases ho : entO X with
                        | none =>
                          have HNO := HBAD2.out (opE_none (j := j + 1) (by rw [HST.out, ho]) m (by omega))
                          unfold oeR entV
                          go_wp2
                          go_ret2
                          exact refOpenPost_no HNO (HI2.out.sp.alloc _)
                        | some x9 =>
                          have HST2 : Hid (opE R (j + 1) = some (l ++ [x9])) := Lib.hid (by rw [HST.out, ho])
                          have hxok : x9.ok := (entB_entO HXL.out ho).2.ok
                          obtain ⟨t0, t1, t2, t3⟩ := x9
                          clear ho HST
                          obtain ⟨u, hu⟩ : ∃ u, w2.alloc (.cells #[.int .u16 t0, .int .u32 t1, .int .u16 t2, .int .u64 t3] 41) = u := ⟨_, rfl⟩
                          have hsu : Spares nowhere w2 u := by rw [← hu]; exact (Spares.refl _ _).alloc _
                          have hbx : u.heap[w2.heap.size]? = some (.cells #[.int .u16 t0, .int .u32 t1, .int .u16 t2, .int .u64 t3] 41 (0, 0)) := by rw [← hu]; exact heap_alloc_new _ _
                          have hls : l.length + 1 ≤ s := by rw [HLJ.out]; omega
                          obtain ⟨ad, cap, G, hcel, hGw, hGb, happ⟩ := RD.app HI2.out hsu (i := k) hlt (l := l) (by rw [← HEK.out]; exact row_at E l _) ⟨t0, t1, t2, t3⟩ hxok hls hs16
                          obtain ⟨ll, hll⟩ : ∃ ll, l.length = ll := ⟨_, rfl⟩
                          have hpc := (HI2.out.quiet hsu).hd
                          obtain ⟨eb, heb⟩ : ∃ eb, w2.heap.size = eb := ⟨_, rfl⟩
                          have hset : (E ++ l :: List.replicate (n - k - 1) ([] : List Ent)).set k (l ++ [⟨t0, t1, t2, t3⟩]) = E ++ (l ++ [⟨t0, t1, t2, t3⟩]) :: List.replicate (n - k - 1) [] := by
                            rw [← HEK.out]; exact row_set E l _ _
                          rw [hset, hll] at happ
                          rw [hll] at hcel
                          rw [heb] at hbx
                          have HKEEP : Hid (∀ W, Spares G u W → W.cell? ⟨p, 0, none⟩ = some (.slice (some ⟨bk, 0, none⟩) n n) ∧ W.cell? ⟨eb, 0, none⟩ = some (.int .u16 t0) ∧ W.cell? ⟨eb, 1, none⟩ = some (.int .u32 t1) ∧ W.cell? ⟨eb, 2, none⟩ = some (.int .u16 t2) ∧ W.cell? ⟨eb, 3, none⟩ = some (.int .u64 t3)) := Lib.hid (fun W hW => by
                            have hb := hW.heap hbx (fun h => by have := (hGw _ h).2.1; omega)
                            refine ⟨(hW.cell (p := ⟨p, 0, none⟩) (cellB_lt hpc) (fun h => (hGw _ h).2.2 rfl)).trans hpc, ?_, ?_, ?_, ?_⟩ <;> (rw [Lib.cell_of_heap hb]; rfl))
                          have HAPP := Lib.hid happ
                          have HGB := Lib.hid hGb
                          have HU := Lib.hid hu
                          have HEB := Lib.hid heb
                          have e1 := hcel u (Spares.refl _ _)
                          have e3 : ∀ o, (u.alloc o).cell? ⟨bk, k, none⟩ = some (.slice ad ll cap) := fun o => hcel _ ((Spares.refl _ _).alloc o)
                          have e2 : ∀ o, (u.drew.alloc o).cell? ⟨bk, k, none⟩ = some (.slice ad ll cap) := fun o => hcel _ ((Spares.refl _ _).drew.alloc o)
                          have hdr : Spares nowhere u u.drew := (Spares.refl _ _).drew
                          have hdG : Spares G u u.drew := (Spares.refl _ _).drew
                          clear hu hsu hbx hls hGw happ hGb hpc heb hset hcel hll
                          unfold oeR entV
                          go_upto_region 21 with (fail)
                          rw [HU.out, HEB.out]
                          refine wp_region_held_drew (S := fun V => V.cell? ⟨p, 0, none⟩ = some (.slice (some ⟨bk, 0, none⟩) n n) ∧ V.cell? ⟨eb, 0, none⟩ = some (.int .u16 t0) ∧ V.cell? ⟨eb, 1, none⟩ = some (.int .u32 t1) ∧ V.cell? ⟨eb, 2, none⟩ = some (.int .u16 t2) ∧ V.cell? ⟨eb, 3, none⟩ = some (.int .u64 t3)) (by kernel_rfl) (HKEEP.out _ hdG) (fun hS0 => ?_)
                          refine wpAnyH_take (i := 0) (v := ?_) rfl (by kernel_rfl) (by kernel_rfl) (by kernel_rfl) (fun _ _ _ h => h) (Or.inl ⟨by rfl, ?_⟩) (by assumption) ?_
                          rotate_left
                          · intro w9 hS9
                            obtain ⟨z0, z1, z2, z3, z4⟩ := hS9
                            go_simp
                            try with_reducible rfl
                          simp only [List.getElem_toArray, List.getElem_cons_zero, Act.put, List.setIfInBounds_toArray, List.set_cons_succ, List.set_cons_zero]
                          refine wpAnyH_take (i := 1) (v := ?_) rfl (by kernel_rfl) (by kernel_rfl) (by kernel_rfl) (fun _ _ _ h => h) (Or.inl ⟨by rfl, ?_⟩) (by assumption) ?_
                          rotate_left
                          · intro w9 hS9
                            obtain ⟨z0, z1, z2, z3, z4⟩ := hS9
                            go_simp
                            try with_reducible rfl
                          simp only [List.getElem_toArray, List.getElem_cons_succ, List.getElem_cons_zero, Act.put, List.setIfInBounds_toArray, List.set_cons_succ, List.set_cons_zero]
                          refine wpAnyH_take (i := 2) (v := ?_) rfl (by kernel_rfl) (by kernel_rfl) (by kernel_rfl) (fun _ _ _ h => h) (Or.inl ⟨by rfl, ?_⟩) (by assumption) ?_
                          rotate_left
                          · intro w9 hS9
                            obtain ⟨z0, z1, z2, z3, z4⟩ := hS9
                            go_simp
                            try with_reducible rfl
                          simp only [List.getElem_toArray, List.getElem_cons_succ, List.getElem_cons_zero, Act.put, List.setIfInBounds_toArray, List.set_cons_succ, List.set_cons_zero]
                          refine wpAnyH_take (i := 3) (v := ?_) rfl (by kernel_rfl) (by kernel_rfl) (by kernel_rfl) (fun _ _ _ h => h) (Or.inl ⟨by rfl, ?_⟩) (by assumption) ?_
                          rotate_left
                          · intro w9 hS9
                            obtain ⟨z0, z1, z2, z3, z4⟩ := hS9
                            go_simp
                            try with_reducible rfl
                          simp only [List.getElem_toArray, List.getElem_cons_succ, List.getElem_cons_zero, Act.put, List.setIfInBounds_toArray, List.set_cons_succ, List.set_cons_zero]
                          refine wpAnyH_take (i := 4) (v := ?_) rfl (by kernel_rfl) (by kernel_rfl) (by kernel_rfl) (fun _ _ _ h => h) (Or.inl ⟨by rfl, ?_⟩) (by assumption) ?_
                          rotate_left
                          · intro w9 hS9
                            obtain ⟨z0, z1, z2, z3, z4⟩ := hS9
                            go_simp
                            try with_reducible rfl
                          simp only [List.getElem_toArray, List.getElem_cons_succ, List.getElem_cons_zero, Act.put, List.setIfInBounds_toArray, List.set_cons_succ, List.set_cons_zero]
                          refine wpAnyH_take (i := 5) (v := ?_) rfl (by kernel_rfl) (by kernel_rfl) (by kernel_rfl) (fun _ _ _ h => h) (Or.inl ⟨by rfl, ?_⟩) (by assumption) ?_
                          rotate_left
                          · intro w9 hS9
                            obtain ⟨z0, z1, z2, z3, z4⟩ := hS9
                            go_simp
                            try with_reducible rfl
                          simp only [List.getElem_toArray, List.getElem_cons_succ, List.getElem_cons_zero, Act.put, List.setIfInBounds_toArray, List.set_cons_succ, List.set_cons_zero]
                          refine wpAnyH_take (i := 6) (v := ?_) rfl (by kernel_rfl) (by kernel_rfl) (by kernel_rfl) (fun _ _ _ h => h) (Or.inl ⟨by rfl, ?_⟩) (by assumption) ?_
                          rotate_left
                          · intro w9 hS9
                            obtain ⟨z0, z1, z2, z3, z4⟩ := hS9
                            go_simp
                            try with_reducible rfl
                          simp only [List.getElem_toArray, List.getElem_cons_succ, List.getElem_cons_zero, Act.put, List.setIfInBounds_toArray, List.set_cons_succ, List.set_cons_zero]
                          refine wpAnyH_take (i := 7) (v := ?_) rfl (by kernel_rfl) (by kernel_rfl) (by kernel_rfl) (fun _ _ _ h => h) (Or.inl ⟨by rfl, ?_⟩) (by assumption) ?_
                          rotate_left
                          · intro w9 hS9
                            obtain ⟨z0, z1, z2, z3, z4⟩ := hS9
                            go_simp
                            try with_reducible rfl
                          simp only [List.getElem_toArray, List.getElem_cons_succ, List.getElem_cons_zero, Act.put, List.setIfInBounds_toArray, List.set_cons_succ, List.set_cons_zero]
                          refine wpAnyH_take (i := 8) (v := ?_) rfl (by kernel_rfl) (by kernel_rfl) (by kernel_rfl) (fun _ _ _ h => h) (Or.inl ⟨by rfl, ?_⟩) (by assumption) ?_
                          rotate_left
                          · intro w9 hS9
                            obtain ⟨z0, z1, z2, z3, z4⟩ := hS9
                            go_simp
                            try with_reducible rfl
                          simp only [List.getElem_toArray, List.getElem_cons_succ, List.getElem_cons_zero, Act.put, List.setIfInBounds_toArray, List.set_cons_succ, List.set_cons_zero]
                          refine wpAnyH_take (i := 9) (v := ?_) rfl (by kernel_rfl) (by kernel_rfl) (by kernel_rfl) (fun _ _ _ h => h) (Or.inl ⟨by rfl, ?_⟩) (by assumption) ?_
                          rotate_left
                          · intro w9 hS9
                            obtain ⟨z0, z1, z2, z3, z4⟩ := hS9
                            go_simp
                            try with_reducible rfl
                          simp only [List.getElem_toArray, List.getElem_cons_succ, List.getElem_cons_zero, Act.put, List.setIfInBounds_toArray, List.set_cons_succ, List.set_cons_zero]
                          refine wpAnyH_take (i := 10) (v := ?_) rfl (by kernel_rfl) (by kernel_rfl) (by kernel_rfl) (fun _ _ _ h => h) (Or.inl ⟨by rfl, ?_⟩) (by assumption) ?_
                          rotate_left
                          · intro w9 hS9
                            obtain ⟨z0, z1, z2, z3, z4⟩ := hS9
                            go_simp
                            try with_reducible rfl
                          simp only [List.getElem_toArray, List.getElem_cons_succ, List.getElem_cons_zero, Act.put, List.setIfInBounds_toArray, List.set_cons_succ, List.set_cons_zero]
                          refine wpAnyH_take (i := 12) (v := ?_) rfl (by kernel_rfl) (by kernel_rfl) (by kernel_rfl) (fun _ _ _ h => h) (Or.inl ⟨by rfl, ?_⟩) (by assumption) ?_
                          rotate_left
                          · intro w9 hS9
                            obtain ⟨z0, z1, z2, z3, z4⟩ := hS9
                            go_simp
                            try with_reducible rfl
                          simp only [List.getElem_toArray, List.getElem_cons_succ, List.getElem_cons_zero, Act.put, List.setIfInBounds_toArray, List.set_cons_succ, List.set_cons_zero]
                          refine wpAnyH_ready (rs := [11, 13]) (by kernel_rfl) (by simp) ?_
                          refine AllReadyH.cons rfl (fun K9 hK9 => ?_) ?_
                          · go_simp
                            refine hK9.out _ _ ?_ (fun hS9 => ?_)
                            · first
                                | exact HKEEP.out _ hdG
                                | exact HKEEP.out _ (hdG.alloc _)
                                | exact HKEEP.out _ hs4
                                | exact HKEEP.out _ (hs4.setCell (p := ⟨bk, k, none⟩) (.inl HGB.out) _)
                            clear hK9 K9
                            refine wpAnyH_ready (rs := [13]) (by kernel_rfl) (by simp) ?_
                            refine AllReadyH.cons rfl (fun K9 hK9 => ?_) ?_
                            · go_simp
                              refine hK9.out _ _ ?_ (fun hS9 => ?_)
                              · first
                                  | exact HKEEP.out _ hdG
                                  | exact HKEEP.out _ (hdG.alloc _)
                                  | exact HKEEP.out _ hs4
                                  | exact HKEEP.out _ (hs4.setCell (p := ⟨bk, k, none⟩) (.inl HGB.out) _)
                              clear hK9 K9
                              refine wpAnyH_ready (rs := [14]) (by kernel_rfl) (by simp) ?_
                              refine AllReadyH.cons rfl (fun K9 hK9 => ?_) ?_
                              · obtain ⟨ad4, cap4, w4, hr4, hs4, ⟨c4, f4⟩, hp4⟩ := HAPP.out _ 38 hdr
                                refine step_append_fact (by rfl) (.tmp 117) (.tmp 119) 38 (by rfl) (.slice ad ll cap) (.slice (some ⟨u.heap.size, 0, none⟩) 1 1) (by rfl) (by rfl) hr4 ?_
                                try go_simp
                                refine hK9.out _ _ ?_ (fun hS9 => ?_)
                                · first
                                    | exact HKEEP.out _ hdG
                                    | exact HKEEP.out _ (hdG.alloc _)
                                    | exact HKEEP.out _ hs4
                                    | exact HKEEP.out _ (hs4.setCell (p := ⟨bk, k, none⟩) (.inl HGB.out) _)
                                clear hK9 K9
                                refine wpAnyH_ready (rs := [15]) (by kernel_rfl) (by simp) ?_
                                refine AllReadyH.cons rfl (fun K9 hK9 => ?_) ?_
                                · go_simp
                                  refine hK9.out _ _ ?_ (fun hS9 => ?_)
                                  · first
                                      | exact HKEEP.out _ hdG
                                      | exact HKEEP.out _ (hdG.alloc _)
                                      | exact HKEEP.out _ hs4
                                      | exact HKEEP.out _ (hs4.setCell (p := ⟨bk, k, none⟩) (.inl HGB.out) _)
                                  clear hK9 K9
                                  refine wpAnyH_ready (rs := [16]) (by kernel_rfl) (by simp) ?_
                                  refine AllReadyH.cons rfl (fun K9 hK9 => ?_) ?_
                                  · go_simp
                                    refine hK9.out _ _ ?_ (fun hS9 => ?_)
                                    · first
                                        | exact HKEEP.out _ hdG
                                        | exact HKEEP.out _ (hdG.alloc _)
                                        | exact HKEEP.out _ hs4
                                        | exact HKEEP.out _ (hs4.setCell (p := ⟨bk, k, none⟩) (.inl HGB.out) _)
                                    clear hK9 K9
                                    refine wpAnyH_done (by kernel_rfl) ?_ _
                                    have HP4 := Lib.hid hp4
                                    go_wp2
                                    go_roundw
                                    case rel => exact ⟨j + 1, t' + 16, _, by omega, Lib.hid (by have := HT'.out; omega), by simp, by simp, HST2, HP4⟩
                                    case measure => simp [intOf]; omega
                                  exact AllReadyH.nil
                                exact AllReadyH.nil
                              exact AllReadyH.nil
                            exact AllReadyH.nil
                          refine AllReadyH.cons rfl (fun K9 hK9 => ?_) ?_
                          · go_simp
                            refine hK9.out _ _ ?_ (fun hS9 => ?_)
                            · first
                                | exact HKEEP.out _ hdG
                                | exact HKEEP.out _ (hdG.alloc _)
                                | exact HKEEP.out _ hs4
                                | exact HKEEP.out _ (hs4.setCell (p := ⟨bk, k, none⟩) (.inl HGB.out) _)
                            clear hK9 K9
                            refine wpAnyH_ready (rs := [11]) (by kernel_rfl) (by simp) ?_
                            refine AllReadyH.cons rfl (fun K9 hK9 => ?_) ?_
                            · go_simp
                              refine hK9.out _ _ ?_ (fun hS9 => ?_)
                              · first
                                  | exact HKEEP.out _ hdG
                                  | exact HKEEP.out _ (hdG.alloc _)
                                  | exact HKEEP.out _ hs4
                                  | exact HKEEP.out _ (hs4.setCell (p := ⟨bk, k, none⟩) (.inl HGB.out) _)
                              clear hK9 K9
                              refine wpAnyH_ready (rs := [14]) (by kernel_rfl) (by simp) ?_
                              refine AllReadyH.cons rfl (fun K9 hK9 => ?_) ?_
                              · obtain ⟨ad4, cap4, w4, hr4, hs4, ⟨c4, f4⟩, hp4⟩ := HAPP.out _ 38 hdr
                                refine step_append_fact (by rfl) (.tmp 117) (.tmp 119) 38 (by rfl) (.slice ad ll cap) (.slice (some ⟨u.heap.size, 0, none⟩) 1 1) (by rfl) (by rfl) hr4 ?_
                                try go_simp
                                refine hK9.out _ _ ?_ (fun hS9 => ?_)
                                · first
                                    | exact HKEEP.out _ hdG
                                    | exact HKEEP.out _ (hdG.alloc _)
                                    | exact HKEEP.out _ hs4
                                    | exact HKEEP.out _ (hs4.setCell (p := ⟨bk, k, none⟩) (.inl HGB.out) _)
                                clear hK9 K9
                                refine wpAnyH_ready (rs := [15]) (by kernel_rfl) (by simp) ?_
                                refine AllReadyH.cons rfl (fun K9 hK9 => ?_) ?_
                                · go_simp
                                  refine hK9.out _ _ ?_ (fun hS9 => ?_)
                                  · first
                                      | exact HKEEP.out _ hdG
                                      | exact HKEEP.out _ (hdG.alloc _)
                                      | exact HKEEP.out _ hs4
                                      | exact HKEEP.out _ (hs4.setCell (p := ⟨bk, k, none⟩) (.inl HGB.out) _)
                                  clear hK9 K9
                                  refine wpAnyH_ready (rs := [16]) (by kernel_rfl) (by simp) ?_
                                  refine AllReadyH.cons rfl (fun K9 hK9 => ?_) ?_
                                  · go_simp
                                    refine hK9.out _ _ ?_ (fun hS9 => ?_)
                                    · first
                                        | exact HKEEP.out _ hdG
                                        | exact HKEEP.out _ (hdG.alloc _)
                                        | exact HKEEP.out _ hs4
                                        | exact HKEEP.out _ (hs4.setCell (p := ⟨bk, k, none⟩) (.inl HGB.out) _)
                                    clear hK9 K9
                                    refine wpAnyH_done (by kernel_rfl) ?_ _
                                    have HP4 := Lib.hid hp4
                                    go_wp2
                                    go_roundw
                                    case rel => exact ⟨j + 1, t' + 16, _, by omega, Lib.hid (by have := HT'.out; omega), by simp, by simp, HST2, HP4⟩
                                    case measure => simp [intOf]; omega
                                  exact AllReadyH.nil
                                exact AllReadyH.nil
                              exact AllReadyH.nil
                            exact AllReadyH.nil
                          exact AllReadyH.nil
                      · obtain rfl : j = m := by omega
                        have hle9 : 12 ≤ t' ∧ t' ≤ L := by have := HT'.out; omega
                        have HG := HGOOD.out l HOP.out
                        have HRO9 := Lib.hid HG
                        have HI9 : Hid (RD p bk n s w ((E ++ [l]) ++ List.replicate (n - (k + 1)) []) wr) := Lib.hid (by rw [← row_next]; exact HI.out)
                        have yk : IntKind.i64.wrap ((k : Int) + 1) = (k : Int) + 1 := by rw [IntKind.wrap_i64]; omega
                        clear HG
                        go_wp2
                        go_roundw
                        case rel => exact ⟨k + 1, t', E ++ [l], by omega, by simp, rfl, hle9.1, hle9.2, by rw [HT'.out]; exact HRO9, HI9⟩
                        case measure => simp [intOf]; omega
            · obtain rfl : k = n := by omega
              have HD := HI.out
              rw [Nat.sub_self, List.replicate_zero, List.append_nil] at HD
              by_cases htl : t = L
              · have HYS : dirO b = some (k, s, E) := by
                  have := dirO_good HYES.out (E := E) (by rw [HN.out, HSS.out, HRO.out, htl, List.drop_eq_nil_of_le (by rw [HL12.out]; omega)])
                  rw [HN.out, HSS.out] at this
                  exact this
                obtain ⟨⟨F, R, hd, hF⟩, hsp⟩ := HD
                subst htl
                go_wp2
                go_ret2
                exact ⟨hsp, .inl ⟨k, s, E, p, F, bk, R, HYS, rfl, hd, hF⟩⟩
              · have f1 : ((t : Int) == (L : Int)) = false := by simp; omega
                have HNO : dirO b = none := dirO_more HYES.out (by rw [HN.out, HSS.out]; exact HRO.out) (fun h => by
                  have := congrArg List.length h
                  rw [List.length_drop, HL12.out] at this
                  simp at this
                  omega)
                have HSP := HD.sp
                go_wp2
                go_ret2
                exact refOpenPost_no HNO HSP
        exact AllReadyH.nil
      exact AllReadyH.nil
end Go.Proofs.Ytihbjkdgfflnfaa
namespace Go.Proofs.Ytihbjkdgfflnfaa
open Go.RowKit

theorem RD.ins {p bk n s : Nat} {w : World} {E : List (List Ent)} {W : World} (h : RD p bk n s w E W) (K : List UInt8) (hK : K.length = 32) (a sc tn : Nat) (ha : a < 4294967296) (hsc : sc < 65536) (htn : tn < 18446744073709551616) :
    Calls Try.prog 17 #[.pointer (some ⟨p, 0, none⟩), .agg (bytesV K), .int .u32 a, .int .u16 sc, .int .u64 tn] W fun e w' => ∃ v E', e = .returned v ∧ Hid (RD p bk n s w E' w') := by
  obtain ⟨⟨F, R, hd, hF⟩, hsp⟩ := h
  refine (refInsert_any F p bk n s R E K a sc tn W hd hK ha hsc htn).mono ?_
  rintro e w' ⟨rfl, hs, F2, R2, hr2, hf2⟩
  refine ⟨_, _, rfl, Lib.hid ⟨⟨F2, R2, hr2, fun k hk => ?_⟩, hsp.trans' hs (fun k hk => .inr (hF k hk).1)⟩⟩
  rcases hf2 k hk with hk | ⟨ha, hb⟩
  · exact ⟨(hF k hk).1, Nat.lt_of_lt_of_le (hF k hk).2 hs.size⟩
  · exact ⟨Nat.le_trans hsp.size ha, hb⟩
theorem RD.small {p bk n s : Nat} {w : World} {E : List (List Ent)} {W : World} (h : RD p bk n s w E W) (hn : n ≤ 8) : (dirB n s E).length ≤ 3000 ∧ 12 ≤ (dirB n s E).length := by
  obtain ⟨⟨F, R, hd, _⟩, _⟩ := h
  have h1 := rowsB_len E (fun r hr => Nat.le_trans (hd.lens r hr) hd.s1)
  rw [hd.rows.len] at h1
  unfold dirB
  rw [List.length_append, dirH_len]
  omega
/-- The directory's bytes, with a byte at place i that may be stored. -/
theorem RD.bytes {p bk n s : Nat} {w : World} {E : List (List Ent)} {W : World} (h : RD p bk n s w E W) (hn : n ≤ 8) :
    Calls Try.prog 25 #[.pointer (some ⟨p, 0, none⟩)] W fun e w' => ∃ g c D, e = .returned (.slice (some ⟨g, 0, none⟩) D.length c) ∧ 12 ≤ D.length ∧ D.length ≤ 3000 ∧ D.length ≤ c ∧ c ≤ 9223372036854775807 ∧ w.heap.size ≤ g ∧ Hid (BytesAt w' (some ⟨g, 0, none⟩) D) ∧ Hid (∀ j, j < D.length → w'.frozen? ⟨g, j, none⟩ = false) ∧ Hid (Spares nowhere w w') := by
  have hsm := h.small hn
  obtain ⟨⟨F, R, hd, hF⟩, hsp⟩ := h
  refine (refDBytesT_any F p bk n s R E W hd (by omega)).mono ?_
  rintro e w' ⟨v, rfl, hr, hs⟩
  have hr0 := hr
  obtain ⟨g, cur, fz, hv, hB, hg, hfz, hle, hm, ht⟩ := hr0
  obtain ⟨g', c', hv', _, hat, _⟩ := hr.shape
  rw [hv] at hv'
  simp only [Value.slice.injEq, Option.some.injEq, Addr.mk.injEq] at hv'
  obtain ⟨⟨rfl, _⟩, _⟩ := hv'
  refine ⟨g, cur.size, _, by rw [hv], hsm.2, hsm.1, hle, Nat.le_trans hm (by decide), Nat.le_trans hsp.size hB, Lib.hid hat, Lib.hid (fun j hj => ?_), Lib.hid (hsp.trans hs)⟩
  obtain ⟨lo, up⟩ := fz
  simp only [World.frozen?, hg, Bool.and_eq_false_iff, decide_eq_false_iff_not]
  rcases hfz with h | h
  · right
    simp only at h
    omega
  · left
    simp only at h
    omega
theorem bytesAt_put {w : World} {g : Nat} {D : List UInt8} (h : BytesAt w (some ⟨g, 0, none⟩) D) (j z : Nat) (hz : z < 256) : BytesAt (w.setCell ⟨g, j, none⟩ (.int .u8 z)) (some ⟨g, 0, none⟩) (D.set j (UInt8.ofNat z)) := by
  intro k hk
  rw [List.length_set] at hk
  obtain ⟨b2, o2, e2, hcell⟩ := h k hk
  simp only [Option.some.injEq, Addr.mk.injEq] at e2
  obtain ⟨rfl, rfl, _⟩ := e2
  refine ⟨_, _, rfl, ?_⟩
  rw [Nat.zero_add] at hcell ⊢
  by_cases e : j = k
  · subst e
    rw [World.cell?_setCell_same _ _ _ hcell, List.getElem_set_self, UInt8.toNat_ofNat', Nat.mod_eq_of_lt hz]
  · rw [List.getElem_set_ne e, World.cell?_setCell_other (h := fun h => by simp only [Addr.mk.injEq] at h; omega)]
    exact hcell
theorem xor_u8 (a b : Int) : ∃ z : Nat, z < 256 ∧ Go.bits .xor .u8 a b = (z : Int) := by
  have h : ∃ y : Int, Go.bits .xor .u8 a b = y % 256 := by
    unfold Go.bits
    first
      | exact ⟨_, IntKind.wrap_u8 _⟩
      | (simp only [IntKind.wrap_u8]; exact ⟨_, rfl⟩)
  obtain ⟨y, hy⟩ := h
  exact ⟨(y % 256).toNat, by omega, by rw [hy]; omega⟩
end Go.Proofs.Ytihbjkdgfflnfaa
