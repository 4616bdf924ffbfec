/-
  The program's directory and the document's, beside one another in one world.
  Entries of keys that meet in bucket and tag.
-/
import Derived.Test.YtihbjkdgfflnfaaMg16
namespace Go.Proofs.Ytihbjkdgfflnfaa
open Go.RowKit

/-- Both directories, made since w0, apart from one another. -/
structure BothAt (n s : Nat) (w0 : World) (F : Nat → Prop) (p bk : Nat) (F' : Nat → Prop) (p' bk' : Nat) (Ed Er : List (List Ent)) (W : World) : Prop where
  d : ∃ R, IsDir F p bk n s R Ed W
  r : ∃ R, IsRef F' p' bk' n s R Er W
  dF : ∀ k, F k → w0.heap.size ≤ k ∧ k < W.heap.size
  rF : ∀ k, F' k → w0.heap.size ≤ k ∧ k < W.heap.size
  apart : ∀ k, F k → ¬ F' k
  sp : Spares nowhere w0 W
def Both (n s : Nat) (w0 : World) (p p' : Nat) (Ed Er : List (List Ent)) (W : World) : Prop := ∃ F bk F' bk', BothAt n s w0 F p bk F' p' bk' Ed Er W
theorem Both.quiet {n s : Nat} {w0 : World} {p p' : Nat} {Ed Er : List (List Ent)} {W V : World} (h : Both n s w0 p p' Ed Er W) (hs : Spares nowhere W V) : Both n s w0 p p' Ed Er V := by
  obtain ⟨F, bk, F', bk', ⟨R, hd⟩, ⟨R', hr⟩, h1, h2, h3, h4⟩ := h
  exact ⟨F, bk, F', bk', ⟨R, hd.spares hs (fun _ _ _ h => h)⟩, ⟨R', hr.spares hs (fun _ _ _ h => h)⟩, fun k hk => ⟨(h1 k hk).1, Nat.lt_of_lt_of_le (h1 k hk).2 hs.size⟩, fun k hk => ⟨(h2 k hk).1, Nat.lt_of_lt_of_le (h2 k hk).2 hs.size⟩, h3, h4.trans hs⟩
theorem Both.sp {n s : Nat} {w0 : World} {p p' : Nat} {Ed Er : List (List Ent)} {W : World} (h : Both n s w0 p p' Ed Er W) : Spares nowhere w0 W := by
  obtain ⟨_, _, _, _, h⟩ := h; exact h.sp
theorem Both.len {n s : Nat} {w0 : World} {p p' : Nat} {Ed Er : List (List Ent)} {W : World} (h : Both n s w0 p p' Ed Er W) : Ed.length = n ∧ Er.length = n := by
  obtain ⟨_, _, _, _, h⟩ := h
  obtain ⟨⟨_, hd⟩, ⟨_, hr⟩, _⟩ := h
  exact ⟨hd.rows.len, hr.rows.len⟩
theorem Both.bounds {n s : Nat} {w0 : World} {p p' : Nat} {Ed Er : List (List Ent)} {W : World} (h : Both n s w0 p p' Ed Er W) : (∀ r ∈ Ed, r.length ≤ s) ∧ (∀ r ∈ Er, r.length ≤ s) ∧ 0 < n ∧ n ≤ 4096 ∧ 0 < s ∧ s ≤ 16 := by
  obtain ⟨_, _, _, _, h⟩ := h
  obtain ⟨⟨_, hd⟩, ⟨_, hr⟩, _⟩ := h
  exact ⟨hd.lens, hr.lens, hr.n0, hr.n1, hr.s0, hr.s1⟩
theorem both_insert_d {n s : Nat} {w0 : World} {p p' : Nat} {Ed Er : List (List Ent)} {W : World} (h : Both n s w0 p p' Ed Er W) (K : List UInt8) (hK : K.length = 32) (a sc tn : Nat) (ha : a < 4294967296) (hsc : sc < 65536) (htn : tn < 18446744073709551616) :
    Calls Try.prog 16 #[.pointer (some ⟨p, 0, none⟩), .agg (bytesV K), .int .u32 a, .int .u16 sc, .int .u64 tn] W fun e w' => e = .returned (.int .i64 (insE s (atRow Ed (bktF K n)) sc tn : Nat)) ∧ Both n s w0 p p' (insF s Ed (bktF K n) ⟨tagF K, a, sc, tn⟩) Er w' := by
  obtain ⟨F, bk, F', bk', ⟨R, hd⟩, ⟨R', hr⟩, h1, h2, h3, h4⟩ := h
  refine (insert_any F p bk n s R Ed K a sc tn W hd (fun b hb => (h1 b hb).2) hK ha hsc htn).mono ?_
  rintro e w' ⟨rfl, hs, hd'⟩
  exact ⟨rfl, F, bk, F', bk', hd', ⟨R', hr.spares hs (fun k hk _ hf => h3 k hf hk)⟩, fun k hk => ⟨(h1 k hk).1, Nat.lt_of_lt_of_le (h1 k hk).2 hs.size⟩, fun k hk => ⟨(h2 k hk).1, Nat.lt_of_lt_of_le (h2 k hk).2 hs.size⟩, h3, h4.trans' hs (fun k hk => .inr (h1 k hk).1)⟩
theorem both_delete_d {n s : Nat} {w0 : World} {p p' : Nat} {Ed Er : List (List Ent)} {W : World} (h : Both n s w0 p p' Ed Er W) (K : List UInt8) (hK : K.length = 32) (a : Nat) :
    Calls Try.prog 18 #[.pointer (some ⟨p, 0, none⟩), .agg (bytesV K), .int .u32 a] W fun e w' => e = .returned (.bool (hitF (tagF K) a (atRow Ed (bktF K n))).isSome) ∧ Both n s w0 p p' (Ed.set (bktF K n) (delF (tagF K) a (atRow Ed (bktF K n)))) Er w' := by
  obtain ⟨F, bk, F', bk', ⟨R, hd⟩, ⟨R', hr⟩, h1, h2, h3, h4⟩ := h
  refine (delete_any F p bk n s R Ed K a W hd (fun b hb => (h1 b hb).2) hK).mono ?_
  rintro e w' ⟨rfl, hs, hd'⟩
  exact ⟨rfl, F, bk, F', bk', ⟨R, hd'⟩, ⟨R', hr.spares hs (fun k hk _ hf => h3 k hf hk)⟩, fun k hk => ⟨(h1 k hk).1, Nat.lt_of_lt_of_le (h1 k hk).2 hs.size⟩, fun k hk => ⟨(h2 k hk).1, Nat.lt_of_lt_of_le (h2 k hk).2 hs.size⟩, h3, h4.trans' hs (fun k hk => .inr (h1 k hk).1)⟩
theorem both_turned_r {n s : Nat} {w0 : World} {p p' : Nat} {Ed Er Er' : List (List Ent)} {W V : World} {F : Nat → Prop} {bk : Nat} {F' : Nat → Prop} {bk' : Nat} (h : BothAt n s w0 F p bk F' p' bk' Ed Er W) (hs : Spares F' W V) {F2 : Nat → Prop} {R2 : Nat → Row} (hr : IsRef F2 p' bk' n s R2 Er' V) (h2 : ∀ k, F2 k → F' k ∨ (W.heap.size ≤ k ∧ k < V.heap.size)) : Both n s w0 p p' Ed Er' V := by
  obtain ⟨⟨R, hd⟩, _, h1, h2', h3, h4⟩ := h
  refine ⟨F, bk, F2, bk', ⟨R, hd.spares hs (fun k hk _ hf => h3 k hk hf)⟩, ⟨R2, hr⟩, fun k hk => ⟨(h1 k hk).1, Nat.lt_of_lt_of_le (h1 k hk).2 hs.size⟩, fun k hk => ?_, fun k hk hk2 => ?_, h4.trans' hs (fun k hk => .inr (h2' k hk).1)⟩
  · rcases h2 k hk with hk | ⟨ha, hb⟩
    · exact ⟨(h2' k hk).1, Nat.lt_of_lt_of_le (h2' k hk).2 hs.size⟩
    · exact ⟨Nat.le_trans h4.size ha, hb⟩
  · rcases h2 k hk2 with hk2 | ⟨ha, _⟩
    · exact h3 k hk hk2
    · have := (h1 k hk).2; omega
theorem both_insert_r {n s : Nat} {w0 : World} {p p' : Nat} {Ed Er : List (List Ent)} {W : World} (h : Both n s w0 p p' Ed Er W) (K : List UInt8) (hK : K.length = 32) (a sc tn : Nat) (ha : a < 4294967296) (hsc : sc < 65536) (htn : tn < 18446744073709551616) :
    Calls Try.prog 17 #[.pointer (some ⟨p', 0, none⟩), .agg (bytesV K), .int .u32 a, .int .u16 sc, .int .u64 tn] W fun e w' => e = .returned (.int .i64 (insE s (atRow Er (bktF K n)) sc tn : Nat)) ∧ Both n s w0 p p' Ed (insF s Er (bktF K n) ⟨tagF K, a, sc, tn⟩) w' := by
  obtain ⟨F, bk, F', bk', hB⟩ := h
  obtain ⟨R', hr⟩ := hB.r
  refine (refInsert_any F' p' bk' n s R' Er K a sc tn W hr hK ha hsc htn).mono ?_
  rintro e w' ⟨rfl, hs, F2, R2, hr2, hf2⟩
  exact ⟨rfl, both_turned_r hB hs hr2 hf2⟩
theorem both_delete_r {n s : Nat} {w0 : World} {p p' : Nat} {Ed Er : List (List Ent)} {W : World} (h : Both n s w0 p p' Ed Er W) (K : List UInt8) (hK : K.length = 32) (a : Nat) :
    Calls Try.prog 19 #[.pointer (some ⟨p', 0, none⟩), .agg (bytesV K), .int .u32 a] W fun e w' => e = .returned (.bool (hitF (tagF K) a (atRow Er (bktF K n))).isSome) ∧ Both n s w0 p p' Ed (Er.set (bktF K n) (delF (tagF K) a (atRow Er (bktF K n)))) w' := by
  obtain ⟨F, bk, F', bk', hB⟩ := h
  obtain ⟨R', hr⟩ := hB.r
  refine (refDelete_any F' p' bk' n s R' Er K a W hr hK).mono ?_
  rintro e w' ⟨rfl, hs, F2, R2, hr2, hf2⟩
  exact ⟨rfl, both_turned_r hB hs hr2 hf2⟩
/-- A slice told, that stands while nothing but new memory is made. -/
def Told (W : World) (a : Option Addr) (l : List Ent) : Prop := ∀ V, Spares nowhere W V → EntsV V a l
theorem Told.later {W V : World} {a : Option Addr} {l : List Ent} (h : Told W a l) (hs : Spares nowhere W V) : Told V a l := fun U hU => h U (hs.trans hU)
theorem RowAt.told {F : Nat → Prop} {W : World} {r : Row} {l : List Ent} (h : RowAt F W r l) : Told W r.ad l := fun _ hV => (h.spares hV (fun _ _ _ h => h)).ents_v
theorem both_probe_d {n s : Nat} {w0 : World} {p p' : Nat} {Ed Er : List (List Ent)} {W : World} (h : Both n s w0 p p' Ed Er W) (K : List UInt8) (hK : K.length = 32) :
    Calls Try.prog 27 #[.pointer (some ⟨p, 0, none⟩), .agg (bytesV K)] W fun e w' => ∃ a c, e = .returned (.slice a (probeF (tagF K) (atRow Ed (bktF K n))).length c) ∧ Hid (Told w' a (probeF (tagF K) (atRow Ed (bktF K n)))) ∧ Hid (Spares nowhere W w') ∧ Hid (Both n s w0 p p' Ed Er w') := by
  have h0 := h
  obtain ⟨F, bk, F', bk', ⟨R, hd⟩, ⟨R', hr⟩, h1, h2, h3, h4⟩ := h
  refine (probe_any F p bk n s R Ed K W hd hK).mono ?_
  rintro e w' ⟨r, rfl, hrow, hs⟩
  exact ⟨r.ad, r.cap, rfl, Lib.hid hrow.told, Lib.hid hs, Lib.hid (h0.quiet hs)⟩
theorem both_probe_r {n s : Nat} {w0 : World} {p p' : Nat} {Ed Er : List (List Ent)} {W : World} (h : Both n s w0 p p' Ed Er W) (K : List UInt8) (hK : K.length = 32) :
    Calls Try.prog 15 #[.pointer (some ⟨p', 0, none⟩), .agg (bytesV K)] W fun e w' => ∃ a c, e = .returned (.slice a (probeF (tagF K) (atRow Er (bktF K n))).length c) ∧ Hid (Told w' a (probeF (tagF K) (atRow Er (bktF K n)))) ∧ Hid (Spares nowhere W w') ∧ Hid (Both n s w0 p p' Ed Er w') := by
  have h0 := h
  obtain ⟨F, bk, F', bk', ⟨R, hd⟩, ⟨R', hr⟩, h1, h2, h3, h4⟩ := h
  refine (refProbe_any F' p' bk' n s R' Er K W hr hK).mono ?_
  rintro e w' ⟨r, rfl, hrow, hs⟩
  exact ⟨r.ad, r.cap, rfl, Lib.hid hrow.told, Lib.hid hs, Lib.hid (h0.quiet hs)⟩
theorem both_bucket_d {n s : Nat} {w0 : World} {p p' : Nat} {Ed Er : List (List Ent)} {W : World} (h : Both n s w0 p p' Ed Er W) (K : List UInt8) (hK : K.length = 32) :
    Calls Try.prog 30 #[.pointer (some ⟨p, 0, none⟩), .agg (bytesV K)] W fun e w' => e = .returned (.int .i64 (bktF K n : Nat)) ∧ Spares nowhere W w' := by
  obtain ⟨F, bk, F', bk', ⟨R, hd⟩, _⟩ := h
  exact bucket_any K p n n (some ⟨bk, 0, none⟩) W hK hd.n0 hd.n1 (by rw [Lib.cell_of_heap hd.hd]; rfl)
theorem both_bucket_r {n s : Nat} {w0 : World} {p p' : Nat} {Ed Er : List (List Ent)} {W : World} (h : Both n s w0 p p' Ed Er W) (K : List UInt8) (hK : K.length = 32) :
    Calls Try.prog 31 #[.pointer (some ⟨p', 0, none⟩), .agg (bytesV K)] W fun e w' => e = .returned (.int .i64 (bktF K n : Nat)) ∧ Spares nowhere W w' := by
  obtain ⟨F, bk, F', bk', _, ⟨R', hr⟩, _⟩ := h
  exact refBucket_any K p' n n (some ⟨bk', 0, none⟩) W hK hr.n0 hr.n1 (by rw [Lib.cell_of_heap hr.hd]; rfl)
/-- Two rows that are the same are told the same. -/
theorem entries_same (a b : Option Addr) (c d : Nat) (xs : List Ent) (W : World) (hA : Told W a xs) (hB : Told W b xs) (hx : xs.length ≤ 1000000) :
    Calls Try.prog 26 #[.slice a xs.length c, .slice b xs.length d] W fun e w' => e = .returned (.bool true) ∧ Spares nowhere W w' := by
  refine (entries_any a b c d xs xs W (hA W (Spares.refl _ _)) (hB W (Spares.refl _ _)) hx hx).mono ?_
  rintro e w' ⟨r, rfl, hr, q, rfl⟩
  exact ⟨by rw [hr.2 rfl], (Spares.refl _ _).drewN q⟩
theorem both_new {n s : Nat} {w0 w1 w2 : World} {F F' : Nat → Prop} {p bk p' bk' : Nat} {R R' : Nat → Row} {E : List (List Ent)} (hd : IsDir F p bk n s R E w1) (h0 : Spares nowhere w0 w1) (hF : ∀ b, F b → w0.heap.size ≤ b) (hF2 : ∀ b, F b → b < w1.heap.size)
    (hr : IsRef F' p' bk' n s R' E w2) (h1 : Spares nowhere w1 w2) (hG : ∀ b, F' b → w1.heap.size ≤ b) (hG2 : ∀ b, F' b → b < w2.heap.size) : Both n s w0 p p' E E w2 :=
  ⟨F, bk, F', bk', ⟨R, hd.spares h1 (fun _ _ _ h => h)⟩, ⟨R', hr⟩, fun k hk => ⟨hF k hk, Nat.lt_of_lt_of_le (hF2 k hk) h1.size⟩, fun k hk => ⟨Nat.le_trans h0.size (hG k hk), hG2 k hk⟩, fun k hk hk2 => by have := hF2 k hk; have := hG k hk2; omega, h0.trans h1⟩
end Go.Proofs.Ytihbjkdgfflnfaa
namespace Go.Proofs.Ytihbjkdgfflnfaa
open Go.RowKit

theorem meet_b : bktF (keyF 3) 2 = 1 ∧ bktF (keyF 4) 2 = 0 := ⟨by rfl, by rfl⟩
theorem insF_other {s : Nat} {E : List (List Ent)} {b c : Nat} (h : b ≠ c) (x : Ent) : atRow (insF s E b x) c = atRow E c := by
  unfold insF
  split
  · unfold addF; exact atRow_set_ne h _
  · rfl
set_option maxRecDepth 100000 in
set_option maxHeartbeats 8000000 in
theorem dirMeets_any (a g : Option Addr) (c d : Nat) (l m : List UInt8) (w : World) (hat : BytesAt w a l) (hgt : BytesAt w g m) (hmax : l.length ≤ 9223372036854775807) (hmax2 : m.length ≤ 9223372036854775807) :
    Calls Try.prog 7 #[.slice a l.length c, .slice g m.length d] w fun e w' => e = .returned (.bool true) ∧ Spares nowhere w w' := by
  have HAT := Lib.hid hat
  have HGT := Lib.hid hgt
  obtain ⟨L, hL⟩ : ∃ L, l.length = L := ⟨_, rfl⟩
  obtain ⟨M, hM⟩ : ∃ M, m.length = M := ⟨_, rfl⟩
  rw [hL] at hmax ⊢
  rw [hM] at hmax2 ⊢
  have HL := Lib.hid hL
  have HM := Lib.hid hM
  clear hat hgt hL hM
  by_cases h16 : (16 : Int) < (L : Int)
  · go_enter Try.func7, Try.ntmps7
    go_wp2_with fail
    refine (known_any w).mono ?_
    rintro e v0 ⟨rfl, hs0⟩
    go_wp2
    go_ret
    exact ⟨rfl, hs0⟩
  by_cases h30 : (30 : Int) < (M : Int)
  · go_enter Try.func7, Try.ntmps7
    go_wp2_with fail
    refine (known_any w).mono ?_
    rintro e v0 ⟨rfl, hs0⟩
    go_wp2
    go_ret
    exact ⟨rfl, hs0⟩
  have d16 : decide ((16 : Int) < (L : Int)) = false := decide_eq_false h16
  have d30 : decide ((30 : Int) < (M : Int)) = false := decide_eq_false h30
  obtain ⟨K, hK⟩ : ∃ K, keyF 3 = K := ⟨_, rfl⟩
  have hKL : K.length = 32 := by rw [← hK]; exact keyF_len 3
  have hKB : bktF K 2 = 1 := by rw [← hK]; exact meet_b.1
  obtain ⟨T, hT⟩ : ∃ T, tagF K = T := ⟨_, rfl⟩
  have HKL := Lib.hid hKL
  have HKB := Lib.hid hKB
  have HT := Lib.hid hT
  have CK0 : Hid (∀ W : World, Calls Try.prog 14 #[.int .u16 3] W fun e w' => e = .returned (.agg (bytesV K)) ∧ Spares nowhere W w') := Lib.hid (fun W => by
    have := key_any 3 W (by omega)
    rw [hK] at this
    exact this)
  clear hK hKL hKB hT
  go_enter Try.func7, Try.ntmps7
  go_wp2_with fail
  refine (known_any w).mono ?_
  rintro e v0 ⟨rfl, hs0⟩
  go_wp2_with fail
  refine (new_any 2 16 2 16 v0 (by decide) (by decide)).mono ?_
  rintro e w1 ⟨F, p, bk, R, rfl, hD, hs1, hF, hF2⟩
  go_wp2_with fail
  refine (refNew_any 2 16 2 16 w1 (by decide) (by decide)).mono ?_
  rintro e w2 ⟨F', p', bk', R', rfl, hR, hs2, hG, hG2⟩
  have hB0 : Both 2 16 w p p' (List.replicate 2 []) (List.replicate 2 []) w2 := both_new hD (hs0.trans hs1) (fun b h => by have := hF b h; have := hs0.size; omega) hF2 hR hs2 hG hG2
  have HB0 := Lib.hid hB0
  clear hD hs0 hs1 hF hF2 hR hs2 hG hG2 hB0
  have CK : Hid (∀ V Ed Er, Hid (Both 2 16 w p p' Ed Er V) → Calls Try.prog 14 #[.int .u16 3] V fun e w' => e = .returned (.agg (bytesV K)) ∧ Hid (Both 2 16 w p p' Ed Er w') ∧ Hid (Spares nowhere V w')) := Lib.hid (fun V Ed Er hV => (CK0.out V).mono (by rintro e w' ⟨rfl, hs⟩; exact ⟨rfl, Lib.hid (hV.out.quiet hs), Lib.hid hs⟩))
  have hr0 : atRow (List.replicate 2 ([] : List Ent)) 0 = [] := rfl
  go_wp2
  go_loopw [7] (fun i wr => ∃ q : Nat, q ≤ L ∧ i = .int .i64 q ∧ ∃ E, Hid (Both 2 16 w p p' E E wr) ∧ Hid (atRow E 0 = [])) (fun i _ => L - (intOf i).toNat)
  case atStart => exact ⟨0, by omega, rfl, _, HB0, Lib.hid hr0⟩
  case round =>
    obtain ⟨q, hq, rfl, E, HB, HR0⟩ := hrel
    by_cases hlt : q < L
    · obtain ⟨tb, to, rfl, hc⟩ := HAT.out q (by rw [HL.out]; exact hlt)
      have htb : tb < w.heap.size := cellB_lt hc
      obtain ⟨y, hy⟩ : ∃ y, (l[q]'(by rw [HL.out]; exact hlt)).toNat = y := ⟨_, rfl⟩
      have hy256 : y < 256 := by rw [← hy]; exact UInt8.toNat_lt _
      rw [hy] at hc
      have HKEEP : Hid (∀ V Ed Er, Hid (Both 2 16 w p p' Ed Er V) → V.cell? ⟨tb, to + q, none⟩ = some (.int .u8 y)) := Lib.hid (fun V Ed Er hV => (hV.out.sp.cell (p := ⟨tb, to + q, none⟩) htb (fun h => h)).trans hc)
      obtain ⟨z, hz⟩ : ∃ z, y % 8 = z := ⟨_, rfl⟩
      have hz8 : z < 8 := by omega
      have z1 : (y : Int) % 8 = (z : Int) := by omega
      have z2 : (y : Int).tmod 8 = (z : Int) := by rw [← hz]; exact (Int.ofNat_tmod _ _).symm
      have z3 : IntKind.u8.wrap (z : Int) = (z : Int) := by rw [IntKind.wrap_u8]; omega
      have z4 : IntKind.u32.wrap (z : Int) = (z : Int) := by rw [IntKind.wrap_u32]; omega
      have z5 : IntKind.u64.wrap (q : Int) = (q : Int) := by rw [IntKind.wrap_u64]; omega
      have z6 : IntKind.i64.wrap ((q : Int) + 1) = (q : Int) + 1 := by rw [IntKind.wrap_i64]; omega
      have g1 : (0 : Int) ≤ (q : Int) := by omega
      have g2 : (q : Int) < (L : Int) := by omega
      obtain ⟨E', hE'⟩ : ∃ E', insF 16 E 1 ⟨T, z, 1, q⟩ = E' := ⟨_, rfl⟩
      have HR1 : Hid (atRow E' 0 = []) := Lib.hid (by rw [← hE', insF_other (by omega)]; exact HR0.out)
      obtain ⟨x0, hx0⟩ : ∃ x0, insE 16 (atRow E 1) 1 q = x0 := ⟨_, rfl⟩
      have CI : Hid (∀ V, Hid (Both 2 16 w p p' E E V) → Calls Try.prog 16 #[.pointer (some ⟨p, 0, none⟩), .agg (bytesV K), .int .u32 z, .int .u16 1, .int .u64 q] V fun e w' => e = .returned (.int .i64 x0) ∧ Hid (Both 2 16 w p p' E' E w')) := Lib.hid (fun V hV => by
        have := both_insert_d hV.out K HKL.out z 1 q (by omega) (by omega) (by omega)
        rw [HKB.out, HT.out, hE', hx0] at this
        exact this.mono (by rintro e w' ⟨rfl, h⟩; exact ⟨rfl, Lib.hid h⟩))
      have CR : Hid (∀ V, Hid (Both 2 16 w p p' E' E V) → Calls Try.prog 17 #[.pointer (some ⟨p', 0, none⟩), .agg (bytesV K), .int .u32 z, .int .u16 1, .int .u64 q] V fun e w' => e = .returned (.int .i64 x0) ∧ Hid (Both 2 16 w p p' E' E' w')) := Lib.hid (fun V hV => by
        have := both_insert_r hV.out K HKL.out z 1 q (by omega) (by omega) (by omega)
        rw [HKB.out, HT.out, hE', hx0] at this
        exact this.mono (by rintro e w' ⟨rfl, h⟩; exact ⟨rfl, Lib.hid h⟩))
      have HBD : Hid (Both 2 16 w p p' E E wr.drew) := Lib.hid (HB.out.quiet (Spares.refl _ _).drew)
      clear hc hy hz hE' hx0 hy256 HB
      go_upto_region 9 with (fail)
      -- GEN9
      refine wp_region_held_drew (S := fun w' => w'.cell? ⟨tb, to + q, none⟩ = some (.int .u8 y)) (by kernel_rfl) (HKEEP.out _ _ _ HBD) (fun hS0 => ?_)
      refine wpAnyH_take (i := 0) (v := ?_) rfl (by kernel_rfl) (by kernel_rfl) (by kernel_rfl) (fun _ _ _ h => h) (Or.inl ⟨by rfl, ?_⟩) (by assumption) ?_
      rotate_left
      · intro w9 hS9
        skip
        go_simp
        try with_reducible rfl
      simp only [List.getElem_toArray, List.getElem_cons_zero, Act.put, List.setIfInBounds_toArray, List.set_cons_succ, List.set_cons_zero]
      refine wpAnyH_take (i := 2) (v := ?_) rfl (by kernel_rfl) (by kernel_rfl) (by kernel_rfl) (fun _ _ _ h => h) (Or.inl ⟨by rfl, ?_⟩) (by assumption) ?_
      rotate_left
      · intro w9 hS9
        skip
        go_simp
        try with_reducible rfl
      simp only [List.getElem_toArray, List.getElem_cons_succ, List.getElem_cons_zero, Act.put, List.setIfInBounds_toArray, List.set_cons_succ, List.set_cons_zero]
      refine wpAnyH_take (i := 3) (v := ?_) rfl (by kernel_rfl) (by kernel_rfl) (by kernel_rfl) (fun _ _ _ h => h) (Or.inl ⟨by rfl, ?_⟩) (by assumption) ?_
      rotate_left
      · intro w9 hS9
        skip
        go_simp
        try with_reducible rfl
      simp only [List.getElem_toArray, List.getElem_cons_succ, List.getElem_cons_zero, Act.put, List.setIfInBounds_toArray, List.set_cons_succ, List.set_cons_zero]
      refine wpAnyH_take (i := 4) (v := ?_) rfl (by kernel_rfl) (by kernel_rfl) (by kernel_rfl) (fun _ _ _ h => h) (Or.inl ⟨by rfl, ?_⟩) (by assumption) ?_
      rotate_left
      · intro w9 hS9
        skip
        go_simp
        try with_reducible rfl
      simp only [List.getElem_toArray, List.getElem_cons_succ, List.getElem_cons_zero, Act.put, List.setIfInBounds_toArray, List.set_cons_succ, List.set_cons_zero]
      refine wpAnyH_take (i := 5) (v := ?_) rfl (by kernel_rfl) (by kernel_rfl) (by kernel_rfl) (fun _ _ _ h => h) (Or.inl ⟨by rfl, ?_⟩) (by assumption) ?_
      rotate_left
      · intro w9 hS9
        skip
        go_simp
        try with_reducible rfl
      simp only [List.getElem_toArray, List.getElem_cons_succ, List.getElem_cons_zero, Act.put, List.setIfInBounds_toArray, List.set_cons_succ, List.set_cons_zero]
      refine wpAnyH_take (i := 6) (v := ?_) rfl (by kernel_rfl) (by kernel_rfl) (by kernel_rfl) (fun _ _ _ h => h) (Or.inl ⟨by rfl, ?_⟩) (by assumption) ?_
      rotate_left
      · intro w9 hS9
        skip
        go_simp
        try with_reducible rfl
      simp only [List.getElem_toArray, List.getElem_cons_succ, List.getElem_cons_zero, Act.put, List.setIfInBounds_toArray, List.set_cons_succ, List.set_cons_zero]
      refine wpAnyH_take (i := 7) (v := ?_) rfl (by kernel_rfl) (by kernel_rfl) (by kernel_rfl) (fun _ _ _ h => h) (Or.inl ⟨by rfl, ?_⟩) (by assumption) ?_
      rotate_left
      · intro w9 hS9
        skip
        go_simp
        try with_reducible rfl
      simp only [List.getElem_toArray, List.getElem_cons_succ, List.getElem_cons_zero, Act.put, List.setIfInBounds_toArray, List.set_cons_succ, List.set_cons_zero]
      refine wpAnyH_take (i := 8) (v := ?_) rfl (by kernel_rfl) (by kernel_rfl) (by kernel_rfl) (fun _ _ _ h => h) (Or.inl ⟨by rfl, ?_⟩) (by assumption) ?_
      rotate_left
      · intro w9 hS9
        skip
        go_simp
        try with_reducible rfl
      simp only [List.getElem_toArray, List.getElem_cons_succ, List.getElem_cons_zero, Act.put, List.setIfInBounds_toArray, List.set_cons_succ, List.set_cons_zero]
      refine wpAnyH_take (i := 9) (v := ?_) rfl (by kernel_rfl) (by kernel_rfl) (by kernel_rfl) (fun _ _ _ h => h) (Or.inl ⟨by rfl, ?_⟩) (by assumption) ?_
      rotate_left
      · intro w9 hS9
        skip
        go_simp
        try with_reducible rfl
      simp only [List.getElem_toArray, List.getElem_cons_succ, List.getElem_cons_zero, Act.put, List.setIfInBounds_toArray, List.set_cons_succ, List.set_cons_zero]
      refine wpAnyH_ready (rs := [1]) (by kernel_rfl) (by simp) ?_
      refine AllReadyH.cons rfl (fun K9 hK9 => ?_) ?_
      · go_simp
        go_at_call 14
        with_reducible refine Calls.mono (CK.out _ _ _ HBD) ?_
        rintro e v1 ⟨rfl, hb1, _⟩
        try go_simp
        refine hK9.out _ _ ?_ (fun hS9 => ?_)
        · exact HKEEP.out _ _ _ hb1
        clear hK9 K9
        refine wpAnyH_ready (rs := [10]) (by kernel_rfl) (by simp) ?_
        refine AllReadyH.cons rfl (fun K9 hK9 => ?_) ?_
        · go_simp
          go_at_call 16
          with_reducible refine Calls.mono (CI.out _ hb1) ?_
          rintro e v2 ⟨rfl, hb2⟩
          try go_simp
          refine hK9.out _ _ ?_ (fun hS9 => ?_)
          · exact HKEEP.out _ _ _ hb2
          clear hK9 K9
          refine wpAnyH_done (by kernel_rfl) ?_ _
          have HBE : Hid (Both 2 16 w p p' E' E v2.drew) := Lib.hid (hb2.out.quiet (Spares.refl _ _).drew)
          go_upto_region 10 with (fail)
          refine wp_region_held_drew (S := fun w' => w'.cell? ⟨tb, to + q, none⟩ = some (.int .u8 y)) (by kernel_rfl) (HKEEP.out _ _ _ HBE) (fun hS0 => ?_)
          refine wpAnyH_take (i := 0) (v := ?_) rfl (by kernel_rfl) (by kernel_rfl) (by kernel_rfl) (fun _ _ _ h => h) (Or.inl ⟨by rfl, ?_⟩) (by assumption) ?_
          rotate_left
          · intro w9 hS9
            skip
            go_simp
            try with_reducible rfl
          simp only [List.getElem_toArray, List.getElem_cons_zero, Act.put, List.setIfInBounds_toArray, List.set_cons_succ, List.set_cons_zero]
          refine wpAnyH_take (i := 2) (v := ?_) rfl (by kernel_rfl) (by kernel_rfl) (by kernel_rfl) (fun _ _ _ h => h) (Or.inl ⟨by rfl, ?_⟩) (by assumption) ?_
          rotate_left
          · intro w9 hS9
            skip
            go_simp
            try with_reducible rfl
          simp only [List.getElem_toArray, List.getElem_cons_succ, List.getElem_cons_zero, Act.put, List.setIfInBounds_toArray, List.set_cons_succ, List.set_cons_zero]
          refine wpAnyH_take (i := 3) (v := ?_) rfl (by kernel_rfl) (by kernel_rfl) (by kernel_rfl) (fun _ _ _ h => h) (Or.inl ⟨by rfl, ?_⟩) (by assumption) ?_
          rotate_left
          · intro w9 hS9
            skip
            go_simp
            try with_reducible rfl
          simp only [List.getElem_toArray, List.getElem_cons_succ, List.getElem_cons_zero, Act.put, List.setIfInBounds_toArray, List.set_cons_succ, List.set_cons_zero]
          refine wpAnyH_take (i := 4) (v := ?_) rfl (by kernel_rfl) (by kernel_rfl) (by kernel_rfl) (fun _ _ _ h => h) (Or.inl ⟨by rfl, ?_⟩) (by assumption) ?_
          rotate_left
          · intro w9 hS9
            skip
            go_simp
            try with_reducible rfl
          simp only [List.getElem_toArray, List.getElem_cons_succ, List.getElem_cons_zero, Act.put, List.setIfInBounds_toArray, List.set_cons_succ, List.set_cons_zero]
          refine wpAnyH_take (i := 5) (v := ?_) rfl (by kernel_rfl) (by kernel_rfl) (by kernel_rfl) (fun _ _ _ h => h) (Or.inl ⟨by rfl, ?_⟩) (by assumption) ?_
          rotate_left
          · intro w9 hS9
            skip
            go_simp
            try with_reducible rfl
          simp only [List.getElem_toArray, List.getElem_cons_succ, List.getElem_cons_zero, Act.put, List.setIfInBounds_toArray, List.set_cons_succ, List.set_cons_zero]
          refine wpAnyH_take (i := 6) (v := ?_) rfl (by kernel_rfl) (by kernel_rfl) (by kernel_rfl) (fun _ _ _ h => h) (Or.inl ⟨by rfl, ?_⟩) (by assumption) ?_
          rotate_left
          · intro w9 hS9
            skip
            go_simp
            try with_reducible rfl
          simp only [List.getElem_toArray, List.getElem_cons_succ, List.getElem_cons_zero, Act.put, List.setIfInBounds_toArray, List.set_cons_succ, List.set_cons_zero]
          refine wpAnyH_take (i := 7) (v := ?_) rfl (by kernel_rfl) (by kernel_rfl) (by kernel_rfl) (fun _ _ _ h => h) (Or.inl ⟨by rfl, ?_⟩) (by assumption) ?_
          rotate_left
          · intro w9 hS9
            skip
            go_simp
            try with_reducible rfl
          simp only [List.getElem_toArray, List.getElem_cons_succ, List.getElem_cons_zero, Act.put, List.setIfInBounds_toArray, List.set_cons_succ, List.set_cons_zero]
          refine wpAnyH_take (i := 8) (v := ?_) rfl (by kernel_rfl) (by kernel_rfl) (by kernel_rfl) (fun _ _ _ h => h) (Or.inl ⟨by rfl, ?_⟩) (by assumption) ?_
          rotate_left
          · intro w9 hS9
            skip
            go_simp
            try with_reducible rfl
          simp only [List.getElem_toArray, List.getElem_cons_succ, List.getElem_cons_zero, Act.put, List.setIfInBounds_toArray, List.set_cons_succ, List.set_cons_zero]
          refine wpAnyH_take (i := 9) (v := ?_) rfl (by kernel_rfl) (by kernel_rfl) (by kernel_rfl) (fun _ _ _ h => h) (Or.inl ⟨by rfl, ?_⟩) (by assumption) ?_
          rotate_left
          · intro w9 hS9
            skip
            go_simp
            try with_reducible rfl
          simp only [List.getElem_toArray, List.getElem_cons_succ, List.getElem_cons_zero, Act.put, List.setIfInBounds_toArray, List.set_cons_succ, List.set_cons_zero]
          refine wpAnyH_ready (rs := [1]) (by kernel_rfl) (by simp) ?_
          refine AllReadyH.cons rfl (fun K9 hK9 => ?_) ?_
          · go_simp
            go_at_call 14
            with_reducible refine Calls.mono (CK.out _ _ _ HBE) ?_
            rintro e v3 ⟨rfl, hb3, _⟩
            try go_simp
            refine hK9.out _ _ ?_ (fun hS9 => ?_)
            · exact HKEEP.out _ _ _ hb3
            clear hK9 K9
            refine wpAnyH_ready (rs := [10]) (by kernel_rfl) (by simp) ?_
            refine AllReadyH.cons rfl (fun K9 hK9 => ?_) ?_
            · go_simp
              go_at_call 17
              with_reducible refine Calls.mono (CR.out _ hb3) ?_
              rintro e v4 ⟨rfl, hb4⟩
              try go_simp
              refine hK9.out _ _ ?_ (fun hS9 => ?_)
              · exact HKEEP.out _ _ _ hb4
              clear hK9 K9
              refine wpAnyH_done (by kernel_rfl) ?_ _
              go_wp2
              go_roundw
              case rel => exact ⟨q + 1, by omega, rfl, E', hb4, HR1⟩
              case measure => simp [intOf]; omega
            exact AllReadyH.nil
          exact AllReadyH.nil
        exact AllReadyH.nil
      exact AllReadyH.nil
      -- GEN9 END
    · obtain rfl : q = L := by omega
      clear HAT
      go_wp2
      go_loopw [8] (fun i wr => ∃ q9 : Nat, q9 ≤ M ∧ i = .int .i64 q9 ∧ ∃ E, Hid (Both 2 16 w p p' E E wr) ∧ Hid (atRow E 0 = [])) (fun i _ => M - (intOf i).toNat)
      case atStart => exact ⟨0, by omega, rfl, _, HB, HR0⟩
      case round =>
        obtain ⟨t, ht, rfl, E2, HB2, HR2⟩ := hrel
        by_cases hlt2 : t < M
        · obtain ⟨tb, to, rfl, hc⟩ := HGT.out t (by rw [HM.out]; exact hlt2)
          have htb : tb < w.heap.size := cellB_lt hc
          obtain ⟨y, hy⟩ : ∃ y, (m[t]'(by rw [HM.out]; exact hlt2)).toNat = y := ⟨_, rfl⟩
          have hy256 : y < 256 := by rw [← hy]; exact UInt8.toNat_lt _
          rw [hy] at hc
          have HKEEP : Hid (∀ V Ed Er, Hid (Both 2 16 w p p' Ed Er V) → V.cell? ⟨tb, to + t, none⟩ = some (.int .u8 y)) := Lib.hid (fun V Ed Er hV => (hV.out.sp.cell (p := ⟨tb, to + t, none⟩) htb (fun h => h)).trans hc)
          obtain ⟨z, hz⟩ : ∃ z, y % 8 = z := ⟨_, rfl⟩
          have hz8 : z < 8 := by omega
          have z1 : (y : Int) % 8 = (z : Int) := by omega
          have z2 : (y : Int).tmod 8 = (z : Int) := by rw [← hz]; exact (Int.ofNat_tmod _ _).symm
          have z3 : IntKind.u8.wrap (z : Int) = (z : Int) := by rw [IntKind.wrap_u8]; omega
          have z4 : IntKind.u32.wrap (z : Int) = (z : Int) := by rw [IntKind.wrap_u32]; omega
          have z6 : IntKind.i64.wrap ((t : Int) + 1) = (t : Int) + 1 := by rw [IntKind.wrap_i64]; omega
          have g1 : (0 : Int) ≤ (t : Int) := by omega
          have g2 : (t : Int) < (M : Int) := by omega
          have hEl := HB2.out.len.1
          obtain ⟨E', hE'⟩ : ∃ E', E2.set 1 (delF T z (atRow E2 1)) = E' := ⟨_, rfl⟩
          have HR3 : Hid (atRow E' 0 = []) := Lib.hid (by rw [← hE', atRow_set_ne (by omega)]; exact HR2.out)
          obtain ⟨x0, hx0⟩ : ∃ x0, (hitF T z (atRow E2 1)).isSome = x0 := ⟨_, rfl⟩
          have n0 : (x0 != x0) = false := by simp
          have n1 : (!x0 == x0) = false := by simp
          have CI : Hid (∀ V, Hid (Both 2 16 w p p' E2 E2 V) → Calls Try.prog 18 #[.pointer (some ⟨p, 0, none⟩), .agg (bytesV K), .int .u32 z] V fun e w' => e = .returned (.bool x0) ∧ Hid (Both 2 16 w p p' E' E2 w')) := Lib.hid (fun V hV => by
            have := both_delete_d hV.out K HKL.out z
            rw [HKB.out, HT.out, hE', hx0] at this
            exact this.mono (by rintro e w' ⟨rfl, h⟩; exact ⟨rfl, Lib.hid h⟩))
          have CR : Hid (∀ V, Hid (Both 2 16 w p p' E' E2 V) → Calls Try.prog 19 #[.pointer (some ⟨p', 0, none⟩), .agg (bytesV K), .int .u32 z] V fun e w' => e = .returned (.bool x0) ∧ Hid (Both 2 16 w p p' E' E' w')) := Lib.hid (fun V hV => by
            have := both_delete_r hV.out K HKL.out z
            rw [HKB.out, HT.out, hE', hx0] at this
            exact this.mono (by rintro e w' ⟨rfl, h⟩; exact ⟨rfl, Lib.hid h⟩))
          obtain ⟨X, hX⟩ : ∃ X, probeF T (atRow E' 1) = X := ⟨_, rfl⟩
          have CP : Hid (∀ V, Hid (Both 2 16 w p p' E' E' V) → Calls Try.prog 27 #[.pointer (some ⟨p, 0, none⟩), .agg (bytesV K)] V fun e w' => ∃ a c, e = .returned (.slice a X.length c) ∧ Hid (Told w' a X) ∧ Hid (Spares nowhere V w') ∧ Hid (Both 2 16 w p p' E' E' w')) := Lib.hid (fun V hV => by
            have := both_probe_d hV.out K HKL.out
            rw [HKB.out, HT.out, hX] at this
            exact this)
          have CQ : Hid (∀ V, Hid (Both 2 16 w p p' E' E' V) → Calls Try.prog 15 #[.pointer (some ⟨p', 0, none⟩), .agg (bytesV K)] V fun e w' => ∃ a c, e = .returned (.slice a X.length c) ∧ Hid (Told w' a X) ∧ Hid (Spares nowhere V w') ∧ Hid (Both 2 16 w p p' E' E' w')) := Lib.hid (fun V hV => by
            have := both_probe_r hV.out K HKL.out
            rw [HKB.out, HT.out, hX] at this
            exact this)
          have hXl : X.length ≤ 1000000 := by
            have h1 := probeF_len T (atRow E' 1)
            rw [hX] at h1
            have h2 : (atRow E' 1).length ≤ 1000 := by
              rw [← hE', atRow_set (by omega)]
              have h3 : (atRow E2 1).length ≤ 16 := by
                unfold atRow
                rw [List.getD_eq_getElem?_getD, List.getElem?_eq_getElem (by omega)]
                exact HB2.out.bounds.1 _ (List.getElem_mem _)
              unfold delF
              split
              · have := List.length_eraseIdx_le (atRow E2 1) (by assumption); omega
              · omega
            omega
          have CE : Hid (∀ V a1 a2 c1 c2, Hid (Both 2 16 w p p' E' E' V) → Hid (Told V a1 X) → Hid (Told V a2 X) → Calls Try.prog 26 #[.slice a1 X.length c1, .slice a2 X.length c2] V fun e w' => e = .returned (.bool true) ∧ Hid (Both 2 16 w p p' E' E' w')) := Lib.hid (fun V a1 a2 c1 c2 hV h1 h2 => (entries_same a1 a2 c1 c2 X V h1.out h2.out hXl).mono (by rintro e w' ⟨rfl, h⟩; exact ⟨rfl, Lib.hid (hV.out.quiet h)⟩))
          have HBD : Hid (Both 2 16 w p p' E2 E2 wr.drew) := Lib.hid (HB2.out.quiet (Spares.refl _ _).drew)
          clear hc hy hz hE' hx0 hy256 HB2 hX hXl hEl
          go_upto_region 14 with (fail)
          -- GEN14
          refine wp_region_held_drew (S := fun w' => w'.cell? ⟨tb, to + t, none⟩ = some (.int .u8 y)) (by kernel_rfl) (HKEEP.out _ _ _ HBD) (fun hS0 => ?_)
          refine wpAnyH_take (i := 0) (v := ?_) rfl (by kernel_rfl) (by kernel_rfl) (by kernel_rfl) (fun _ _ _ h => h) (Or.inl ⟨by rfl, ?_⟩) (by assumption) ?_
          rotate_left
          · intro w9 hS9
            skip
            go_simp
            try with_reducible rfl
          simp only [List.getElem_toArray, List.getElem_cons_zero, Act.put, List.setIfInBounds_toArray, List.set_cons_succ, List.set_cons_zero]
          refine wpAnyH_take (i := 2) (v := ?_) rfl (by kernel_rfl) (by kernel_rfl) (by kernel_rfl) (fun _ _ _ h => h) (Or.inl ⟨by rfl, ?_⟩) (by assumption) ?_
          rotate_left
          · intro w9 hS9
            skip
            go_simp
            try with_reducible rfl
          simp only [List.getElem_toArray, List.getElem_cons_succ, List.getElem_cons_zero, Act.put, List.setIfInBounds_toArray, List.set_cons_succ, List.set_cons_zero]
          refine wpAnyH_take (i := 3) (v := ?_) rfl (by kernel_rfl) (by kernel_rfl) (by kernel_rfl) (fun _ _ _ h => h) (Or.inl ⟨by rfl, ?_⟩) (by assumption) ?_
          rotate_left
          · intro w9 hS9
            skip
            go_simp
            try with_reducible rfl
          simp only [List.getElem_toArray, List.getElem_cons_succ, List.getElem_cons_zero, Act.put, List.setIfInBounds_toArray, List.set_cons_succ, List.set_cons_zero]
          refine wpAnyH_take (i := 4) (v := ?_) rfl (by kernel_rfl) (by kernel_rfl) (by kernel_rfl) (fun _ _ _ h => h) (Or.inl ⟨by rfl, ?_⟩) (by assumption) ?_
          rotate_left
          · intro w9 hS9
            skip
            go_simp
            try with_reducible rfl
          simp only [List.getElem_toArray, List.getElem_cons_succ, List.getElem_cons_zero, Act.put, List.setIfInBounds_toArray, List.set_cons_succ, List.set_cons_zero]
          refine wpAnyH_take (i := 5) (v := ?_) rfl (by kernel_rfl) (by kernel_rfl) (by kernel_rfl) (fun _ _ _ h => h) (Or.inl ⟨by rfl, ?_⟩) (by assumption) ?_
          rotate_left
          · intro w9 hS9
            skip
            go_simp
            try with_reducible rfl
          simp only [List.getElem_toArray, List.getElem_cons_succ, List.getElem_cons_zero, Act.put, List.setIfInBounds_toArray, List.set_cons_succ, List.set_cons_zero]
          refine wpAnyH_take (i := 6) (v := ?_) rfl (by kernel_rfl) (by kernel_rfl) (by kernel_rfl) (fun _ _ _ h => h) (Or.inl ⟨by rfl, ?_⟩) (by assumption) ?_
          rotate_left
          · intro w9 hS9
            skip
            go_simp
            try with_reducible rfl
          simp only [List.getElem_toArray, List.getElem_cons_succ, List.getElem_cons_zero, Act.put, List.setIfInBounds_toArray, List.set_cons_succ, List.set_cons_zero]
          refine wpAnyH_take (i := 7) (v := ?_) rfl (by kernel_rfl) (by kernel_rfl) (by kernel_rfl) (fun _ _ _ h => h) (Or.inl ⟨by rfl, ?_⟩) (by assumption) ?_
          rotate_left
          · intro w9 hS9
            skip
            go_simp
            try with_reducible rfl
          simp only [List.getElem_toArray, List.getElem_cons_succ, List.getElem_cons_zero, Act.put, List.setIfInBounds_toArray, List.set_cons_succ, List.set_cons_zero]
          refine wpAnyH_take (i := 9) (v := ?_) rfl (by kernel_rfl) (by kernel_rfl) (by kernel_rfl) (fun _ _ _ h => h) (Or.inl ⟨by rfl, ?_⟩) (by assumption) ?_
          rotate_left
          · intro w9 hS9
            skip
            go_simp
            try with_reducible rfl
          simp only [List.getElem_toArray, List.getElem_cons_succ, List.getElem_cons_zero, Act.put, List.setIfInBounds_toArray, List.set_cons_succ, List.set_cons_zero]
          refine wpAnyH_take (i := 11) (v := ?_) rfl (by kernel_rfl) (by kernel_rfl) (by kernel_rfl) (fun _ _ _ h => h) (Or.inl ⟨by rfl, ?_⟩) (by assumption) ?_
          rotate_left
          · intro w9 hS9
            skip
            go_simp
            try with_reducible rfl
          simp only [List.getElem_toArray, List.getElem_cons_succ, List.getElem_cons_zero, Act.put, List.setIfInBounds_toArray, List.set_cons_succ, List.set_cons_zero]
          refine wpAnyH_take (i := 12) (v := ?_) rfl (by kernel_rfl) (by kernel_rfl) (by kernel_rfl) (fun _ _ _ h => h) (Or.inl ⟨by rfl, ?_⟩) (by assumption) ?_
          rotate_left
          · intro w9 hS9
            skip
            go_simp
            try with_reducible rfl
          simp only [List.getElem_toArray, List.getElem_cons_succ, List.getElem_cons_zero, Act.put, List.setIfInBounds_toArray, List.set_cons_succ, List.set_cons_zero]
          refine wpAnyH_take (i := 13) (v := ?_) rfl (by kernel_rfl) (by kernel_rfl) (by kernel_rfl) (fun _ _ _ h => h) (Or.inl ⟨by rfl, ?_⟩) (by assumption) ?_
          rotate_left
          · intro w9 hS9
            skip
            go_simp
            try with_reducible rfl
          simp only [List.getElem_toArray, List.getElem_cons_succ, List.getElem_cons_zero, Act.put, List.setIfInBounds_toArray, List.set_cons_succ, List.set_cons_zero]
          refine wpAnyH_take (i := 14) (v := ?_) rfl (by kernel_rfl) (by kernel_rfl) (by kernel_rfl) (fun _ _ _ h => h) (Or.inl ⟨by rfl, ?_⟩) (by assumption) ?_
          rotate_left
          · intro w9 hS9
            skip
            go_simp
            try with_reducible rfl
          simp only [List.getElem_toArray, List.getElem_cons_succ, List.getElem_cons_zero, Act.put, List.setIfInBounds_toArray, List.set_cons_succ, List.set_cons_zero]
          refine wpAnyH_take (i := 15) (v := ?_) rfl (by kernel_rfl) (by kernel_rfl) (by kernel_rfl) (fun _ _ _ h => h) (Or.inl ⟨by rfl, ?_⟩) (by assumption) ?_
          rotate_left
          · intro w9 hS9
            skip
            go_simp
            try with_reducible rfl
          simp only [List.getElem_toArray, List.getElem_cons_succ, List.getElem_cons_zero, Act.put, List.setIfInBounds_toArray, List.set_cons_succ, List.set_cons_zero]
          refine wpAnyH_take (i := 16) (v := ?_) rfl (by kernel_rfl) (by kernel_rfl) (by kernel_rfl) (fun _ _ _ h => h) (Or.inl ⟨by rfl, ?_⟩) (by assumption) ?_
          rotate_left
          · intro w9 hS9
            skip
            go_simp
            try with_reducible rfl
          simp only [List.getElem_toArray, List.getElem_cons_succ, List.getElem_cons_zero, Act.put, List.setIfInBounds_toArray, List.set_cons_succ, List.set_cons_zero]
          refine wpAnyH_ready (rs := [1]) (by kernel_rfl) (by simp) ?_
          refine AllReadyH.cons rfl (fun K9 hK9 => ?_) ?_
          · go_simp
            go_at_call 14
            with_reducible refine Calls.mono (CK.out _ _ _ HBD) ?_
            rintro e v1 ⟨rfl, hb1, _⟩
            try go_simp
            refine hK9.out _ _ ?_ (fun hS9 => ?_)
            · exact HKEEP.out _ _ _ hb1
            clear hK9 K9
            refine wpAnyH_ready (rs := [8]) (by kernel_rfl) (by simp) ?_
            refine AllReadyH.cons rfl (fun K9 hK9 => ?_) ?_
            · go_simp
              go_at_call 18
              with_reducible refine Calls.mono (CI.out _ hb1) ?_
              rintro e v2 ⟨rfl, hb2⟩
              try go_simp
              refine hK9.out _ _ ?_ (fun hS9 => ?_)
              · exact HKEEP.out _ _ _ hb2
              clear hK9 K9
              refine wpAnyH_ready (rs := [10]) (by kernel_rfl) (by simp) ?_
              refine AllReadyH.cons rfl (fun K9 hK9 => ?_) ?_
              · go_simp
                go_at_call 14
                with_reducible refine Calls.mono (CK.out _ _ _ hb2) ?_
                rintro e v3 ⟨rfl, hb3, _⟩
                try go_simp
                refine hK9.out _ _ ?_ (fun hS9 => ?_)
                · exact HKEEP.out _ _ _ hb3
                clear hK9 K9
                refine wpAnyH_ready (rs := [17]) (by kernel_rfl) (by simp) ?_
                refine AllReadyH.cons rfl (fun K9 hK9 => ?_) ?_
                · go_simp
                  go_at_call 19
                  with_reducible refine Calls.mono (CR.out _ hb3) ?_
                  rintro e v4 ⟨rfl, hb4⟩
                  try go_simp
                  refine hK9.out _ _ ?_ (fun hS9 => ?_)
                  · exact HKEEP.out _ _ _ hb4
                  clear hK9 K9
                  refine wpAnyH_take (i := 18) (v := ?_) rfl (by kernel_rfl) (by kernel_rfl) (by kernel_rfl) (fun _ _ _ h => h) (Or.inl ⟨by rfl, ?_⟩) (by assumption) ?_
                  rotate_left
                  · intro w9 hS9
                    skip
                    go_simp
                    try with_reducible rfl
                  simp only [List.getElem_toArray, List.getElem_cons_succ, List.getElem_cons_zero, Act.put, List.setIfInBounds_toArray, List.set_cons_succ, List.set_cons_zero]
                  refine wpAnyH_take (i := 19) (v := ?_) rfl (by kernel_rfl) (by kernel_rfl) (by kernel_rfl) (fun _ _ _ h => h) (Or.inl ⟨by rfl, ?_⟩) (by assumption) ?_
                  rotate_left
                  · intro w9 hS9
                    skip
                    go_simp
                    try with_reducible rfl
                  simp only [List.getElem_toArray, List.getElem_cons_succ, List.getElem_cons_zero, Act.put, List.setIfInBounds_toArray, List.set_cons_succ, List.set_cons_zero]
                  refine wpAnyH_take (i := 20) (v := ?_) rfl (by kernel_rfl) (by kernel_rfl) (by kernel_rfl) (fun _ _ _ h => h) (Or.inl ⟨by rfl, ?_⟩) (by assumption) ?_
                  rotate_left
                  · intro w9 hS9
                    skip
                    go_simp
                    try with_reducible rfl
                  simp only [List.getElem_toArray, List.getElem_cons_succ, List.getElem_cons_zero, Act.put, List.setIfInBounds_toArray, List.set_cons_succ, List.set_cons_zero]
                  refine wpAnyH_take (i := 23) (v := ?_) rfl (by kernel_rfl) (by kernel_rfl) (by kernel_rfl) (fun _ _ _ h => h) (Or.inl ⟨by rfl, ?_⟩) (by assumption) ?_
                  rotate_left
                  · intro w9 hS9
                    skip
                    go_simp
                    try with_reducible rfl
                  simp only [List.getElem_toArray, List.getElem_cons_succ, List.getElem_cons_zero, Act.put, List.setIfInBounds_toArray, List.set_cons_succ, List.set_cons_zero]
                  refine wpAnyH_ready (rs := [21]) (by kernel_rfl) (by simp) ?_
                  refine AllReadyH.cons rfl (fun K9 hK9 => ?_) ?_
                  · go_simp
                    go_at_call 14
                    with_reducible refine Calls.mono (CK.out _ _ _ hb4) ?_
                    rintro e v5 ⟨rfl, hb5, _⟩
                    try go_simp
                    refine hK9.out _ _ ?_ (fun hS9 => ?_)
                    · exact HKEEP.out _ _ _ hb5
                    clear hK9 K9
                    refine wpAnyH_ready (rs := [22]) (by kernel_rfl) (by simp) ?_
                    refine AllReadyH.cons rfl (fun K9 hK9 => ?_) ?_
                    · go_simp
                      go_at_call 27
                      with_reducible refine Calls.mono (CP.out _ hb5) ?_
                      rintro e v6 ⟨a1, c1, rfl, ht1, _, hb6⟩
                      try go_simp
                      refine hK9.out _ _ ?_ (fun hS9 => ?_)
                      · exact HKEEP.out _ _ _ hb6
                      clear hK9 K9
                      refine wpAnyH_ready (rs := [24]) (by kernel_rfl) (by simp) ?_
                      refine AllReadyH.cons rfl (fun K9 hK9 => ?_) ?_
                      · go_simp
                        go_at_call 14
                        with_reducible refine Calls.mono (CK.out _ _ _ hb6) ?_
                        rintro e v7 ⟨rfl, hb7, hs7⟩
                        try go_simp
                        refine hK9.out _ _ ?_ (fun hS9 => ?_)
                        · exact HKEEP.out _ _ _ hb7
                        clear hK9 K9
                        refine wpAnyH_ready (rs := [25]) (by kernel_rfl) (by simp) ?_
                        refine AllReadyH.cons rfl (fun K9 hK9 => ?_) ?_
                        · go_simp
                          go_at_call 15
                          with_reducible refine Calls.mono (CQ.out _ hb7) ?_
                          rintro e v8 ⟨a2, c2, rfl, ht2, hs8, hb8⟩
                          try go_simp
                          refine hK9.out _ _ ?_ (fun hS9 => ?_)
                          · exact HKEEP.out _ _ _ hb8
                          clear hK9 K9
                          refine wpAnyH_ready (rs := [26]) (by kernel_rfl) (by simp) ?_
                          refine AllReadyH.cons rfl (fun K9 hK9 => ?_) ?_
                          · go_simp
                            go_at_call 26
                            with_reducible refine Calls.mono (CE.out _ a1 a2 c1 c2 hb8 (Lib.hid (ht1.out.later (hs7.out.trans hs8.out))) ht2) ?_
                            rintro e v9 ⟨rfl, hb9⟩
                            try go_simp
                            refine hK9.out _ _ ?_ (fun hS9 => ?_)
                            · exact HKEEP.out _ _ _ hb9
                            clear hK9 K9
                            refine wpAnyH_take (i := 27) (v := ?_) rfl (by kernel_rfl) (by kernel_rfl) (by kernel_rfl) (fun _ _ _ h => h) (Or.inl ⟨by rfl, ?_⟩) (by assumption) ?_
                            rotate_left
                            · intro w9 hS9
                              skip
                              go_simp
                              try with_reducible rfl
                            simp only [List.getElem_toArray, List.getElem_cons_succ, List.getElem_cons_zero, Act.put, List.setIfInBounds_toArray, List.set_cons_succ, List.set_cons_zero]
                            refine wpAnyH_take (i := 28) (v := ?_) rfl (by kernel_rfl) (by kernel_rfl) (by kernel_rfl) (fun _ _ _ h => h) (Or.inl ⟨by rfl, ?_⟩) (by assumption) ?_
                            rotate_left
                            · intro w9 hS9
                              skip
                              go_simp
                              try with_reducible rfl
                            simp only [List.getElem_toArray, List.getElem_cons_succ, List.getElem_cons_zero, Act.put, List.setIfInBounds_toArray, List.set_cons_succ, List.set_cons_zero]
                            refine wpAnyH_done (by kernel_rfl) ?_ _
                            go_wp2
                            go_roundw
                            case rel => exact ⟨t + 1, by omega, rfl, E', hb9, HR3⟩
                            case measure => simp [intOf]; omega
                          exact AllReadyH.nil
                        exact AllReadyH.nil
                      exact AllReadyH.nil
                    exact AllReadyH.nil
                  exact AllReadyH.nil
                exact AllReadyH.nil
              exact AllReadyH.nil
            exact AllReadyH.nil
          exact AllReadyH.nil
          -- GEN14 END
        · obtain rfl : t = M := by omega
          go_wp2_with fail
          refine (key_any 4 wr (by omega)).mono ?_
          rintro e v1 ⟨rfl, hs1⟩
          go_wp2_with fail
          have hp := both_probe_d (HB2.out.quiet hs1) (keyF 4) (keyF_len 4)
          rw [meet_b.2, HR2.out] at hp
          refine hp.mono ?_
          rintro e v2 ⟨a9, c9, rfl, _, hs2, _⟩
          rw [show probeF (tagF (keyF 4)) [] = [] from rfl]
          simp only [List.length_nil]
          go_wp2
          go_ret
          exact ⟨rfl, (HB2.out.sp.trans hs1).trans hs2.out⟩
end Go.Proofs.Ytihbjkdgfflnfaa
