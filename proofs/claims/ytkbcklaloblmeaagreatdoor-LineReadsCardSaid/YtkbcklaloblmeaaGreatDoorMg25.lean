/-
  line.Text.
  A line's reader: quoted, number.
  The reference's decimal numeral.
-/
import Derived.Lib.ItoaLen
import Derived.Lib.Join
import Derived.Test.YtkbcklaloblmeaaGreatDoorMg17
import Derived.Test.YtkbcklaloblmeaaGreatDoorMg19
import Derived.Test.YtkbcklaloblmeaaGreatDoorMg20
import Derived.Test.YtkbcklaloblmeaaGreatDoorMg22
import Derived.Test.YtkbcklaloblmeaaGreatDoorMg24
namespace Go.Proofs.YtkbcklaloblmeaaGreatDoor
open Go.RowKit LineMath DateMath ChunkS

structure LightL (l : LineV) : Prop where
  m : l.method.length ≤ 1000000
  h : l.host.length ≤ 1000000
  t : l.target.length ≤ 1000000
  how : l.how ≤ 9223372036854775807
  status : l.status ≤ 9223372036854775807
  size : l.size ≤ 9223372036854775807
theorem quoteT_le (s : List UInt8) : (quoteT s).length ≤ 4 * s.length + 2 := by
  have := body_le s
  unfold quoteT
  rw [List.length_cons, List.length_append, List.length_singleton]
  omega
theorem natT_le (n : Int) (h : n ≤ 9223372036854775807) : (natT n).length ≤ 21 := by
  have := Lib.itoa_length_le (max n 0) (by omega) (by omega)
  have e : Lib.itoa (max n 0) = natT n := by
    unfold natT Lib.itoa
    rw [if_neg (by omega)]
  rwa [e] at this
theorem howT_le (n : Int) (h : n ≤ 9223372036854775807) : (howT n).length ≤ 21 := by
  unfold howT
  split
  · rename_i hc
    have : ∀ k : Nat, k < 6 → (howB k).length ≤ 21 := by decide
    exact this _ (by omega)
  · exact natT_le n h
theorem lineT_le {l : LineV} (hl : LightL l) : (lineT l).length ≤ 13000000 := by
  have h1 := quoteT_le l.method
  have h2 := quoteT_le l.host
  have h3 := quoteT_le l.target
  have h4 := natT_le l.status hl.status
  have h5 := natT_le l.size hl.size
  have h6 := howT_le l.how hl.how
  have h7 := time_len l.time
  have := hl.m; have := hl.h; have := hl.t
  unfold lineT
  simp only [List.length_append, List.length_cons]
  omega
theorem join_seven (a b c d e f g : List UInt8) : Lib.join [a, b, c, d, e, f, g] [32] = a ++ 32 :: (b ++ 32 :: (c ++ 32 :: (d ++ 32 :: (e ++ 32 :: (f ++ 32 :: g))))) := by
  rw [Lib.join_cons]
  simp [Lib.joinTail]
def LTextPost (l : LineV) (w : World) (e : Ending) (w' : World) : Prop := e = .returned (.string (arrS (lineT l))) ∧ Below w.heap.size w w'
theorem join_call (W : World) (a b c d e f g : List UInt8) (hl : (a ++ 32 :: (b ++ 32 :: (c ++ 32 :: (d ++ 32 :: (e ++ 32 :: (f ++ 32 :: g))))) : List UInt8).length ≤ 140737488355328) :
    Calls Tryz.prog 23 #[.slice (some ⟨W.heap.size, 0, none⟩) 7 7, .string ⟨#[32]⟩] (W.alloc (.cells #[.string (arrS a), .string (arrS b), .string (arrS c), .string (arrS d), .string (arrS e), .string (arrS f), .string (arrS g)] 9))
      fun x w' => x = .returned (.string (arrS (a ++ 32 :: (b ++ 32 :: (c ++ 32 :: (d ++ 32 :: (e ++ 32 :: (f ++ 32 :: g)))))))) ∧ Below W.heap.size W w' := by
  have hb0 : Below W.heap.size W (W.alloc (.cells #[.string (arrS a), .string (arrS b), .string (arrS c), .string (arrS d), .string (arrS e), .string (arrS f), .string (arrS g)] 9)) := (Below.refl _ _).alloc (Nat.le_refl _) _
  have hj := join_seven a b c d e f g
  have hm : [arrS a, arrS b, arrS c, arrS d, arrS e, arrS f, arrS g].map (fun x => x.data.toList) = [a, b, c, d, e, f, g] := by simp [arrS_list]
  have h := Tryz.strings_Join W.heap.size 0 7 [arrS a, arrS b, arrS c, arrS d, arrS e, arrS f, arrS g] ⟨#[32]⟩ (W.alloc (.cells #[.string (arrS a), .string (arrS b), .string (arrS c), .string (arrS d), .string (arrS e), .string (arrS f), .string (arrS g)] 9))
    (fun j x hx => by
      rw [Nat.zero_add, Lib.cell_of_heap (heap_alloc_new W _)]
      match j, hx with
      | 0, hx => cases hx; rfl
      | 1, hx => cases hx; rfl
      | 2, hx => cases hx; rfl
      | 3, hx => cases hx; rfl
      | 4, hx => cases hx; rfl
      | 5, hx => cases hx; rfl
      | 6, hx => cases hx; rfl
      | j + 7, hx => cases hx) (by simp) (by simp) (by simp) (by rw [hm]; rw [show (⟨#[32]⟩ : ByteArray).data.toList = [32] from rfl, hj]; exact hl)
  rw [hm, show (⟨#[32]⟩ : ByteArray).data.toList = [32] from rfl, hj] at h
  exact h.mono fun x w' ⟨he, hb⟩ => ⟨he, hb0.trans (hb.mono hb0.size)⟩
set_option maxRecDepth 100000 in
set_option maxHeartbeats 8000000 in
theorem lText_any (l : LineV) (w : World) (hl : LightL l) (h1 : TabP w) (h2 : TabS w) (h3 : TabZ w) : Calls Tryz.prog 9 #[.agg (cellsV l).toArray] w (LTextPost l w) := by
  obtain ⟨w1, hw1⟩ : ∃ w1, w.alloc (.cells #[.int .i64 l.time, .int .i64 l.how, .string ⟨l.method.toArray⟩, .string ⟨l.host.toArray⟩, .string ⟨l.target.toArray⟩, .int .i64 l.status, .int .i64 l.size] 23) = w1 := ⟨_, rfl⟩
  have hs1 : Below w.heap.size w w1 := by rw [← hw1]; exact (Below.refl _ _).alloc (Nat.le_refl _) _
  have hb : w1.heap[w.heap.size]? = some (.cells #[.int .i64 l.time, .int .i64 l.how, .string ⟨l.method.toArray⟩, .string ⟨l.host.toArray⟩, .string ⟨l.target.toArray⟩, .int .i64 l.status, .int .i64 l.size] 23 (0, 0)) := by rw [← hw1]; exact heap_alloc_new w _
  have hz1 : w1.heap.size = w.heap.size + 1 := by rw [← hw1]; simp
  have HB := Lib.hid hb
  have HS1 := Lib.hid hs1
  have HW1 := Lib.hid hw1
  have HL := Lib.hid hl
  have HLEN := Lib.hid (lineT_le hl)
  have T1 := Lib.hid h1
  have T2 := Lib.hid h2
  have T3 := Lib.hid h3
  have a1 : (w.alloc (.cells #[.int .i64 l.time, .int .i64 l.how, .string ⟨l.method.toArray⟩, .string ⟨l.host.toArray⟩, .string ⟨l.target.toArray⟩, .int .i64 l.status, .int .i64 l.size] 23)).cell? ⟨w.heap.size, 1, none⟩ = some (.int .i64 l.how) := by rw [hw1, Lib.cell_of_heap hb]; rfl
  have b1 : w1.cell? ⟨w.heap.size, 1, none⟩ = some (.int .i64 l.how) := by rw [Lib.cell_of_heap hb]; rfl
  have HZ1 := Lib.hid hz1
  obtain ⟨HT, hHT⟩ : ∃ HT, howT l.how = HT := ⟨_, rfl⟩
  have HHT := Lib.hid hHT
  clear hb hs1 hw1 hl h1 h2 h3 hz1
  unfold LTextPost
  unfold cellsV
  by_cases hh : 0 ≤ l.how ∧ l.how < 6
  · obtain ⟨k, hk⟩ : ∃ k : Nat, l.how = k := ⟨l.how.toNat, by omega⟩
    have hk6 : k < 6 := by omega
    have cH := how_word k hk6
    have e0 : howB k = HT := by rw [← hHT]; unfold howT; rw [if_pos hh, hk]; rfl
    have hne : (arrS HT).toList.isEmpty = false := by
      rw [Lib.toList_data, arrS_list, ← e0]
      have : ∀ k : Nat, k < 6 → (howB k).isEmpty = false := by decide
      exact this k hk6
    have hne2 : ¬ (arrS HT).toList = [] := by intro e; rw [e] at hne; cases hne
    rw [e0, ← hk] at cH
    clear hh hHT e0 hk hk6
    go_enter Tryz.func9, Tryz.ntmps9
    go_wp2_with fail
    refine (cH _).mono ?_
    rintro e v0 ⟨rfl, hv0⟩
    rw [HW1.out] at hv0
    subst hv0
    go_upto_region 4 with (fail)
    obtain ⟨v, hv⟩ : ∃ v, w1 = v := ⟨_, rfl⟩
    have hvb := HB.out
    have hvz := HS1.out
    rw [hv] at hvb hvz ⊢
    clear hv a1 b1 hne hne2 cH
    have HVB := Lib.hid hvb
    have HVZ := Lib.hid hvz
    have z0 : v.cell? ⟨w.heap.size, 0, none⟩ = some (.int .i64 l.time) := by rw [Lib.cell_of_heap hvb]; rfl
    have z2 : v.cell? ⟨w.heap.size, 2, none⟩ = some (.string ⟨l.method.toArray⟩) := by rw [Lib.cell_of_heap hvb]; rfl
    have z3 : v.cell? ⟨w.heap.size, 3, none⟩ = some (.string ⟨l.host.toArray⟩) := by rw [Lib.cell_of_heap hvb]; rfl
    have z4 : v.cell? ⟨w.heap.size, 4, none⟩ = some (.string ⟨l.target.toArray⟩) := by rw [Lib.cell_of_heap hvb]; rfl
    have z5 : v.cell? ⟨w.heap.size, 5, none⟩ = some (.int .i64 l.status) := by rw [Lib.cell_of_heap hvb]; rfl
    have z6 : v.cell? ⟨w.heap.size, 6, none⟩ = some (.int .i64 l.size) := by rw [Lib.cell_of_heap hvb]; rfl
    have x0 : ∀ x : Kin v, x.wd.cell? ⟨w.heap.size, 0, none⟩ = some (.int .i64 l.time) := fun x => x.cell z0
    have x2 : ∀ x : Kin v, x.wd.cell? ⟨w.heap.size, 2, none⟩ = some (.string ⟨l.method.toArray⟩) := fun x => x.cell z2
    have x3 : ∀ x : Kin v, x.wd.cell? ⟨w.heap.size, 3, none⟩ = some (.string ⟨l.host.toArray⟩) := fun x => x.cell z3
    have x4 : ∀ x : Kin v, x.wd.cell? ⟨w.heap.size, 4, none⟩ = some (.string ⟨l.target.toArray⟩) := fun x => x.cell z4
    have x5 : ∀ x : Kin v, x.wd.cell? ⟨w.heap.size, 5, none⟩ = some (.int .i64 l.status) := fun x => x.cell z5
    have x6 : ∀ x : Kin v, x.wd.cell? ⟨w.heap.size, 6, none⟩ = some (.int .i64 l.size) := fun x => x.cell z6
    have hup : ∀ x : Kin v, Spares nowhere w x.wd := fun x => Below.spares (hvz.trans (x.below.mono hvz.size)) (fun _ hk => .inr hk)
    have M1 : Hid (∀ x : Kin v, Calls Tryz.prog 24 #[.int .i64 l.time] x.wd fun e w'' => e = .returned (.string (arrS (timeT l.time))) ∧ ∃ y : Kin v, w'' = y.wd) := Lib.hid (fun x => Kin.calls (text_anyD l.time x.wd (T1.out.spares (hup x) (fun h => h)) (T2.out.spares (hup x) (fun h => h))))
    have hq : ∀ (b : List UInt8), b.length ≤ 1000000 → ∀ x : Kin v, Calls Tryz.prog 13 #[.string ⟨b.toArray⟩] x.wd fun e w'' => e = .returned (.string (arrS (quoteT b))) ∧ ∃ y : Kin v, w'' = y.wd := fun b hb x => by
      have c := quote_any (arrS b) x.wd (by rw [arrS_size]; omega) (T3.out.spares (hup x))
      rw [arrS_list] at c
      exact Kin.calls c
    have M2 := Lib.hid (hq l.method HL.out.m)
    have M3 := Lib.hid (hq l.host HL.out.h)
    have M4 := Lib.hid (hq l.target HL.out.t)
    have M5 : Hid (∀ x : Kin v, Calls Tryz.prog 22 #[.int .i64 l.status] x.wd fun e w'' => e = .returned (.string (arrS (natT l.status))) ∧ ∃ y : Kin v, w'' = y.wd) := Lib.hid (fun x => Kin.calls (natural_any l.status HL.out.status x.wd (T1.out.spares (hup x) (fun h => h))))
    have M6 : Hid (∀ x : Kin v, Calls Tryz.prog 22 #[.int .i64 l.size] x.wd fun e w'' => e = .returned (.string (arrS (natT l.size))) ∧ ∃ y : Kin v, w'' = y.wd) := Lib.hid (fun x => Kin.calls (natural_any l.size HL.out.size x.wd (T1.out.spares (hup x) (fun h => h))))
    have CJ : Hid (∀ W, Calls Tryz.prog 23 #[.slice (some ⟨W.heap.size, 0, none⟩) 7 7, .string ⟨#[32]⟩] (W.alloc (.cells #[.string (arrS (timeT l.time)), .string (arrS HT), .string (arrS (quoteT l.method)), .string (arrS (quoteT l.host)), .string (arrS (quoteT l.target)), .string (arrS (natT l.status)), .string (arrS (natT l.size))] 9))
        fun x w' => x = .returned (.string (arrS (lineT l))) ∧ Below W.heap.size W w') := Lib.hid (fun W => by
      have e : lineT l = timeT l.time ++ 32 :: (HT ++ 32 :: (quoteT l.method ++ 32 :: (quoteT l.host ++ 32 :: (quoteT l.target ++ 32 :: (natT l.status ++ 32 :: natT l.size))))) := by rw [← HHT.out]; rfl
      have h := HLEN.out
      rw [e] at h ⊢
      exact join_call W _ _ _ _ _ _ _ (by omega))
    clear hq hup hvb hvz z0 z2 z3 z4 z5 z6
    refine wp_region_kin_tail 19 (by kernel_rfl) (by kernel_rfl) ?_
    simp only [List.take_succ_cons, List.take_zero, List.drop_succ_cons, List.drop_zero]
    repeat (go_big_quiet_step (first | (go_at_call 24; with_reducible exact M1.out _) | (go_at_call 13; with_reducible exact M2.out _) | (go_at_call 13; with_reducible exact M3.out _) | (go_at_call 13; with_reducible exact M4.out _) | (go_at_call 22; with_reducible exact M5.out _) | (go_at_call 22; with_reducible exact M6.out _)))
    refine wpQuiet_nil ?_
    intro _ hx
    obtain ⟨x, rfl⟩ := hx
    obtain ⟨W, hW⟩ : ∃ W, x.wd = W := ⟨_, rfl⟩
    have HWB : Hid (Below w.heap.size w W) := Lib.hid (by rw [← hW]; exact HVZ.out.trans (x.below.mono HVZ.out.size))
    rw [hW]
    clear x0 x2 x3 x4 x5 x6 hW
    go_wp2_with fail
    refine (CJ.out W).mono ?_
    rintro e w9 ⟨rfl, hb9⟩
    go_wp2
    go_ret
    exact ⟨rfl, HWB.out.trans (hb9.mono HWB.out.size)⟩
  · have cH := how_none l.how hh
    have e0 : natT l.how = HT := by rw [← hHT]; unfold howT; rw [if_neg hh]
    have cN := natural_any l.how HL.out.how w1 (T1.out.spares (Below.spares (F := nowhere) HS1.out (fun _ hk => .inr hk)) (fun h => h))
    rw [e0] at cN
    clear hh hHT e0
    go_enter Tryz.func9, Tryz.ntmps9
    go_wp2_with fail
    refine (cH _).mono ?_
    rintro e v0 ⟨rfl, hv0⟩
    rw [HW1.out] at hv0
    subst hv0
    go_wp2_with fail
    refine cN.mono ?_
    rintro e v ⟨rfl, hbv⟩
    have hvz : Below w.heap.size w v := HS1.out.trans (hbv.mono HS1.out.size)
    have hvb := (hbv.block w.heap.size (by rw [HZ1.out]; omega)).trans HB.out
    clear hbv a1 b1 cH cN
    go_upto_region 4 with (fail)
    have HVB := Lib.hid hvb
    have HVZ := Lib.hid hvz
    have z0 : v.cell? ⟨w.heap.size, 0, none⟩ = some (.int .i64 l.time) := by rw [Lib.cell_of_heap hvb]; rfl
    have z2 : v.cell? ⟨w.heap.size, 2, none⟩ = some (.string ⟨l.method.toArray⟩) := by rw [Lib.cell_of_heap hvb]; rfl
    have z3 : v.cell? ⟨w.heap.size, 3, none⟩ = some (.string ⟨l.host.toArray⟩) := by rw [Lib.cell_of_heap hvb]; rfl
    have z4 : v.cell? ⟨w.heap.size, 4, none⟩ = some (.string ⟨l.target.toArray⟩) := by rw [Lib.cell_of_heap hvb]; rfl
    have z5 : v.cell? ⟨w.heap.size, 5, none⟩ = some (.int .i64 l.status) := by rw [Lib.cell_of_heap hvb]; rfl
    have z6 : v.cell? ⟨w.heap.size, 6, none⟩ = some (.int .i64 l.size) := by rw [Lib.cell_of_heap hvb]; rfl
    have x0 : ∀ x : Kin v, x.wd.cell? ⟨w.heap.size, 0, none⟩ = some (.int .i64 l.time) := fun x => x.cell z0
    have x2 : ∀ x : Kin v, x.wd.cell? ⟨w.heap.size, 2, none⟩ = some (.string ⟨l.method.toArray⟩) := fun x => x.cell z2
    have x3 : ∀ x : Kin v, x.wd.cell? ⟨w.heap.size, 3, none⟩ = some (.string ⟨l.host.toArray⟩) := fun x => x.cell z3
    have x4 : ∀ x : Kin v, x.wd.cell? ⟨w.heap.size, 4, none⟩ = some (.string ⟨l.target.toArray⟩) := fun x => x.cell z4
    have x5 : ∀ x : Kin v, x.wd.cell? ⟨w.heap.size, 5, none⟩ = some (.int .i64 l.status) := fun x => x.cell z5
    have x6 : ∀ x : Kin v, x.wd.cell? ⟨w.heap.size, 6, none⟩ = some (.int .i64 l.size) := fun x => x.cell z6
    have hup : ∀ x : Kin v, Spares nowhere w x.wd := fun x => Below.spares (hvz.trans (x.below.mono hvz.size)) (fun _ hk => .inr hk)
    have M1 : Hid (∀ x : Kin v, Calls Tryz.prog 24 #[.int .i64 l.time] x.wd fun e w'' => e = .returned (.string (arrS (timeT l.time))) ∧ ∃ y : Kin v, w'' = y.wd) := Lib.hid (fun x => Kin.calls (text_anyD l.time x.wd (T1.out.spares (hup x) (fun h => h)) (T2.out.spares (hup x) (fun h => h))))
    have hq : ∀ (b : List UInt8), b.length ≤ 1000000 → ∀ x : Kin v, Calls Tryz.prog 13 #[.string ⟨b.toArray⟩] x.wd fun e w'' => e = .returned (.string (arrS (quoteT b))) ∧ ∃ y : Kin v, w'' = y.wd := fun b hb x => by
      have c := quote_any (arrS b) x.wd (by rw [arrS_size]; omega) (T3.out.spares (hup x))
      rw [arrS_list] at c
      exact Kin.calls c
    have M2 := Lib.hid (hq l.method HL.out.m)
    have M3 := Lib.hid (hq l.host HL.out.h)
    have M4 := Lib.hid (hq l.target HL.out.t)
    have M5 : Hid (∀ x : Kin v, Calls Tryz.prog 22 #[.int .i64 l.status] x.wd fun e w'' => e = .returned (.string (arrS (natT l.status))) ∧ ∃ y : Kin v, w'' = y.wd) := Lib.hid (fun x => Kin.calls (natural_any l.status HL.out.status x.wd (T1.out.spares (hup x) (fun h => h))))
    have M6 : Hid (∀ x : Kin v, Calls Tryz.prog 22 #[.int .i64 l.size] x.wd fun e w'' => e = .returned (.string (arrS (natT l.size))) ∧ ∃ y : Kin v, w'' = y.wd) := Lib.hid (fun x => Kin.calls (natural_any l.size HL.out.size x.wd (T1.out.spares (hup x) (fun h => h))))
    have CJ : Hid (∀ W, Calls Tryz.prog 23 #[.slice (some ⟨W.heap.size, 0, none⟩) 7 7, .string ⟨#[32]⟩] (W.alloc (.cells #[.string (arrS (timeT l.time)), .string (arrS HT), .string (arrS (quoteT l.method)), .string (arrS (quoteT l.host)), .string (arrS (quoteT l.target)), .string (arrS (natT l.status)), .string (arrS (natT l.size))] 9))
        fun x w' => x = .returned (.string (arrS (lineT l))) ∧ Below W.heap.size W w') := Lib.hid (fun W => by
      have e : lineT l = timeT l.time ++ 32 :: (HT ++ 32 :: (quoteT l.method ++ 32 :: (quoteT l.host ++ 32 :: (quoteT l.target ++ 32 :: (natT l.status ++ 32 :: natT l.size))))) := by rw [← HHT.out]; rfl
      have h := HLEN.out
      rw [e] at h ⊢
      exact join_call W _ _ _ _ _ _ _ (by omega))
    clear hq hup hvb hvz z0 z2 z3 z4 z5 z6
    refine wp_region_kin_tail 19 (by kernel_rfl) (by kernel_rfl) ?_
    simp only [List.take_succ_cons, List.take_zero, List.drop_succ_cons, List.drop_zero]
    repeat (go_big_quiet_step (first | (go_at_call 24; with_reducible exact M1.out _) | (go_at_call 13; with_reducible exact M2.out _) | (go_at_call 13; with_reducible exact M3.out _) | (go_at_call 13; with_reducible exact M4.out _) | (go_at_call 22; with_reducible exact M5.out _) | (go_at_call 22; with_reducible exact M6.out _)))
    refine wpQuiet_nil ?_
    intro _ hx
    obtain ⟨x, rfl⟩ := hx
    obtain ⟨W, hW⟩ : ∃ W, x.wd = W := ⟨_, rfl⟩
    have HWB : Hid (Below w.heap.size w W) := Lib.hid (by rw [← hW]; exact HVZ.out.trans (x.below.mono HVZ.out.size))
    rw [hW]
    clear x0 x2 x3 x4 x5 x6 hW
    go_wp2_with fail
    refine (CJ.out W).mono ?_
    rintro e w9 ⟨rfl, hb9⟩
    go_wp2
    go_ret
    exact ⟨rfl, HWB.out.trans (hb9.mono HWB.out.size)⟩
end Go.Proofs.YtkbcklaloblmeaaGreatDoor
namespace Go.Proofs.YtkbcklaloblmeaaGreatDoor
open Go.RowKit LineMath ChunkS NormS DateMath

theorem space_le (r : Rd) : (spaceS r).rest.length ≤ r.rest.length := by
  obtain ⟨rest, fine⟩ := r
  cases rest with
  | nil => exact Nat.le_refl _
  | cons c t => unfold spaceS; simp only; split <;> simp
def QuotedSPost (p : Nat) (r : Rd) (w : World) (e : Ending) (w' : World) : Prop := e = .returned (.string (arrS (quotedS r).1)) ∧ RdAt w' p (quotedS r).2 ∧ Spares (only p) w w'
set_option maxHeartbeats 4000000 in
theorem quotedS_any (p : Nat) (r : Rd) (w : World) (h : RdAt w p r) (hl : r.rest.length ≤ 1000000000) : Calls Tryz.prog 30 #[.pointer (some ⟨p, 0, none⟩)] w (QuotedSPost p r w) := by
  have cS := space_any p r w h
  have hle := space_le r
  unfold SpacePost at cS
  have hplt := h.lt
  obtain ⟨rest, hrest⟩ : ∃ rest, (spaceS r).rest = rest := ⟨_, rfl⟩
  obtain ⟨fine, hfine⟩ : ∃ fine, (spaceS r).fine = fine := ⟨_, rfl⟩
  have cQ := fun w1 => quoted_any (arrS rest) w1 (by rw [arrS_size, ← hrest]; omega)
  unfold QuotedPost quotedV at cQ
  rw [arrS_list] at cQ
  have HRF : Hid (spaceS r = ⟨rest, fine⟩) := Lib.hid (by rw [← hrest, ← hfine])
  obtain ⟨X, hX⟩ : ∃ X, arrS rest = X := ⟨_, rfl⟩
  have HXX := Lib.hid hX
  rw [hX] at cQ
  unfold QuotedSPost
  cases hq : quotedF rest with
  | none =>
    have HV : Hid (quotedS r = ([], ⟨[], false⟩)) := Lib.hid (by unfold quotedS; rw [hrest, hq])
    rw [hq] at cQ
    clear hrest hfine hX hq hle hl h
    cases fine with
    | false =>
      go_enter Tryz.func30, Tryz.ntmps30
      go_wp2_with fail
      refine cS.mono ?_
      rintro e w1 ⟨rfl, hr1, hs1⟩
      rw [HRF.out] at hr1
      have c0 : w1.cell? ⟨p, 0, none⟩ = some (.string X) := by rw [Lib.cell_of_heap hr1, ← HXX.out]; rfl
      have HR1 := Lib.hid hr1
      have HS1 := Lib.hid hs1
      have hz := hs1.size
      clear hr1 hs1 cS
      go_wp2_with fail
      refine (cQ w1).mono ?_
      rintro e w2 ⟨rfl, hb⟩
      have hs2 : Spares (only p) w w2 := HS1.out.trans (Below.spares hb (fun _ hk => .inr hk))
      have hr2 := (hb.block p (by omega)).trans HR1.out
      have c1 : w2.cell? ⟨p, 1, none⟩ = some (.bool false) := by rw [Lib.cell_of_heap hr2]; rfl
      have f0 : w2.frozen? ⟨p, 0, none⟩ = false := heap_frozen hr2 0
      have f1 : w2.frozen? ⟨p, 1, none⟩ = false := heap_frozen hr2 1
      have c00 : w2.cell? ⟨p, 0, none⟩ = some (.string X) := by rw [Lib.cell_of_heap hr2, ← HXX.out]; rfl
      have HR2 := Lib.hid hr2
      have HS2 := Lib.hid hs2
      clear hb hr2 hs2 c0 cQ hz
      go_wp2
      go_ret
      refine ⟨by rw [HV.out]; rfl, ?_, spares_set (spares_set HS2.out 0 _) 1 _⟩
      rw [HV.out]
      exact (show RdAt w2 p ⟨rest, false⟩ from HR2.out).set ⟨#[]⟩ false
    | true =>
      go_enter Tryz.func30, Tryz.ntmps30
      go_wp2_with fail
      refine cS.mono ?_
      rintro e w1 ⟨rfl, hr1, hs1⟩
      rw [HRF.out] at hr1
      have c0 : w1.cell? ⟨p, 0, none⟩ = some (.string X) := by rw [Lib.cell_of_heap hr1, ← HXX.out]; rfl
      have HR1 := Lib.hid hr1
      have HS1 := Lib.hid hs1
      have hz := hs1.size
      clear hr1 hs1 cS
      go_wp2_with fail
      refine (cQ w1).mono ?_
      rintro e w2 ⟨rfl, hb⟩
      have hs2 : Spares (only p) w w2 := HS1.out.trans (Below.spares hb (fun _ hk => .inr hk))
      have hr2 := (hb.block p (by omega)).trans HR1.out
      have c1 : w2.cell? ⟨p, 1, none⟩ = some (.bool true) := by rw [Lib.cell_of_heap hr2]; rfl
      have f0 : w2.frozen? ⟨p, 0, none⟩ = false := heap_frozen hr2 0
      have f1 : w2.frozen? ⟨p, 1, none⟩ = false := heap_frozen hr2 1
      have c00 : w2.cell? ⟨p, 0, none⟩ = some (.string X) := by rw [Lib.cell_of_heap hr2, ← HXX.out]; rfl
      have HR2 := Lib.hid hr2
      have HS2 := Lib.hid hs2
      clear hb hr2 hs2 c0 cQ hz
      go_wp2
      go_ret
      refine ⟨by rw [HV.out]; rfl, ?_, spares_set (spares_set HS2.out 0 _) 1 _⟩
      rw [HV.out]
      exact (show RdAt w2 p ⟨rest, true⟩ from HR2.out).set ⟨#[]⟩ false
  | some q =>
    obtain ⟨v, t⟩ := q
    have HV : Hid (quotedS r = (v, ⟨t, fine⟩)) := Lib.hid (by unfold quotedS; rw [hrest, hq, hfine])
    rw [hq] at cQ
    simp only at cQ
    obtain ⟨V, hVV⟩ : ∃ V, arrS v = V := ⟨_, rfl⟩
    obtain ⟨T, hTT⟩ : ∃ T, arrS t = T := ⟨_, rfl⟩
    have HVV := Lib.hid hVV
    have HTT := Lib.hid hTT
    rw [hVV, hTT] at cQ
    clear hrest hfine hX hq hle hl h hVV hTT
    cases fine with
    | false =>
      go_enter Tryz.func30, Tryz.ntmps30
      go_wp2_with fail
      refine cS.mono ?_
      rintro e w1 ⟨rfl, hr1, hs1⟩
      rw [HRF.out] at hr1
      have c0 : w1.cell? ⟨p, 0, none⟩ = some (.string X) := by rw [Lib.cell_of_heap hr1, ← HXX.out]; rfl
      have HR1 := Lib.hid hr1
      have HS1 := Lib.hid hs1
      have hz := hs1.size
      clear hr1 hs1 cS
      go_wp2_with fail
      refine (cQ w1).mono ?_
      rintro e w2 ⟨rfl, hb⟩
      have hs2 : Spares (only p) w w2 := HS1.out.trans (Below.spares hb (fun _ hk => .inr hk))
      have hr2 := (hb.block p (by omega)).trans HR1.out
      have c1 : w2.cell? ⟨p, 1, none⟩ = some (.bool false) := by rw [Lib.cell_of_heap hr2]; rfl
      have f0 : w2.frozen? ⟨p, 0, none⟩ = false := heap_frozen hr2 0
      have f1 : w2.frozen? ⟨p, 1, none⟩ = false := heap_frozen hr2 1
      have c00 : w2.cell? ⟨p, 0, none⟩ = some (.string X) := by rw [Lib.cell_of_heap hr2, ← HXX.out]; rfl
      have HR2 := Lib.hid hr2
      have HS2 := Lib.hid hs2
      clear hb hr2 hs2 c0 cQ hz
      go_wp2
      go_ret
      refine ⟨by rw [HV.out, ← HVV.out]; rfl, ?_, spares_set (spares_set HS2.out 0 _) 1 _⟩
      rw [HV.out, ← HTT.out]
      exact (show RdAt w2 p ⟨rest, false⟩ from HR2.out).set (arrS t) false
    | true =>
      go_enter Tryz.func30, Tryz.ntmps30
      go_wp2_with fail
      refine cS.mono ?_
      rintro e w1 ⟨rfl, hr1, hs1⟩
      rw [HRF.out] at hr1
      have c0 : w1.cell? ⟨p, 0, none⟩ = some (.string X) := by rw [Lib.cell_of_heap hr1, ← HXX.out]; rfl
      have HR1 := Lib.hid hr1
      have HS1 := Lib.hid hs1
      have hz := hs1.size
      clear hr1 hs1 cS
      go_wp2_with fail
      refine (cQ w1).mono ?_
      rintro e w2 ⟨rfl, hb⟩
      have hs2 : Spares (only p) w w2 := HS1.out.trans (Below.spares hb (fun _ hk => .inr hk))
      have hr2 := (hb.block p (by omega)).trans HR1.out
      have c1 : w2.cell? ⟨p, 1, none⟩ = some (.bool true) := by rw [Lib.cell_of_heap hr2]; rfl
      have f0 : w2.frozen? ⟨p, 0, none⟩ = false := heap_frozen hr2 0
      have f1 : w2.frozen? ⟨p, 1, none⟩ = false := heap_frozen hr2 1
      have c00 : w2.cell? ⟨p, 0, none⟩ = some (.string X) := by rw [Lib.cell_of_heap hr2, ← HXX.out]; rfl
      have HR2 := Lib.hid hr2
      have HS2 := Lib.hid hs2
      clear hb hr2 hs2 c0 cQ hz
      go_wp2
      go_ret
      refine ⟨by rw [HV.out, ← HVV.out]; rfl, ?_, spares_set (spares_set HS2.out 0 _) 1 _⟩
      rw [HV.out, ← HTT.out]
      exact (show RdAt w2 p ⟨rest, true⟩ from HR2.out).set (arrS t) true
def NumberPost (p : Nat) (r : Rd) (w : World) (e : Ending) (w' : World) : Prop := e = .returned (.int .i64 (numberS r).1) ∧ RdAt w' p (numberS r).2 ∧ Spares (only p) w w'
set_option maxHeartbeats 4000000 in
theorem numberS_any (p : Nat) (r : Rd) (w : World) (h : RdAt w p r) (hm : MaxL w) (hp : p ≠ 1) (hT : TabP w) (hp2 : p ≠ 0) (hl : r.rest.length ≤ 1000000000) : Calls Tryz.prog 31 #[.pointer (some ⟨p, 0, none⟩)] w (NumberPost p r w) := by
  have cW := word_any p r w h hm hp hl
  unfold WordPost at cW
  have hplt := h.lt
  obtain ⟨wd, hwd⟩ : ∃ wd, (wordS r).1 = wd := ⟨_, rfl⟩
  obtain ⟨rest, hrest⟩ : ∃ rest, (wordS r).2.rest = rest := ⟨_, rfl⟩
  obtain ⟨fine, hfine⟩ : ∃ fine, (wordS r).2.fine = fine := ⟨_, rfl⟩
  have HRF : Hid ((wordS r).2 = ⟨rest, fine⟩) := Lib.hid (by rw [← hrest, ← hfine])
  have HV : Hid (numberS r = ((numF wd 9).getD 0, ⟨rest, fine && (wholeF wd).isSome⟩)) := Lib.hid (by unfold numberS; rw [hwd, hrest, hfine])
  have hwl : wd.length ≤ 1000000000 := by
    rw [← hwd]
    have h1 := drop_size (spaceS r).rest
    have h2 := space_le r
    show (wordOf (spaceS r).rest).length ≤ _
    omega
  have cN := fun w1 => numberD_any (arrS wd) 9 w1 (by decide) (by rw [arrS_size]; omega)
  rw [arrS_list] at cN
  rw [hwd] at cW
  obtain ⟨X, hX⟩ : ∃ X, arrS wd = X := ⟨_, rfl⟩
  have HXX := Lib.hid hX
  rw [hX] at cN cW
  have HTP := Lib.hid hT
  have HP2 := Lib.hid hp2
  unfold NumberPost numV at *
  have FIN : ∀ (w2 : World) (z : Bool), RdAt w2 p ⟨rest, fine⟩ → z = (fine && (wholeF wd).isSome) → RdAt (w2.setCell ⟨p, 1, none⟩ (.bool z)) p (numberS r).2 := fun w2 z h2 hz => by
    rw [HV.out, ← hz]
    exact heap_set h2 1 _
  have HFIN := Lib.hid FIN
  clear FIN
  cases hnum : numF wd 9 with
  | none =>
    have HW : Hid ((wholeF wd).isSome = false) := Lib.hid (by unfold wholeF; rw [hnum]; rfl)
    have HN0 : Hid ((numF wd 9).getD 0 = 0) := Lib.hid (by rw [hnum]; rfl)
    rw [hnum] at cN
    simp only [Option.getD_none, Option.isSome_none] at cN
    clear hwd hrest hfine hX hl h hm hp hnum hwl hT hp2
    cases fine with
    | false =>
      go_enter Tryz.func31, Tryz.ntmps31
      go_wp2_with fail
      refine cW.mono ?_
      rintro e w1 ⟨rfl, hr1, hs1⟩
      rw [HRF.out] at hr1
      have c1 : w1.cell? ⟨p, 1, none⟩ = some (.bool false) := by rw [Lib.cell_of_heap hr1]; rfl
      have f1 : w1.frozen? ⟨p, 1, none⟩ = false := heap_frozen hr1 1
      have HR1 := Lib.hid hr1
      have HS1 := Lib.hid hs1
      clear hr1 hs1 cW
      go_wp2_with fail
      refine (cN w1).mono ?_
      rintro e w2 ⟨rfl, hw⟩
      replace hw := hw.symm
      subst hw
      go_wp2
      go_ret
      exact ⟨by rw [HV.out, HN0.out]; rfl, HFIN.out _ _ HR1.out (by rw [HW.out]; rfl), spares_set HS1.out 1 _⟩
    | true =>
      go_enter Tryz.func31, Tryz.ntmps31
      go_wp2_with fail
      refine cW.mono ?_
      rintro e w1 ⟨rfl, hr1, hs1⟩
      rw [HRF.out] at hr1
      have c1 : w1.cell? ⟨p, 1, none⟩ = some (.bool true) := by rw [Lib.cell_of_heap hr1]; rfl
      have f1 : w1.frozen? ⟨p, 1, none⟩ = false := heap_frozen hr1 1
      have HR1 := Lib.hid hr1
      have HS1 := Lib.hid hs1
      clear hr1 hs1 cW
      go_wp2_with fail
      refine (cN w1).mono ?_
      rintro e w2 ⟨rfl, hw⟩
      replace hw := hw.symm
      subst hw
      go_wp2
      go_ret
      exact ⟨by rw [HV.out, HN0.out]; rfl, HFIN.out _ _ HR1.out (by rw [HW.out]; rfl), spares_set HS1.out 1 _⟩
  | some n =>
    have hn9 : n ≤ 999999999 := by
      unfold numF at hnum
      split at hnum
      · rename_i hc
        injection hnum with hnum
        have hd : ∀ c ∈ wd, digitD c = true := by simpa using hc.2.2
        have := valD_lt wd (by simpa using hc.2.2)
        have h9 : (10 : Nat) ^ wd.length ≤ 10 ^ 9 := Nat.pow_le_pow_right (by decide) hc.2.1
        omega
      · cases hnum
    have HN0 : Hid ((numF wd 9).getD 0 = n) := Lib.hid (by rw [hnum]; rfl)
    rw [hnum] at cN
    simp only [Option.getD_some, Option.isSome_some] at cN
    cases fine with
    | false =>
      clear hwd hrest hfine hX hl h hm hp hnum hwl hT hp2
      go_enter Tryz.func31, Tryz.ntmps31
      go_wp2_with fail
      refine cW.mono ?_
      rintro e w1 ⟨rfl, hr1, hs1⟩
      rw [HRF.out] at hr1
      have c1 : w1.cell? ⟨p, 1, none⟩ = some (.bool false) := by rw [Lib.cell_of_heap hr1]; rfl
      have f1 : w1.frozen? ⟨p, 1, none⟩ = false := heap_frozen hr1 1
      have HR1 := Lib.hid hr1
      have HS1 := Lib.hid hs1
      clear hr1 hs1 cW
      go_wp2_with fail
      refine (cN w1).mono ?_
      rintro e w2 ⟨rfl, hw⟩
      replace hw := hw.symm
      subst hw
      go_wp2
      go_ret
      exact ⟨by rw [HV.out, HN0.out]; rfl, HFIN.out _ _ HR1.out rfl, spares_set HS1.out 1 _⟩
    | true =>
      have HW : Hid ((wholeF wd).isSome = (Lib.decDigits n == wd)) := Lib.hid (by
        unfold wholeF; rw [hnum]
        simp only
        by_cases e : Lib.decDigits n = wd
        · rw [if_pos e, e]; simp
        · rw [if_neg e]; simp [e])
      have cI : ∀ x : World, TabP x → Calls Tryz.prog 43 #[.int .i64 n] x fun e w' => e = .returned (.string (arrS (Lib.decDigits n))) ∧ Below x.heap.size x w' := fun x hx => by
        have c := Tryz.strconv_Itoa n (by omega) (by omega) x hx
        have e : (⟨(Lib.itoa (n : Int)).toArray⟩ : ByteArray) = arrS (Lib.decDigits n) := by rw [Lib.itoa_nonneg]; rfl
        rw [e] at c
        exact c.mono fun e w' ⟨he, k, os, hw⟩ => ⟨he, hw ▸ Lib.below_grow _ _ (Nat.le_refl _) k os⟩
      obtain ⟨Y, hY⟩ : ∃ Y, arrS (Lib.decDigits n) = Y := ⟨_, rfl⟩
      obtain ⟨z, hz⟩ : ∃ z, (Lib.decDigits n == wd) = z := ⟨_, rfl⟩
      have hYX : (Y.toList == X.toList) = z := by
        rw [← hY, ← hX, Lib.toList_data, Lib.toList_data, arrS_list, arrS_list]; exact hz
      rw [hz] at HW
      simp only [hY] at cI
      clear hwd hrest hfine hX hl h hm hp hnum hwl hT hp2 hY hz
      go_enter Tryz.func31, Tryz.ntmps31
      go_wp2_with fail
      refine cW.mono ?_
      rintro e w1 ⟨rfl, hr1, hs1⟩
      rw [HRF.out] at hr1
      have c1 : w1.cell? ⟨p, 1, none⟩ = some (.bool true) := by rw [Lib.cell_of_heap hr1]; rfl
      have HR1 := Lib.hid hr1
      have HS1 := Lib.hid hs1
      have hz1 := hs1.size
      clear hr1 hs1 cW
      go_wp2_with fail
      refine (cN w1).mono ?_
      rintro e w2 ⟨rfl, hw⟩
      replace hw := hw.symm
      subst hw
      go_wp2_with fail
      refine (cI _ (HTP.out.spares HS1.out (fun e => HP2.out e.symm))).mono ?_
      rintro e w2 ⟨rfl, hb⟩
      have hr2 := (hb.block p (by omega)).trans HR1.out
      have hs2 : Spares (only p) w w2 := HS1.out.trans (Below.spares hb (fun _ hk => .inr hk))
      have f1 : w2.frozen? ⟨p, 1, none⟩ = false := heap_frozen hr2 1
      have c2 : w2.cell? ⟨p, 1, none⟩ = some (.bool true) := by rw [Lib.cell_of_heap hr2]; rfl
      have HR2 := Lib.hid hr2
      have HS2 := Lib.hid hs2
      clear hb hr2 hs2 cI cN c1
      go_wp2
      go_ret
      exact ⟨by rw [HV.out, HN0.out]; rfl, HFIN.out _ _ HR2.out (by rw [HW.out]; rfl), spares_set HS2.out 1 _⟩
end Go.Proofs.YtkbcklaloblmeaaGreatDoor
namespace Go.Proofs.YtkbcklaloblmeaaGreatDoor
open Go.RowKit

theorem bytes_injL {a b : ByteArray} (h : a.data = b.data) : a = b := ByteArray.ext h
def DecPost (n : Nat) (w : World) (e : Ending) (w' : World) : Prop := e = .returned (.string ⟨(Lib.decDigits n).toArray⟩) ∧ w' = w
theorem dec_len (n : Nat) (h : n ≤ 9223372036854775807) : (Lib.decDigits n).length ≤ 21 := by
  have := Lib.itoa_length_le (n : Int) (by omega) (by omega)
  unfold Lib.itoa at this
  rw [if_neg (by omega)] at this
  simpa using this
theorem one_digit (n : Nat) (h : n < 10) : (⟨#[48, 49, 50, 51, 52, 53, 54, 55, 56, 57]⟩ : ByteArray).extract n (n + 1) = ⟨(Lib.decDigits n).toArray⟩ := by
  rw [Lib.decDigits_one h]
  match n, h with
  | 0, _ => rfl
  | 1, _ => rfl
  | 2, _ => rfl
  | 3, _ => rfl
  | 4, _ => rfl
  | 5, _ => rfl
  | 6, _ => rfl
  | 7, _ => rfl
  | 8, _ => rfl
  | 9, _ => rfl
set_option maxRecDepth 100000 in
set_option maxHeartbeats 4000000 in
theorem dec_any : ∀ (f n : Nat) (w : World), n < f → n ≤ 9223372036854775807 → Calls Tryz.prog 25 #[.int .i64 n] w (DecPost n w) := by
  intro f
  induction f with
  | zero => intro n w h; omega
  | succ f ih =>
    intro n w hf hn
    unfold DecPost
    by_cases h10 : n < 10
    · have HD := Lib.hid (one_digit n h10)
      go_enter Tryz.func25, Tryz.ntmps25
      go_wp2
      go_ret
      exact ⟨by rw [← HD.out]; rfl, rfl⟩
    · have HD : Hid ((⟨(Lib.decDigits (n / 10)).toArray⟩ : ByteArray) ++ ⟨(Lib.decDigits (n % 10)).toArray⟩ = ⟨(Lib.decDigits n).toArray⟩) := Lib.hid (by
        rw [Lib.decDigits_one (show n % 10 < 10 by omega)]
        apply bytes_injL
        rw [ByteArray.data_append, show Lib.decDigits n = Lib.decDigits (n / 10) ++ [UInt8.ofNat (48 + n % 10)] from by rw [Lib.decDigits, dif_neg h10]]
        simp)
      have c1 := fun w => ih (n / 10) w (by omega) (by omega)
      have c2 := fun w => ih (n % 10) w (by omega) (by omega)
      unfold DecPost at c1 c2
      have z1 : (⟨(Lib.decDigits (n / 10)).toArray⟩ : ByteArray).size ≤ 21 := by
        show (Lib.decDigits (n / 10)).toArray.size ≤ 21
        simpa using dec_len (n / 10) (by omega)
      have z2 : (⟨(Lib.decDigits (n % 10)).toArray⟩ : ByteArray).size ≤ 21 := by
        show (Lib.decDigits (n % 10)).toArray.size ≤ 21
        simpa using dec_len (n % 10) (by omega)
      obtain ⟨a, ha⟩ : ∃ a : ByteArray, (⟨(Lib.decDigits (n / 10)).toArray⟩ : ByteArray) = a := ⟨_, rfl⟩
      obtain ⟨b, hb⟩ : ∃ b : ByteArray, (⟨(Lib.decDigits (n % 10)).toArray⟩ : ByteArray) = b := ⟨_, rfl⟩
      simp only [ha] at c1 z1 HD
      simp only [hb] at c2 z2 HD
      clear ih ha hb
      have e1 : (n : Int).tdiv 10 = ((n / 10 : Nat) : Int) := by rw [Int.tdiv_eq_ediv_of_nonneg (by omega)]; omega
      have e2 : (n : Int).tmod 10 = ((n % 10 : Nat) : Int) := by rw [Int.tmod_eq_emod_of_nonneg (by omega)]; omega
      go_enter Tryz.func25, Tryz.ntmps25
      go_wp2_with fail
      refine (c1 w).mono ?_
      rintro e w1 ⟨rfl, rfl⟩
      go_wp2_with fail
      refine (c2 w1).mono ?_
      rintro e w2 ⟨rfl, rfl⟩
      go_wp2
      go_ret
      exact ⟨by rw [← HD.out]; rfl, rfl⟩
end Go.Proofs.YtkbcklaloblmeaaGreatDoor
