/-
  CodeNums.
-/
import Derived.Test.YtekdkaiammebnaaDoorCodeSums
import Derived.Test.YtekdkaiammebnaaDoorCodeNumsMath
import Derived.Test.YtekdkaiammebnaaDoorZeros
namespace Go.Proofs.YtekdkaiammebnaaDoor
open Go.RowKit CodeMath CrcMath

theorem or128 (x : UInt8) : Go.bits .or .u8 (x.toNat : Int) 128 = ((UInt8.ofNat (x.toNat % 128 + 128)).toNat : Int) := by
  have h := low_byte x.toNat
  have hx := x.toNat_lt
  rwa [show ((x.toNat : Nat) : Int) % 256 = (x.toNat : Int) by omega] at h
theorem OwnBytes.some_of {w : World} {a : Option Addr} {n c : Nat} {d : List UInt8} (h : OwnBytes w (.slice a n c) d) (hd : 0 < d.length) : ∃ g, a = some ⟨g, 0, none⟩ ∧ d.length ≤ c := by
  rcases h.2 with ⟨_, e⟩ | ⟨g, cap, cur, e, _, _, hle, _⟩
  · omega
  · injection e with e1 e2 e3
    exact ⟨g, e1, by omega⟩
theorem BytesAt.lt {w : World} {a : Option Addr} {l : List UInt8} (h : BytesAt w a l) (hl : 0 < l.length) : ∃ b off, a = some ⟨b, off, none⟩ ∧ b < w.heap.size := by
  obtain ⟨b, off, e, hc⟩ := h 0 hl
  refine ⟨b, off, e, ?_⟩
  rcases Nat.lt_or_ge b w.heap.size with h | h
  · exact h
  · simp [World.cell?, Array.getElem?_eq_none h] at hc

set_option maxRecDepth 100000 in
set_option maxHeartbeats 4000000 in
theorem nums_any (n k : Nat) (w : World) (hT : Steps w) (hn : U64 n) (hk : k < 256) :
    Calls Tryd.prog 6 #[.int .u64 n, .int .u8 k] w (Knows w) := by
  have HT := Lib.hid hT
  have HN := Lib.hid hn
  have HR1 := Lib.hid (read_numF hn)
  have HR2 := Lib.hid (read_spoil hn (k % 5))
  have HSH := Lib.hid (numF_short hn)
  have hp := numF_pos n
  have hl10 := numF_len n
  have HG := Lib.hid (getLast_at hp)
  obtain ⟨d, hd⟩ : ∃ d, numF n = d := ⟨_, rfl⟩
  have HD := Lib.hid hd
  rw [hd] at HR1 HR2 HSH hp hl10
  simp only [hd] at HG
  obtain ⟨m, hm⟩ : ∃ m, d.length = m + 1 := ⟨d.length - 1, by omega⟩
  have hm9 : m ≤ 9 := by omega
  obtain ⟨x, hx⟩ : ∃ x : UInt8, d[m]'(by omega) = x := ⟨_, rfl⟩
  have hor := or128 x
  obtain ⟨y, hy⟩ : ∃ y : UInt8, UInt8.ofNat (x.toNat % 128 + 128) = y := ⟨_, rfl⟩
  rw [hy] at hor
  have HSP : Hid (spoil d = d.set m y) := Lib.hid (by
    unfold spoil
    have e : d.getLast?.getD 0 = x := by rw [HG.out, ← hx]; congr 1; omega
    rw [e, hy, hm, Nat.add_sub_cancel])
  obtain ⟨q, hq⟩ : ∃ q, k % 5 + 1 = q := ⟨_, rfl⟩
  rw [hq] at HR2
  have hq5 : q ≤ 5 := by omega
  have hq1 : 0 < q := by omega
  have gq : (1 : Int) + (k : Int) % 5 = (q : Int) := by omega
  have t1 : ((m : Int) + 1 == 0) = false := by simp; omega
  have t2 : decide ((10 : Int) < (m : Int) + 1) = false := by simp; omega
  have HM := Lib.hid hm
  have HX : Hid (d[m]? = some x) := Lib.hid (by rw [← hx]; exact List.getElem?_eq_getElem _)
  clear hT hn hd hp hl10 hm hy hq HG hx
  go_enter Tryd.func6, Tryd.ntmps6
  go_wp2_with fail
  refine (known_any _ HT.out).mono ?_
  rintro e w1 ⟨rfl, hs1⟩
  have HS1 := Lib.hid hs1
  clear hs1
  go_wp2_with fail
  refine (newWriter_any _).mono ?_
  rintro e w2 ⟨rfl, _, hw2, hs2⟩
  have HW2 := Lib.hid hw2
  have HS2 := Lib.hid (HS1.out.trans hs2)
  have hsz2 := hs2.size
  clear hw2 hs2
  go_wp2_with fail
  refine (wNum_any _ _ [] n _ HW2.out HN.out (by simp)).mono ?_
  rintro e w3 ⟨rfl, F3, hw3, hm3⟩
  have HW3 : Hid (IsW F3 w1.heap.size d w3) := Lib.hid (by rw [← HD.out]; exact hw3)
  have HS3 := Lib.hid (HS2.out.trans' hm3.1 (fun b hb => .inr (by rw [hb]; exact HS1.out.size)))
  clear hw3 hm3
  go_wp2_with fail
  refine (wBytes_any _ _ _ _ HW3.out (by rw [HM.out]; omega)).mono ?_
  rintro e w4 ⟨ab, cb, rfl, ho4, hs4, hf4⟩
  rw [HM.out] at ho4 hf4 ⊢
  have HO4 := Lib.hid ho4.bytes
  have HS4 := Lib.hid (HS3.out.trans hs4)
  clear ho4 hs4 hf4
  go_wp2_with (at_builtin; refine wpList_append_bytes rfl _ _ rfl _ [] rfl (ownBytes_nil w4) ab cb d (by rw [HM.out]; rfl) HO4.out.1 HO4.out.2 ?c1 ?_)
  case c1 => rw [HM.out]; simp; omega
  intro ao cc w5 ho5 hg5 hf5
  rw [HM.out] at ho5 hf5 ⊢
  obtain ⟨g, rfl, hcc⟩ := ho5.some_of (by rw [HM.out]; omega)
  have HO5 := Lib.hid ho5
  have hgg : w4.heap.size ≤ g := (hf5 g rfl).elim (fun e => by cases e) id
  have T5 := Lib.hid ((Spares.refl nowhere w4).grown hg5 (fun k e => by cases e))
  have hcell : w5.cell? ⟨g, m, none⟩ = some (.int .u8 x.toNat) := by
    obtain ⟨b, off, e, hc⟩ := (ho5.bytes).1 m (by rw [HM.out]; omega)
    injection e with e
    injection e with e1 e2 _
    subst e1; subst e2
    rw [(List.getElem?_eq_some_iff.1 HX.out).2, Nat.zero_add] at hc
    exact hc
  have hfz : w5.frozen? ⟨g, m, none⟩ = false := by
    obtain ⟨cs, hcs⟩ := ho5.kind g rfl
    exact Lib.frozen_of_heap hcs m
  rw [HM.out] at hcc
  clear ho5 hg5 hf5
  have HS6 : Hid (OwnBytes (w5.setCell ⟨g, m, none⟩ (.int .u8 y.toNat)) (.slice (some ⟨g, 0, none⟩) (m + 1) cc) (d.set m y)) := Lib.hid (HO5.out.set m y)
  have T6 : Hid (Spares nowhere w4 (w5.setCell ⟨g, m, none⟩ (.int .u8 y.toNat))) := Lib.hid (T5.out.setCell (p := ⟨g, m, none⟩) (.inr hgg) _)
  have hls : (d.set m y).length = m + 1 := by rw [List.length_set, HM.out]
  have h6 := append_zeros HS6.out q hq1 (by rw [hls]; omega) 27
  rw [hls, ← HSP.out] at h6
  obtain ⟨a7, c7, w7, hr7, ho7, hg7, hf7⟩ := h6
  have HO7 := Lib.hid ho7.bytes
  have T7 := Lib.hid (T6.out.grown hg7 (fun k e => by simp only [Value.ownBlock, Option.some.injEq] at e; exact .inr (by omega)))
  have hl7 : (spoil d ++ List.replicate q 0).length = m + 1 + q := by
    rw [HSP.out, List.length_append, hls, List.length_replicate]
  obtain ⟨s7, hs7⟩ : ∃ s7, spoil d ++ List.replicate q 0 = s7 := ⟨_, rfl⟩
  rw [hs7] at HO7 HR2 hl7
  have HL7 := Lib.hid hl7
  clear hls ho7 hg7 hf7 hs7 hl7
  go_wp2_with (at_builtin; refine Lib.wpList_append_run _ rfl _ _ _ _ rfl _ _ rfl rfl _ _ hr7 ?_)
  clear hr7
  have c8 := newReader_any s7 a7 c7 w7 HO7.out.1 HO7.out.2 (by rw [HL7.out]; omega)
  rw [HL7.out] at c8
  go_wp2_with fail
  refine c8.mono ?_
  clear c8
  rintro e w8 ⟨p8, F8, rfl, hr8, hs8, hf8⟩
  have HR8 := Lib.hid hr8
  have HF8 := Lib.hid hf8
  have T8 := Lib.hid (T7.out.trans hs8)
  clear hr8 hs8 hf8
  go_wp2_with fail
  refine (rNum_any F8 p8 (some s7) _ HR8.out (fun l e => by injection e with e; subst e; rw [HL7.out]; omega)).mono ?_
  rw [HR2.out]
  rintro e w9 ⟨rfl, hr9, hs9⟩
  have hp8 : w4.heap.size ≤ p8 := Nat.le_trans T7.out.size (HF8.out p8 HR8.out.1)
  have HR9 := Lib.hid hr9
  have T9 := Lib.hid (T8.out.trans' hs9 (fun b hb => .inr (by rw [hb]; exact hp8)))
  clear hr9 hs9
  have c10 := newReader_any d ab cb w9 (HO4.out.1.spares T9.out (fun _ _ _ h => h)) HO4.out.2 (by rw [HM.out]; omega)
  rw [HM.out] at c10
  go_wp2_with fail
  refine c10.mono ?_
  clear c10
  rintro e w10 ⟨p10, F10, rfl, hr10, hs10, hf10⟩
  have HR10 := Lib.hid hr10
  have HF10 := Lib.hid hf10
  have HRR := Lib.hid (HR9.out.spares hs10 (fun _ _ h => h))
  have T10 := Lib.hid (T9.out.trans hs10)
  clear hr10 hs10 hf10
  go_wp2_with fail
  refine (done_any F8 p8 none _ HRR.out (fun l e => by cases e)).mono ?_
  rw [show doneF none = 20 from rfl]
  rintro e w11 ⟨rfl, rfl⟩
  go_wp2_with fail
  refine (rNum_any F10 p10 (some d) _ HR10.out (fun l e => by injection e with e; subst e; rw [HM.out]; omega)).mono ?_
  rw [HR1.out]
  rintro e w12 ⟨rfl, hr12, hs12⟩
  have HR12 := Lib.hid hr12
  have T12 := Lib.hid (T10.out.trans' hs12 (fun b hb => .inr (by rw [hb]; exact Nat.le_trans T9.out.size (HF10.out p10 HR10.out.1))))
  clear hr12 hs12
  go_wp2_with fail
  refine (done_any F10 p10 (some []) _ HR12.out (fun l e => by injection e with e; subst e; decide)).mono ?_
  rw [show doneF (some []) = 0 from rfl]
  rintro e w13 ⟨rfl, rfl⟩
  have HK : Hid (Knows w (.returned (.bool true)) w12) := Lib.hid ⟨rfl, HS4.out.trans T12.out⟩
  have hsh := HSH.out
  rw [HM.out, Nat.add_sub_cancel] at hsh
  obtain ⟨z, hz⟩ : ∃ z, n / 2 ^ (7 * m) = z := ⟨_, rfl⟩
  rw [hz] at hsh
  have gz : (n : Int) / 2 ^ (7 * m) = (z : Int) := by rw [← hz]; simp
  have hz1 : z < 128 := hsh.1
  have hz2 : m = 0 ∨ 0 < z := by rcases hsh.2 with h | h <;> omega
  clear hz hsh
  by_cases hm0 : m = 0
  · have u1 : ((m : Int) + 1 == 1) = true := by rw [hm0]; rfl
    clear hz2 hm0
    go_wp2
    go_ret
    exact HK.out
  · have u1 : ((m : Int) + 1 == 1) = false := by simp; omega
    have u2 : 0 < z := by omega
    clear hz2 hm0
    go_wp2
    go_ret
    exact HK.out
theorem nums_of (n k : Int) (w : World) (hT : Steps w) (hn : (Lit.int .u64 n).wf = true) (hk : (Lit.int .u8 k).wf = true) :
    Calls Tryd.prog 6 #[.int .u64 n, .int .u8 k] w (Knows w) := by
  have h1 := bounds_u64 hn
  have h2 := bounds_u8 hk
  obtain ⟨n', rfl⟩ := Int.eq_ofNat_of_zero_le h1.1
  obtain ⟨k', rfl⟩ := Int.eq_ofNat_of_zero_le h2.1
  exact nums_any n' k' w hT (by unfold U64; omega) (by omega)
end Go.Proofs.YtekdkaiammebnaaDoor
