/-
  http's writing: the length as a field, a status's three digits, the length of a response.
  http.RequestBytes.
  http.responseLength, http.ResponseBytes.
  Messages of few bytes: no line of theirs is too long.
  HttpCuts.
  A request and a response that came in by value, opened; the table of powers of ten.
  The reference's RequestBytes.
  The reference's ResponseBytes.
  HttpWrites.
-/
import Derived.Lib.AppendIntMem
import Derived.Deep.RegionHeld3
import Derived.OpenShut
import Derived.ProofKit
import Derived.Lib.LaidTab
import Derived.Lib.SmallJoins
import Derived.Test.YtjpmofnnjdhamaaGreatDoorRows
import Derived.Test.YtjpmofnnjdhamaaGreatDoorMg1
import Derived.Test.YtjpmofnnjdhamaaGreatDoorMg4
import Derived.Test.YtjpmofnnjdhamaaGreatDoorMg15
import Derived.Test.YtjpmofnnjdhamaaGreatDoorMg21
import Derived.Test.YtjpmofnnjdhamaaGreatDoorMg22
import Derived.Test.YtjpmofnnjdhamaaGreatDoorMg25
import Derived.Test.YtjpmofnnjdhamaaGreatDoorMg26
import Derived.Test.YtjpmofnnjdhamaaGreatDoorMg30
import Derived.Test.YtjpmofnnjdhamaaGreatDoorMg32
import Derived.Test.YtjpmofnnjdhamaaGreatDoorMg34
import Derived.Test.YtjpmofnnjdhamaaGreatDoorMg35
import Derived.Test.YtjpmofnnjdhamaaGreatDoorMg36
import Derived.Test.YtjpmofnnjdhamaaGreatDoorMg38
import Derived.Test.YtjpmofnnjdhamaaGreatDoorMg41
namespace Go.Proofs.YtjpmofnnjdhamaaGreatDoor
open Go.RowKit HeadMath NormMath NormS HeadS ChunkMath HttpMath

def TabH (w : World) : Prop := Lib.TabIs Tryz.prog w "internal/strconv.uint64pow10" .u64 Lib.pow10Tab
theorem TabH.spares {F : Nat → Prop} {w w' : World} (h : TabH w) (hs : Spares F w w') (hF : ¬ F 1) : TabH w' := by
  unfold TabH Lib.TabIs World.var? at h ⊢
  have hg : Tryz.prog.globalNamed "internal/strconv.uint64pow10" = some 1 := by kernel_rfl
  simp only [hg, Option.bind_some] at h ⊢
  have hlt : 1 < w.heap.size := by
    rcases Nat.lt_or_ge 1 w.heap.size with h1 | h1
    · exact h1
    · simp [Array.getElem?_eq_none h1] at h
  rw [hs.block _ hlt hF]
  exact h
theorem itoa_call (n : Nat) (w : World) (hn : n ≤ 9223372036854775807) (ht : TabH w) : Calls Tryz.prog 62 #[.int .i64 n] w fun e w' => e = .returned (.string (itoB n)) ∧ Spares nowhere w w' := by
  have c := Tryz.strconv_Itoa n (by omega) (by omega) w ht
  have hd : (⟨(Lib.itoa n).toArray⟩ : ByteArray) = itoB n := by
    unfold itoB Lib.itoa
    rw [if_neg (by omega)]
    rfl
  rw [hd] at c
  exact c.mono fun e w' ⟨he, k, os, hw⟩ => ⟨he, hw ▸ Below.spares (F := nowhere) (Lib.below_grow _ _ (Nat.le_refl _) k os) (fun k hk => .inr hk)⟩
theorem itoB_size (n : Nat) (hn : n ≤ 9223372036854775807) : (itoB n).size ≤ 21 := by
  have := dec_len n hn
  show (Lib.decDigits n).toArray.size ≤ _
  simpa using this
def LenFPost (n : Nat) (w : World) (e : Ending) (w' : World) : Prop := e = .returned (.agg #[.string nCL, .string (itoB n)]) ∧ Spares nowhere w w'
set_option maxRecDepth 100000 in
set_option maxHeartbeats 4000000 in
theorem lengthField_any (n : Nat) (w : World) (hn : n ≤ 9223372036854775807) (ht : TabH w) : Calls Tryz.prog 30 #[.int .i64 n] w (LenFPost n w) := by
  have hs0 : Spares nowhere w (w.alloc (.cells #[.string ⟨#[]⟩, .string ⟨#[]⟩] 59)) := (Spares.refl _ _).alloc _
  have C := itoa_call n (w.alloc (.cells #[.string ⟨#[]⟩, .string ⟨#[]⟩] 59)) hn (ht.spares hs0 (fun h => h))
  have H0 : Hid ((w.alloc (.cells #[.string ⟨#[]⟩, .string ⟨#[]⟩] 59)).heap[w.heap.size]? = some (.cells #[.string ⟨#[]⟩, .string ⟨#[]⟩] 59 (0, 0))) := Lib.hid (heap_alloc_new _ _)
  have HS0 := Lib.hid hs0
  obtain ⟨X, hX⟩ : ∃ X, itoB n = X := ⟨_, rfl⟩
  unfold LenFPost
  rw [hX] at C ⊢
  unfold nCL
  clear hX hs0 ht
  go_enter Tryz.func30, Tryz.ntmps30
  go_wp2_with fail
  refine C.mono ?_
  rintro _ w1 ⟨rfl, hs1⟩
  have h1 := hs1.heap H0.out (fun h => h)
  obtain ⟨g, hg⟩ : ∃ g, w.heap.size = g := ⟨_, rfl⟩
  rw [hg] at h1
  have HG := Lib.hid hg
  have x0 : w1.cell? ⟨g, 0, none⟩ = some (.string ⟨#[]⟩) := (Lib.cell_of_heap h1 0).trans rfl
  have f0 : w1.frozen? ⟨g, 0, none⟩ = false := Lib.frozen_of_heap h1 0
  have h2 := set_at (i := 0) h1 (.string ⟨#[67, 111, 110, 116, 101, 110, 116, 45, 76, 101, 110, 103, 116, 104]⟩)
  have x1 : (w1.setCell ⟨g, 0, none⟩ (.string ⟨#[67, 111, 110, 116, 101, 110, 116, 45, 76, 101, 110, 103, 116, 104]⟩)).cell? ⟨g, 1, none⟩ = some (.string ⟨#[]⟩) := (Lib.cell_of_heap h2 1).trans rfl
  have f1 : (w1.setCell ⟨g, 0, none⟩ (.string ⟨#[67, 111, 110, 116, 101, 110, 116, 45, 76, 101, 110, 103, 116, 104]⟩)).frozen? ⟨g, 1, none⟩ = false := Lib.frozen_of_heap h2 1
  have h3 := set_at (i := 1) h2 (.string X)
  obtain ⟨u, hu⟩ : ∃ u, (w1.setCell ⟨g, 0, none⟩ (.string ⟨#[67, 111, 110, 116, 101, 110, 116, 45, 76, 101, 110, 103, 116, 104]⟩)).setCell ⟨g, 1, none⟩ (.string X) = u := ⟨_, rfl⟩
  have HSU : Hid (Spares nowhere w u) := Lib.hid (by
    rw [← hu]
    refine (HS0.out.trans hs1).trans' (((Spares.refl (fun k => k = g) w1).setCell (p := ⟨g, 0, none⟩) (.inl rfl) _).setCell (p := ⟨g, 1, none⟩) (.inl rfl) _) (fun k hk => .inr (by rw [HG.out]; omega)))
  rw [hu] at h3
  have y0 : u.cell? ⟨g, 0, none⟩ = some (.string ⟨#[67, 111, 110, 116, 101, 110, 116, 45, 76, 101, 110, 103, 116, 104]⟩) := (Lib.cell_of_heap h3 0).trans rfl
  have y1 : u.cell? ⟨g, 1, none⟩ = some (.string X) := (Lib.cell_of_heap h3 1).trans rfl
  clear hg h1 h2 h3 hs1 C H0 HS0
  try rw [HG.out]
  go_wp2
  exact bodyPost_ret (v := .agg #[.string ⟨#[67, 111, 110, 116, 101, 110, 116, 45, 76, 101, 110, 103, 116, 104]⟩, .string X]) (by simp [results, Tryz.results30, asAddr, go_sem, y0, y1]) rfl ⟨rfl, HSU.out⟩
/-- The three digits of a status. -/
theorem dec_step {n : Nat} (h : 10 ≤ n) : Lib.decDigits n = Lib.decDigits (n / 10) ++ [UInt8.ofNat (48 + n % 10)] := by rw [Lib.decDigits, dif_neg (by omega)]
theorem dec_three (n : Nat) (h : n < 1000) : Lib.decDigits (n + 1000) = 49 :: digs n := by
  rw [dec_step (by omega), dec_step (by omega), dec_step (by omega), Lib.decDigits_one (by omega)]
  unfold digs dg
  have e1 : (n + 1000) / 10 / 10 / 10 = 1 := by omega
  have e2 : (n + 1000) / 10 / 10 % 10 = n / 100 := by omega
  have e3 : (n + 1000) / 10 % 10 = n / 10 % 10 := by omega
  have e4 : (n + 1000) % 10 = n % 10 := by omega
  rw [e1, e2, e3, e4]
  rfl
def DigPost (n : Nat) (w : World) (e : Ending) (w' : World) : Prop := e = .returned (.string ⟨(digs n).toArray⟩) ∧ Spares nowhere w w'
set_option maxRecDepth 100000 in
set_option maxHeartbeats 4000000 in
theorem digits_any (st : Int) (w : World) (h0 : -9223372036854775808 ≤ st) (h1 : st ≤ 9223372036854775807) (ht : TabH w) : Calls Tryz.prog 36 #[.int .i64 st] w (DigPost (stat3 st) w) := by
  obtain ⟨n, hn⟩ : ∃ n, stat3 st = n := ⟨_, rfl⟩
  have hn1 : n < 1000 := by rw [← hn]; exact stat3_lt st
  have hmx : (max st 0 : Int).tmod 1000 = (n : Int) := by
    rw [Int.tmod_eq_emod_of_nonneg (by omega)]
    rw [← hn]; unfold stat3; omega
  have hmx2 : (max st 0 : Int) % 1000 = (n : Int) := by rw [← hn]; unfold stat3; omega
  have C := itoa_call (n + 1000) w (by omega) ht
  obtain ⟨X, hX⟩ : ∃ X, itoB (n + 1000) = X := ⟨_, rfl⟩
  have hXs : X.size = 4 := by
    rw [← hX]; unfold itoB
    rw [dec_three n hn1]; rfl
  have HXE : Hid (X.extract 1 4 = ⟨(digs n).toArray⟩) := Lib.hid (by
    rw [← hX]; unfold itoB
    rw [dec_three n hn1]
    rfl)
  rw [hX] at C
  rw [hn]
  unfold DigPost
  have hcast : ((n + 1000 : Nat) : Int) = max st 0 % 1000 + 1000 := by omega
  rw [hcast] at C
  clear hX hn ht hcast hmx hmx2
  go_enter Tryz.func36, Tryz.ntmps36
  go_wp2_with fail
  refine C.mono ?_
  rintro _ w1 ⟨rfl, hs1⟩
  go_wp2
  go_ret
  exact ⟨by rw [← HXE.out]; rfl, hs1⟩
end Go.Proofs.YtjpmofnnjdhamaaGreatDoor
namespace Go.Proofs.YtjpmofnnjdhamaaGreatDoor
open Go.RowKit HeadMath NormMath NormS HeadS ChunkMath HttpMath

theorem msg_up {T T' : Bs} {w w5 w6 : World} {e : Ending} (h : MsgPost T w5 e w6) (hs : Spares nowhere w w5) (hT : T = T') : MsgPost T' w e w6 := by
  obtain ⟨v, he, ⟨g, cur, fz, h1, h2, h3⟩, hsp⟩ := h
  subst hT
  exact ⟨v, he, ⟨g, cur, fz, h1, Nat.le_trans hs.size h2, h3⟩, hs.trans hsp⟩
theorem lines_filter (p : ByteArray × ByteArray → Bool) : ∀ (l : Fs), (linesF (l.filter p)).length ≤ (linesF l).length
  | [] => Nat.le_refl _
  | f :: l => by
    have ih := lines_filter p l
    have e : ∀ (x : ByteArray × ByteArray) (L : Fs), linesF (x :: L) = HeadS.lineF x ++ linesF L := fun x L => by unfold linesF; rw [List.flatMap_cons]
    rw [List.filter_cons]
    split
    · rw [e, e, List.length_append, List.length_append]; omega
    · rw [e, List.length_append]; omega
theorem unframed_mem {l : Fs} : ∀ f ∈ unframedF l, f ∈ l := fun f hf => by
  unfold unframedF dropF at hf
  exact (List.mem_filter.1 (List.mem_filter.1 hf).1).1
theorem unframed_len (l : Fs) : (unframedF l).length ≤ l.length := by
  unfold unframedF
  exact Nat.le_trans (dropF_len _ _) (dropF_len _ _)
theorem unframed_lines (l : Fs) : (linesF (unframedF l)).length ≤ (linesF l).length := by
  unfold unframedF dropF
  exact Nat.le_trans (lines_filter _ _) (lines_filter _ _)
theorem lines_of {l : Fs} {a c : Nat} (ha : l.length ≤ a) (hc : ∀ f ∈ l, f.1.size + f.2.size ≤ c) : (linesF l).length ≤ a * (c + 4) := by
  have key : ∀ l : Fs, (∀ f ∈ l, f.1.size + f.2.size ≤ c) → (linesF l).length ≤ l.length * (c + 4) := by
    intro l
    induction l with
    | nil => intro _; simp [linesF]
    | cons f l ih =>
      intro h
      have e : linesF (f :: l) = HeadS.lineF f ++ linesF l := by unfold linesF; rw [List.flatMap_cons]
      have h1 := h f (by simp)
      have h2 := ih (fun g hg => h g (by simp [hg]))
      have h3 : (HeadS.lineF f).length = f.1.size + f.2.size + 4 := by
        unfold HeadS.lineF
        simp only [List.length_append, List.length_cons, List.length_nil, size_list]
        omega
      rw [e, List.length_append, List.length_cons, h3, Nat.add_mul]
      omega
  refine Nat.le_trans (key l hc) (Nat.mul_le_mul_right _ ha)
/-- What a message's maker wants of its fields and its body. -/
structure FitM (fs : Fs) (body : Bs) : Prop where
  len : fs.length ≤ 900
  sz : ∀ f ∈ fs, f.1.size ≤ 1000000 ∧ f.2.size ≤ 1000000
  val : ∀ f ∈ fs, f.2.size ≤ 9000
  lin : (linesF fs).length ≤ 90000
  bod : body.length ≤ 90000
theorem FitM.small {fs : Fs} {body : Bs} (h : FitM fs body) : SmallF fs := fun j hj => by have := h.sz _ (List.getElem_mem hj); omega
/-- The fields without framing's, and perhaps one of the length. -/
theorem fit_len {fs : Fs} {body : Bs} {n : Nat} (h : FitM fs body) (hn : n ≤ 100000) (l : Fs) (hl : l = [] ∨ l = [(nCL, itoB n)]) : (unframedF fs ++ l).length ≤ 1000 ∧ (∀ j (h : j < (unframedF fs ++ l).length), (unframedF fs ++ l)[j].1.size ≤ 1000000 ∧ (unframedF fs ++ l)[j].2.size ≤ 1000000) ∧ (linesF (unframedF fs ++ l)).length ≤ 100000 := by
  have h1 := unframed_len fs
  have h2 := unframed_lines fs
  have h3 := h.len
  have h4 := h.lin
  have hi := itoB_size n (by omega)
  have hz : nCL.size = 14 := rfl
  rcases hl with rfl | rfl
  · rw [List.append_nil]
    exact ⟨by omega, fun j hj => h.sz _ (unframed_mem _ (List.getElem_mem hj)), by omega⟩
  · refine ⟨by rw [List.length_append]; simp; omega, fun j hj => ?_, ?_⟩
    · rcases List.mem_append.1 (List.getElem_mem hj) with hm | hm
      · exact h.sz _ (unframed_mem _ hm)
      · have e : (unframedF fs ++ [(nCL, itoB n)])[j] = (nCL, itoB n) := by simpa using hm
        rw [e]
        exact ⟨by rw [hz]; omega, by show (itoB n).size ≤ _; omega⟩
    · rw [linesF_app, linesF_one, List.length_append]
      have : (HeadS.lineF (nCL, itoB n)).length = nCL.size + (itoB n).size + 4 := by
        unfold HeadS.lineF
        simp only [List.length_append, List.length_cons, List.length_nil, size_list]
        omega
      rw [this, hz]
      omega
theorem one_len (w : World) (n v : ByteArray) : FieldsIn (w.heap.size + 1) (w.alloc (.cells #[.string n, .string v] 59)) (some ⟨w.heap.size, 0, none⟩) [(n, v)] := by
  intro j hj
  obtain rfl : j = 0 := by simpa using hj
  exact ⟨w.heap.size, 0, rfl, by omega, by simp [go_sem], by simp [go_sem]⟩
set_option maxRecDepth 100000 in
set_option maxHeartbeats 8000000 in
theorem requestBytes_any (m t : ByteArray) (fs : Fs) (body : Bs) (fa ab : Option Addr) (fc cb n k : Nat) (w : World) (hn : fs.length = n) (hk : body.length = k) (hin : FieldsIn w.heap.size w fa fs) (hat : BytesAt w ab body) (hnil : ab = none → cb = 0) (hm : m.size ≤ 4000) (ht : t.size ≤ 4000) (hfit : FitM fs body) (hT : TabH w) :
    Calls Tryz.prog 13 #[.agg #[.string m, .string t, .slice fa n fc, .slice ab k cb]] w (MsgPost (reqTextF m t fs body) w) := by
  obtain ⟨w0, hw0⟩ : ∃ w0, w.alloc (.cells #[.string m, .string t, .slice fa n fc, .slice ab k cb] 25) = w0 := ⟨_, rfl⟩
  have hs0 : Spares nowhere w w0 := by rw [← hw0]; exact (Spares.refl _ _).alloc _
  obtain ⟨g, hg⟩ : ∃ g, w.heap.size = g := ⟨_, rfl⟩
  have hb0 : w0.heap[g]? = some (.cells #[.string m, .string t, .slice fa n fc, .slice ab k cb] 25 (0, 0)) := by rw [← hw0, ← hg]; exact heap_alloc_new _ _
  have hz0 : g < w0.heap.size := by rw [← hw0, ← hg]; simp
  have CU := unframed_any fs fa fc n w0 hn.symm (FieldsIn.quiet hin (Nat.le_refl _) hs0 hs0.size) hfit.small (by have := hfit.len; omega)
  obtain ⟨us, hus⟩ : ∃ us, unframedF fs = us := ⟨_, rfl⟩
  rw [hus] at CU
  unfold FieldPost at CU
  have hkk : k ≤ 90000 := by have := hfit.bod; omega
  have CLN : Hid (∀ W, Spares nowhere w W → Calls Tryz.prog 30 #[.int .i64 k] W (LenFPost k W)) := Lib.hid (fun W h => lengthField_any k W (by omega) (hT.spares h (fun h => h)))
  unfold LenFPost nCL at CLN
  have HUS := Lib.hid hus
  have HB0 := Lib.hid hb0
  have HS0 := Lib.hid hs0
  have HG := Lib.hid hg
  have HZ0 := Lib.hid hz0
  have HW0 := Lib.hid hw0
  have HK := Lib.hid hk
  have HAT := Lib.hid hat
  have HNIL := Lib.hid hnil
  have HFIT := Lib.hid hfit
  have y0 : w0.cell? ⟨g, 0, none⟩ = some (.string m) := (Lib.cell_of_heap hb0 0).trans rfl
  have y2 : w0.cell? ⟨g, 2, none⟩ = some (.slice fa n fc) := (Lib.cell_of_heap hb0 2).trans rfl
  have hz1 : ({ data := #[32] } : ByteArray).size = 1 := rfl
  have hz8 : ({ data := #[72, 84, 84, 80, 47, 49, 46, 49] } : ByteArray).size = 8 := rfl
  obtain ⟨Y, hY⟩ : ∃ Y : ByteArray, m ++ ({ data := #[32] } : ByteArray) ++ t ++ ({ data := #[32] } : ByteArray) ++ ({ data := #[72, 84, 84, 80, 47, 49, 46, 49] } : ByteArray) = Y := ⟨_, rfl⟩
  have hYs : Y.size ≤ 10000 := by
    rw [← hY, ByteArray.size_append, ByteArray.size_append, ByteArray.size_append, ByteArray.size_append, hz1, hz8]; omega
  have HYD : Hid (Y.data.toList = firstT m t) := Lib.hid (by
    rw [← hY, ByteArray.data_append, ByteArray.data_append, ByteArray.data_append, ByteArray.data_append]
    unfold firstT http11
    simp)
  clear hin hat hnil hfit hT hb0 hs0 hg hz0 hus hk hn hw0
  have HP := Lib.hid (show putM m = ((m.toList == [80, 79, 83, 84]) || ((m.toList == [80, 85, 84]) || (m.toList == [80, 65, 84, 67, 72]))) from rfl)
  cases e1 : (m.toList == [80, 79, 83, 84]) with
  | true =>
    have HE := Lib.hid e1
    go_enter Tryz.func13, Tryz.ntmps13
    go_upto_region 1 with (fail)
    rw [HW0.out, HG.out]
    go_wp2_with fail
    refine CU.mono ?_
    rintro _ w1 ⟨v, rfl, hown, hb1⟩
    have hs1 : Spares nowhere w0 w1 := Below.spares hb1 (fun k hk => .inr hk)
    have HO := Lib.hid hown
    have HS1 := Lib.hid hs1
    have HB1 := Lib.hid (hs1.heap HB0.out (fun h => h))
    have y0' : w1.cell? ⟨g, 0, none⟩ = some (.string m) := (Lib.cell_of_heap HB1.out 0).trans rfl
    have y1' : w1.cell? ⟨g, 1, none⟩ = some (.string t) := (Lib.cell_of_heap HB1.out 1).trans rfl
    have y3' : w1.cell? ⟨g, 3, none⟩ = some (.slice ab k cb) := (Lib.cell_of_heap HB1.out 3).trans rfl
    clear hown hb1 hs1 CU
    go_wp2_with fail
    refine (CLN.out w1 (HS0.out.trans HS1.out)).mono ?_
    rintro _ w2 ⟨rfl, hs2⟩
    have HI3 := Lib.hid (one_len w2 ⟨#[67, 111, 110, 116, 101, 110, 116, 45, 76, 101, 110, 103, 116, 104]⟩ (itoB k))
    have hs3 : Spares nowhere w1 (w2.alloc (.cells #[.string ⟨#[67, 111, 110, 116, 101, 110, 116, 45, 76, 101, 110, 103, 116, 104]⟩, .string (itoB k)] 59)) := hs2.alloc _
    have HS3 := Lib.hid hs3
    have HO3 := Lib.hid (hs3.own HO.out (fun _ _ h => h))
    have HL3 : Hid (us.length + 1 ≤ 1000000000) := Lib.hid (by have h1 := unframed_len fs; rw [HUS.out] at h1; have := HFIT.out.len; omega)
    clear hs2 hs3
    go_wp2_with (at_builtin; refine wpList_append_fields rfl _ _ rfl w0.heap.size _ v us rfl HO3.out (HS1.out.trans HS3.out).size (some ⟨w2.heap.size, 0, none⟩) 1 1 _ rfl rfl HI3.out (fun e => by cases e) (by simpa using HL3.out) ?_)
    intro v4 w4 hown4 hg4
    have hs4 : Spares nowhere w0 w4 := (HS1.out.trans HS3.out).grown hg4 (fun k hk => .inr (World.ownsRow.lt HO3.out k hk).1)
    obtain ⟨ls, hls⟩ : ∃ ls, us ++ [(⟨#[67, 111, 110, 116, 101, 110, 116, 45, 76, 101, 110, 103, 116, 104]⟩, itoB k)] = ls := ⟨_, rfl⟩
    have HLS : Hid (ls = unframedF fs ++ reqLenF m k) := Lib.hid (by rw [← hls, HUS.out]; unfold reqLenF; rw [if_pos (by exact .inl (by rw [HP.out, HE.out]; rfl))]; try rfl)
    obtain ⟨f1, f2, f3⟩ : ls.length ≤ 1000 ∧ (∀ j (h : j < ls.length), ls[j].1.size ≤ 1000000 ∧ ls[j].2.size ≤ 1000000) ∧ (linesF ls).length ≤ 100000 := by
      have := fit_len (n := k) HFIT.out (by omega) [(nCL, itoB k)] (.inr rfl)
      rw [HUS.out] at this
      rw [← hls]
      exact this
    rw [hls] at hown4
    rw [show us.length + 1 = ls.length from by rw [← hls]; simp] at hown4
    obtain ⟨fa4, fc4, hv4, hfi4⟩ := rowF_shape hown4
    subst hv4
    have HS4 := Lib.hid hs4
    have HWW4 : Hid (Spares nowhere w w4) := Lib.hid (HS0.out.trans hs4)
    have HB4 := Lib.hid (hs4.heap HB0.out (fun h => h))
    have CM : Hid (Calls Tryz.prog 31 #[.string Y, .slice fa4 ls.length fc4, .slice ab k cb] w4 (MsgPost (msgT Y.data.toList ls body) w4)) := Lib.hid (message_any Y ls body fa4 ab fc4 cb ls.length k w4 rfl HK.out hfi4 (HAT.out.spares' HWW4.out (fun _ _ _ _ h => h)) HNIL.out hYs (by omega) f2 f3 (by have := HFIT.out.bod; omega))
    have z0 : w4.cell? ⟨g, 0, none⟩ = some (.string m) := (Lib.cell_of_heap HB4.out 0).trans rfl
    have z1 : w4.cell? ⟨g, 1, none⟩ = some (.string t) := (Lib.cell_of_heap HB4.out 1).trans rfl
    have z3 : w4.cell? ⟨g, 3, none⟩ = some (.slice ab k cb) := (Lib.cell_of_heap HB4.out 3).trans rfl
    clear hown4 hs4 hfi4 hls f1 f2 f3 hg4
    go_wp2_with fail
    refine CM.out.mono ?_
    rintro e5 w5 hM
    have HM := Lib.hid (msg_up hM HWW4.out (T' := reqTextF m t fs body) (by unfold reqTextF; rw [HYD.out, HLS.out, HK.out]))
    obtain ⟨v5, rfl, _⟩ := hM
    go_wp2
    go_ret
    exact HM.out
  | false =>
    cases e2 : (m.toList == [80, 85, 84]) with
    | true =>
      have HE := Lib.hid e1
      have HE2 := Lib.hid e2
      go_enter Tryz.func13, Tryz.ntmps13
      go_upto_region 1 with (fail)
      rw [HW0.out, HG.out]
      go_wp2_with fail
      refine CU.mono ?_
      rintro _ w1 ⟨v, rfl, hown, hb1⟩
      have hs1 : Spares nowhere w0 w1 := Below.spares hb1 (fun k hk => .inr hk)
      have HO := Lib.hid hown
      have HS1 := Lib.hid hs1
      have HB1 := Lib.hid (hs1.heap HB0.out (fun h => h))
      have y0' : w1.cell? ⟨g, 0, none⟩ = some (.string m) := (Lib.cell_of_heap HB1.out 0).trans rfl
      have y1' : w1.cell? ⟨g, 1, none⟩ = some (.string t) := (Lib.cell_of_heap HB1.out 1).trans rfl
      have y3' : w1.cell? ⟨g, 3, none⟩ = some (.slice ab k cb) := (Lib.cell_of_heap HB1.out 3).trans rfl
      clear hown hb1 hs1 CU
      go_wp2_with fail
      refine (CLN.out w1 (HS0.out.trans HS1.out)).mono ?_
      rintro _ w2 ⟨rfl, hs2⟩
      have HI3 := Lib.hid (one_len w2 ⟨#[67, 111, 110, 116, 101, 110, 116, 45, 76, 101, 110, 103, 116, 104]⟩ (itoB k))
      have hs3 : Spares nowhere w1 (w2.alloc (.cells #[.string ⟨#[67, 111, 110, 116, 101, 110, 116, 45, 76, 101, 110, 103, 116, 104]⟩, .string (itoB k)] 59)) := hs2.alloc _
      have HS3 := Lib.hid hs3
      have HO3 := Lib.hid (hs3.own HO.out (fun _ _ h => h))
      have HL3 : Hid (us.length + 1 ≤ 1000000000) := Lib.hid (by have h1 := unframed_len fs; rw [HUS.out] at h1; have := HFIT.out.len; omega)
      clear hs2 hs3
      go_wp2_with (at_builtin; refine wpList_append_fields rfl _ _ rfl w0.heap.size _ v us rfl HO3.out (HS1.out.trans HS3.out).size (some ⟨w2.heap.size, 0, none⟩) 1 1 _ rfl rfl HI3.out (fun e => by cases e) (by simpa using HL3.out) ?_)
      intro v4 w4 hown4 hg4
      have hs4 : Spares nowhere w0 w4 := (HS1.out.trans HS3.out).grown hg4 (fun k hk => .inr (World.ownsRow.lt HO3.out k hk).1)
      obtain ⟨ls, hls⟩ : ∃ ls, us ++ [(⟨#[67, 111, 110, 116, 101, 110, 116, 45, 76, 101, 110, 103, 116, 104]⟩, itoB k)] = ls := ⟨_, rfl⟩
      have HLS : Hid (ls = unframedF fs ++ reqLenF m k) := Lib.hid (by rw [← hls, HUS.out]; unfold reqLenF; rw [if_pos (by exact .inl (by rw [HP.out, HE.out, HE2.out]; rfl))]; try rfl)
      obtain ⟨f1, f2, f3⟩ : ls.length ≤ 1000 ∧ (∀ j (h : j < ls.length), ls[j].1.size ≤ 1000000 ∧ ls[j].2.size ≤ 1000000) ∧ (linesF ls).length ≤ 100000 := by
        have := fit_len (n := k) HFIT.out (by omega) [(nCL, itoB k)] (.inr rfl)
        rw [HUS.out] at this
        rw [← hls]
        exact this
      rw [hls] at hown4
      rw [show us.length + 1 = ls.length from by rw [← hls]; simp] at hown4
      obtain ⟨fa4, fc4, hv4, hfi4⟩ := rowF_shape hown4
      subst hv4
      have HS4 := Lib.hid hs4
      have HWW4 : Hid (Spares nowhere w w4) := Lib.hid (HS0.out.trans hs4)
      have HB4 := Lib.hid (hs4.heap HB0.out (fun h => h))
      have CM : Hid (Calls Tryz.prog 31 #[.string Y, .slice fa4 ls.length fc4, .slice ab k cb] w4 (MsgPost (msgT Y.data.toList ls body) w4)) := Lib.hid (message_any Y ls body fa4 ab fc4 cb ls.length k w4 rfl HK.out hfi4 (HAT.out.spares' HWW4.out (fun _ _ _ _ h => h)) HNIL.out hYs (by omega) f2 f3 (by have := HFIT.out.bod; omega))
      have z0 : w4.cell? ⟨g, 0, none⟩ = some (.string m) := (Lib.cell_of_heap HB4.out 0).trans rfl
      have z1 : w4.cell? ⟨g, 1, none⟩ = some (.string t) := (Lib.cell_of_heap HB4.out 1).trans rfl
      have z3 : w4.cell? ⟨g, 3, none⟩ = some (.slice ab k cb) := (Lib.cell_of_heap HB4.out 3).trans rfl
      clear hown4 hs4 hfi4 hls f1 f2 f3 hg4
      go_wp2_with fail
      refine CM.out.mono ?_
      rintro e5 w5 hM
      have HM := Lib.hid (msg_up hM HWW4.out (T' := reqTextF m t fs body) (by unfold reqTextF; rw [HYD.out, HLS.out, HK.out]))
      obtain ⟨v5, rfl, _⟩ := hM
      go_wp2
      go_ret
      exact HM.out
    | false =>
      cases e3 : (m.toList == [80, 65, 84, 67, 72]) with
      | true =>
        have HE := Lib.hid e1
        have HE2 := Lib.hid e2
        have HE3 := Lib.hid e3
        go_enter Tryz.func13, Tryz.ntmps13
        go_upto_region 1 with (fail)
        rw [HW0.out, HG.out]
        go_wp2_with fail
        refine CU.mono ?_
        rintro _ w1 ⟨v, rfl, hown, hb1⟩
        have hs1 : Spares nowhere w0 w1 := Below.spares hb1 (fun k hk => .inr hk)
        have HO := Lib.hid hown
        have HS1 := Lib.hid hs1
        have HB1 := Lib.hid (hs1.heap HB0.out (fun h => h))
        have y0' : w1.cell? ⟨g, 0, none⟩ = some (.string m) := (Lib.cell_of_heap HB1.out 0).trans rfl
        have y1' : w1.cell? ⟨g, 1, none⟩ = some (.string t) := (Lib.cell_of_heap HB1.out 1).trans rfl
        have y3' : w1.cell? ⟨g, 3, none⟩ = some (.slice ab k cb) := (Lib.cell_of_heap HB1.out 3).trans rfl
        clear hown hb1 hs1 CU
        go_wp2_with fail
        refine (CLN.out w1 (HS0.out.trans HS1.out)).mono ?_
        rintro _ w2 ⟨rfl, hs2⟩
        have HI3 := Lib.hid (one_len w2 ⟨#[67, 111, 110, 116, 101, 110, 116, 45, 76, 101, 110, 103, 116, 104]⟩ (itoB k))
        have hs3 : Spares nowhere w1 (w2.alloc (.cells #[.string ⟨#[67, 111, 110, 116, 101, 110, 116, 45, 76, 101, 110, 103, 116, 104]⟩, .string (itoB k)] 59)) := hs2.alloc _
        have HS3 := Lib.hid hs3
        have HO3 := Lib.hid (hs3.own HO.out (fun _ _ h => h))
        have HL3 : Hid (us.length + 1 ≤ 1000000000) := Lib.hid (by have h1 := unframed_len fs; rw [HUS.out] at h1; have := HFIT.out.len; omega)
        clear hs2 hs3
        go_wp2_with (at_builtin; refine wpList_append_fields rfl _ _ rfl w0.heap.size _ v us rfl HO3.out (HS1.out.trans HS3.out).size (some ⟨w2.heap.size, 0, none⟩) 1 1 _ rfl rfl HI3.out (fun e => by cases e) (by simpa using HL3.out) ?_)
        intro v4 w4 hown4 hg4
        have hs4 : Spares nowhere w0 w4 := (HS1.out.trans HS3.out).grown hg4 (fun k hk => .inr (World.ownsRow.lt HO3.out k hk).1)
        obtain ⟨ls, hls⟩ : ∃ ls, us ++ [(⟨#[67, 111, 110, 116, 101, 110, 116, 45, 76, 101, 110, 103, 116, 104]⟩, itoB k)] = ls := ⟨_, rfl⟩
        have HLS : Hid (ls = unframedF fs ++ reqLenF m k) := Lib.hid (by rw [← hls, HUS.out]; unfold reqLenF; rw [if_pos (by exact .inl (by rw [HP.out, HE.out, HE2.out, HE3.out]; rfl))]; try rfl)
        obtain ⟨f1, f2, f3⟩ : ls.length ≤ 1000 ∧ (∀ j (h : j < ls.length), ls[j].1.size ≤ 1000000 ∧ ls[j].2.size ≤ 1000000) ∧ (linesF ls).length ≤ 100000 := by
          have := fit_len (n := k) HFIT.out (by omega) [(nCL, itoB k)] (.inr rfl)
          rw [HUS.out] at this
          rw [← hls]
          exact this
        rw [hls] at hown4
        rw [show us.length + 1 = ls.length from by rw [← hls]; simp] at hown4
        obtain ⟨fa4, fc4, hv4, hfi4⟩ := rowF_shape hown4
        subst hv4
        have HS4 := Lib.hid hs4
        have HWW4 : Hid (Spares nowhere w w4) := Lib.hid (HS0.out.trans hs4)
        have HB4 := Lib.hid (hs4.heap HB0.out (fun h => h))
        have CM : Hid (Calls Tryz.prog 31 #[.string Y, .slice fa4 ls.length fc4, .slice ab k cb] w4 (MsgPost (msgT Y.data.toList ls body) w4)) := Lib.hid (message_any Y ls body fa4 ab fc4 cb ls.length k w4 rfl HK.out hfi4 (HAT.out.spares' HWW4.out (fun _ _ _ _ h => h)) HNIL.out hYs (by omega) f2 f3 (by have := HFIT.out.bod; omega))
        have z0 : w4.cell? ⟨g, 0, none⟩ = some (.string m) := (Lib.cell_of_heap HB4.out 0).trans rfl
        have z1 : w4.cell? ⟨g, 1, none⟩ = some (.string t) := (Lib.cell_of_heap HB4.out 1).trans rfl
        have z3 : w4.cell? ⟨g, 3, none⟩ = some (.slice ab k cb) := (Lib.cell_of_heap HB4.out 3).trans rfl
        clear hown4 hs4 hfi4 hls f1 f2 f3 hg4
        go_wp2_with fail
        refine CM.out.mono ?_
        rintro e5 w5 hM
        have HM := Lib.hid (msg_up hM HWW4.out (T' := reqTextF m t fs body) (by unfold reqTextF; rw [HYD.out, HLS.out, HK.out]))
        obtain ⟨v5, rfl, _⟩ := hM
        go_wp2
        go_ret
        exact HM.out
      | false =>
        by_cases hk0 : 0 < k
        · have d0 : (0 : Int) < (k : Int) := by omega
          go_enter Tryz.func13, Tryz.ntmps13
          go_upto_region 1 with (fail)
          rw [HW0.out, HG.out]
          go_wp2_with fail
          refine CU.mono ?_
          rintro _ w1 ⟨v, rfl, hown, hb1⟩
          have hs1 : Spares nowhere w0 w1 := Below.spares hb1 (fun k hk => .inr hk)
          have HO := Lib.hid hown
          have HS1 := Lib.hid hs1
          have HB1 := Lib.hid (hs1.heap HB0.out (fun h => h))
          have y0' : w1.cell? ⟨g, 0, none⟩ = some (.string m) := (Lib.cell_of_heap HB1.out 0).trans rfl
          have y1' : w1.cell? ⟨g, 1, none⟩ = some (.string t) := (Lib.cell_of_heap HB1.out 1).trans rfl
          have y3' : w1.cell? ⟨g, 3, none⟩ = some (.slice ab k cb) := (Lib.cell_of_heap HB1.out 3).trans rfl
          clear hown hb1 hs1 CU
          go_wp2_with fail
          refine (CLN.out w1 (HS0.out.trans HS1.out)).mono ?_
          rintro _ w2 ⟨rfl, hs2⟩
          have HI3 := Lib.hid (one_len w2 ⟨#[67, 111, 110, 116, 101, 110, 116, 45, 76, 101, 110, 103, 116, 104]⟩ (itoB k))
          have hs3 : Spares nowhere w1 (w2.alloc (.cells #[.string ⟨#[67, 111, 110, 116, 101, 110, 116, 45, 76, 101, 110, 103, 116, 104]⟩, .string (itoB k)] 59)) := hs2.alloc _
          have HS3 := Lib.hid hs3
          have HO3 := Lib.hid (hs3.own HO.out (fun _ _ h => h))
          have HL3 : Hid (us.length + 1 ≤ 1000000000) := Lib.hid (by have h1 := unframed_len fs; rw [HUS.out] at h1; have := HFIT.out.len; omega)
          clear hs2 hs3
          go_wp2_with (at_builtin; refine wpList_append_fields rfl _ _ rfl w0.heap.size _ v us rfl HO3.out (HS1.out.trans HS3.out).size (some ⟨w2.heap.size, 0, none⟩) 1 1 _ rfl rfl HI3.out (fun e => by cases e) (by simpa using HL3.out) ?_)
          intro v4 w4 hown4 hg4
          have hs4 : Spares nowhere w0 w4 := (HS1.out.trans HS3.out).grown hg4 (fun k hk => .inr (World.ownsRow.lt HO3.out k hk).1)
          obtain ⟨ls, hls⟩ : ∃ ls, us ++ [(⟨#[67, 111, 110, 116, 101, 110, 116, 45, 76, 101, 110, 103, 116, 104]⟩, itoB k)] = ls := ⟨_, rfl⟩
          have HLS : Hid (ls = unframedF fs ++ reqLenF m k) := Lib.hid (by rw [← hls, HUS.out]; unfold reqLenF; rw [if_pos (by exact .inr hk0)]; try rfl)
          obtain ⟨f1, f2, f3⟩ : ls.length ≤ 1000 ∧ (∀ j (h : j < ls.length), ls[j].1.size ≤ 1000000 ∧ ls[j].2.size ≤ 1000000) ∧ (linesF ls).length ≤ 100000 := by
            have := fit_len (n := k) HFIT.out (by omega) [(nCL, itoB k)] (.inr rfl)
            rw [HUS.out] at this
            rw [← hls]
            exact this
          rw [hls] at hown4
          rw [show us.length + 1 = ls.length from by rw [← hls]; simp] at hown4
          obtain ⟨fa4, fc4, hv4, hfi4⟩ := rowF_shape hown4
          subst hv4
          have HS4 := Lib.hid hs4
          have HWW4 : Hid (Spares nowhere w w4) := Lib.hid (HS0.out.trans hs4)
          have HB4 := Lib.hid (hs4.heap HB0.out (fun h => h))
          have CM : Hid (Calls Tryz.prog 31 #[.string Y, .slice fa4 ls.length fc4, .slice ab k cb] w4 (MsgPost (msgT Y.data.toList ls body) w4)) := Lib.hid (message_any Y ls body fa4 ab fc4 cb ls.length k w4 rfl HK.out hfi4 (HAT.out.spares' HWW4.out (fun _ _ _ _ h => h)) HNIL.out hYs (by omega) f2 f3 (by have := HFIT.out.bod; omega))
          have z0 : w4.cell? ⟨g, 0, none⟩ = some (.string m) := (Lib.cell_of_heap HB4.out 0).trans rfl
          have z1 : w4.cell? ⟨g, 1, none⟩ = some (.string t) := (Lib.cell_of_heap HB4.out 1).trans rfl
          have z3 : w4.cell? ⟨g, 3, none⟩ = some (.slice ab k cb) := (Lib.cell_of_heap HB4.out 3).trans rfl
          clear hown4 hs4 hfi4 hls f1 f2 f3 hg4
          go_wp2_with fail
          refine CM.out.mono ?_
          rintro e5 w5 hM
          have HM := Lib.hid (msg_up hM HWW4.out (T' := reqTextF m t fs body) (by unfold reqTextF; rw [HYD.out, HLS.out, HK.out]))
          obtain ⟨v5, rfl, _⟩ := hM
          go_wp2
          go_ret
          exact HM.out
        · have d0 : ¬ (0 : Int) < (k : Int) := by omega
          have HE : Hid (putM m = false) := Lib.hid (by rw [HP.out, e1, e2, e3]; rfl)
          go_enter Tryz.func13, Tryz.ntmps13
          go_upto_region 1 with (fail)
          rw [HW0.out, HG.out]
          go_wp2_with fail
          refine CU.mono ?_
          rintro _ w1 ⟨v, rfl, hown, hb1⟩
          have hs1 : Spares nowhere w0 w1 := Below.spares hb1 (fun k hk => .inr hk)
          have HO := Lib.hid hown
          have HS1 := Lib.hid hs1
          have HB1 := Lib.hid (hs1.heap HB0.out (fun h => h))
          have y0' : w1.cell? ⟨g, 0, none⟩ = some (.string m) := (Lib.cell_of_heap HB1.out 0).trans rfl
          have y1' : w1.cell? ⟨g, 1, none⟩ = some (.string t) := (Lib.cell_of_heap HB1.out 1).trans rfl
          have y3' : w1.cell? ⟨g, 3, none⟩ = some (.slice ab k cb) := (Lib.cell_of_heap HB1.out 3).trans rfl
          clear hown hb1 hs1 CU
          have hown4 : w1.ownsRow w0.heap.size 59 2 v (us ++ []).length (fieldCells (us ++ [])) := by rw [List.append_nil]; exact HO.out
          have hs4 : Spares nowhere w0 w1 := HS1.out
          obtain ⟨ls, hls⟩ : ∃ ls, us ++ [] = ls := ⟨_, rfl⟩
          have HLS : Hid (ls = unframedF fs ++ reqLenF m k) := Lib.hid (by rw [← hls, HUS.out]; unfold reqLenF; rw [if_neg (by rw [HE.out]; rintro (h | h); cases h; omega)]; try rfl)
          obtain ⟨f1, f2, f3⟩ : ls.length ≤ 1000 ∧ (∀ j (h : j < ls.length), ls[j].1.size ≤ 1000000 ∧ ls[j].2.size ≤ 1000000) ∧ (linesF ls).length ≤ 100000 := by
            have := fit_len (n := k) HFIT.out (by omega) [] (.inl rfl)
            rw [HUS.out] at this
            rw [← hls]
            exact this
          rw [hls] at hown4
          obtain ⟨fa4, fc4, hv4, hfi4⟩ := rowF_shape hown4
          subst hv4
          have HS4 := Lib.hid hs4
          have HWW4 : Hid (Spares nowhere w w1) := Lib.hid (HS0.out.trans hs4)
          have HB4 := Lib.hid (hs4.heap HB0.out (fun h => h))
          have CM : Hid (Calls Tryz.prog 31 #[.string Y, .slice fa4 ls.length fc4, .slice ab k cb] w1 (MsgPost (msgT Y.data.toList ls body) w1)) := Lib.hid (message_any Y ls body fa4 ab fc4 cb ls.length k w1 rfl HK.out hfi4 (HAT.out.spares' HWW4.out (fun _ _ _ _ h => h)) HNIL.out hYs (by omega) f2 f3 (by have := HFIT.out.bod; omega))
          have z0 : w1.cell? ⟨g, 0, none⟩ = some (.string m) := (Lib.cell_of_heap HB4.out 0).trans rfl
          have z1 : w1.cell? ⟨g, 1, none⟩ = some (.string t) := (Lib.cell_of_heap HB4.out 1).trans rfl
          have z3 : w1.cell? ⟨g, 3, none⟩ = some (.slice ab k cb) := (Lib.cell_of_heap HB4.out 3).trans rfl
          clear hown4 hs4 hfi4 hls f1 f2 f3
          go_wp2_with fail
          refine CM.out.mono ?_
          rintro e5 w5 hM
          have HM := Lib.hid (msg_up hM HWW4.out (T' := reqTextF m t fs body) (by unfold reqTextF; rw [HYD.out, HLS.out, HK.out]))
          obtain ⟨v5, rfl, _⟩ := hM
          go_wp2
          go_ret
          exact HM.out
end Go.Proofs.YtjpmofnnjdhamaaGreatDoor
namespace Go.Proofs.YtjpmofnnjdhamaaGreatDoor
open Go.RowKit HeadMath NormMath NormS HeadS ChunkMath HttpMath

def headIs (method : ByteArray) : Bool := method.toList == [72, 69, 65, 68]
theorem headIs_eq (method : ByteArray) : headIs method = (method.data.toList == headM.data.toList) := by unfold headIs; rw [Lib.toList_data]; rfl
def rspLenG (st : Int) (fs : Fs) (n : Nat) (method : ByteArray) : Fs :=
  if headIs method = true ∨ st = 304 then (clOf (getF nCL fs)) else [(nCL, itoB n)]
theorem rspLenF_eq (st : Int) (fs : Fs) (n : Nat) (method : ByteArray) : rspLenF st fs n method = if st = 204 ∨ st < 200 then [] else rspLenG st fs n method := by
  unfold rspLenF rspLenG
  rw [headIs_eq]
theorem rspLenG_get {st : Int} {fs : Fs} {n : Nat} {method : ByteArray} (h : headIs method = true ∨ st = 304) : rspLenG st fs n method = clOf (getF nCL fs) := by unfold rspLenG; rw [if_pos h]
theorem rspLenG_len {st : Int} {fs : Fs} {n : Nat} {method : ByteArray} (h : headIs method = false) (h2 : st ≠ 304) : rspLenG st fs n method = [(nCL, itoB n)] := by
  unfold rspLenG
  rw [if_neg]
  rintro (e | e)
  · rw [h] at e; cases e
  · exact h2 e
theorem get_yes {l : Fs} {n v : ByteArray} {a : Option Addr} {cap : Nat} {w : World} (hv : getF n l = some v) (hin : FieldsIn w.heap.size w a l) (hsm : SmallF l) (hle : l.length ≤ 140737488351232) (hn : n.size ≤ 140737488351232) :
    Calls Tryz.prog 65 #[.slice a l.length cap, .string n] w fun e w' => e = .returned (.tuple #[.string v, .bool true]) ∧ Below w.heap.size w w' := by
  refine (get_any l n a cap w hin hsm hle hn).mono ?_
  rintro e w' ⟨hb, ⟨h, _⟩ | ⟨v', h, rfl⟩⟩
  · rw [hv] at h; cases h
  · rw [hv] at h; injection h with h; subst h; exact ⟨rfl, hb⟩
theorem get_not {l : Fs} {n : ByteArray} {a : Option Addr} {cap : Nat} {w : World} (hv : getF n l = none) (hin : FieldsIn w.heap.size w a l) (hsm : SmallF l) (hle : l.length ≤ 140737488351232) (hn : n.size ≤ 140737488351232) :
    Calls Tryz.prog 65 #[.slice a l.length cap, .string n] w fun e w' => e = .returned (.tuple #[.string { data := #[] }, .bool false]) ∧ Below w.heap.size w w' := by
  refine (get_any l n a cap w hin hsm hle hn).mono ?_
  rintro e w' ⟨hb, ⟨_, rfl⟩ | ⟨v', h, _⟩⟩
  · exact ⟨rfl, hb⟩
  · rw [hv] at h; cases h
def RLen (ls : Fs) (w : World) (e : Ending) (w' : World) : Prop := ∃ a c, e = .returned (.slice a ls.length c) ∧ FieldsIn w'.heap.size w' a ls ∧ (a = none → c = 0) ∧ Spares nowhere w w'
theorem rlen_one {w w1 : World} {v : ByteArray} {ls : Fs} (hl : ls = [(nCL, v)]) (hs : Spares nowhere w w1) : RLen ls w (.returned (.slice (some ⟨w1.heap.size, 0, none⟩) 1 1)) (w1.alloc (.cells #[.string ⟨#[67, 111, 110, 116, 101, 110, 116, 45, 76, 101, 110, 103, 116, 104]⟩, .string v] 59)) := by
  subst hl
  refine ⟨_, _, rfl, ?_, (fun e => by cases e), hs.alloc _⟩
  have := one_len w1 nCL v
  have hz : (w1.alloc (.cells #[.string ⟨#[67, 111, 110, 116, 101, 110, 116, 45, 76, 101, 110, 103, 116, 104]⟩, .string v] 59)).heap.size = w1.heap.size + 1 := by simp
  rw [hz]
  exact this
theorem rlen_none {w w1 : World} {ls : Fs} (hl : ls = []) (hs : Spares nowhere w w1) : RLen ls w (.returned (.slice none 0 0)) w1 := by
  subst hl
  exact ⟨none, 0, rfl, (fun j h => absurd h (Nat.not_lt_zero _)), (fun _ => rfl), hs⟩
set_option maxRecDepth 100000 in
set_option maxHeartbeats 8000000 in
theorem responseLength_any (st : Int) (r method : ByteArray) (fs : Fs) (fa ab : Option Addr) (fc cb n k : Nat) (w : World) (hn : fs.length = n) (hin : FieldsIn w.heap.size w fa fs) (hsm : SmallF fs) (hl : fs.length ≤ 1000) (hk : k ≤ 90000) (hT : TabH w) :
    Calls Tryz.prog 35 #[.agg #[.int .i64 st, .string r, .slice fa n fc, .slice ab k cb], .string method] w (RLen (rspLenG st fs k method) w) := by
  obtain ⟨w0, hw0⟩ : ∃ w0, w.alloc (.cells #[.int .i64 st, .string r, .slice fa n fc, .slice ab k cb] 27) = w0 := ⟨_, rfl⟩
  have hs0 : Spares nowhere w w0 := by rw [← hw0]; exact (Spares.refl _ _).alloc _
  obtain ⟨g, hg⟩ : ∃ g, w.heap.size = g := ⟨_, rfl⟩
  have hb0 : w0.heap[g]? = some (.cells #[.int .i64 st, .string r, .slice fa n fc, .slice ab k cb] 27 (0, 0)) := by rw [← hw0, ← hg]; exact heap_alloc_new _ _
  have y0 : w0.cell? ⟨g, 0, none⟩ = some (.int .i64 st) := (Lib.cell_of_heap hb0 0).trans rfl
  have y2 : w0.cell? ⟨g, 2, none⟩ = some (.slice fa n fc) := (Lib.cell_of_heap hb0 2).trans rfl
  have y3 : w0.cell? ⟨g, 3, none⟩ = some (.slice ab k cb) := (Lib.cell_of_heap hb0 3).trans rfl
  have CLN := lengthField_any k w0 (by omega) (hT.spares hs0 (fun h => h))
  unfold LenFPost nCL at CLN
  have hin0 := FieldsIn.quiet hin (Nat.le_refl _) hs0 hs0.size
  have HGET := Lib.hid (fun v (hv : getF nCL fs = some v) => get_yes (cap := fc) hv hin0 hsm (by omega) (by decide))
  have HNO := Lib.hid (fun (hv : getF nCL fs = none) => get_not (cap := fc) hv hin0 hsm (by omega) (by decide))
  rw [hn] at HGET HNO
  unfold nCL at HGET HNO
  have HG := Lib.hid hg
  have HW0 := Lib.hid hw0
  have HS0 := Lib.hid hs0
  obtain ⟨ls, hls⟩ : ∃ ls, rspLenG st fs k method = ls := ⟨_, rfl⟩
  have HLS := Lib.hid hls
  rw [hls]
  clear hs0 hb0 hg hin hin0 hsm hl hn hT hw0 hls
  cases e1 : (method.toList == [72, 69, 65, 68]) with
  | true =>
    have e2 : (method.toList != [72, 69, 65, 68]) = false := by unfold bne; rw [e1]; rfl
    have HE := Lib.hid e1
    cases hv : getF ⟨#[67, 111, 110, 116, 101, 110, 116, 45, 76, 101, 110, 103, 116, 104]⟩ fs with
    | some v =>
      have CG := HGET.out v hv
      have HL1 : Hid (ls = [(nCL, v)]) := Lib.hid (by
        have h := rspLenG_get (st := st) (fs := fs) (n := k) (method := method) (.inl HE.out)
        rw [show getF nCL fs = some v from hv] at h
        exact HLS.out.symm.trans h)
      clear hv HGET HNO CLN
      go_enter Tryz.func35, Tryz.ntmps35
      go_upto_region 1 with (fail)
      rw [HW0.out, HG.out]
      go_wp2_with fail
      refine CG.mono ?_
      rintro _ w1 ⟨rfl, hb1⟩
      have HS1 := Lib.hid (HS0.out.trans (Below.spares (F := nowhere) hb1 (fun k hk => .inr hk)))
      clear hb1 CG
      go_wp2
      go_ret
      exact rlen_one HL1.out HS1.out
    | none =>
      have CG := HNO.out hv
      have HL1 : Hid (ls = []) := Lib.hid (by
        have h := rspLenG_get (st := st) (fs := fs) (n := k) (method := method) (.inl HE.out)
        rw [show getF nCL fs = none from hv] at h
        exact HLS.out.symm.trans h)
      clear hv HGET HNO CLN
      go_enter Tryz.func35, Tryz.ntmps35
      go_upto_region 1 with (fail)
      rw [HW0.out, HG.out]
      go_wp2_with fail
      refine CG.mono ?_
      rintro _ w1 ⟨rfl, hb1⟩
      have HS1 := Lib.hid (HS0.out.trans (Below.spares (F := nowhere) hb1 (fun k hk => .inr hk)))
      clear hb1 CG
      go_wp2
      go_ret
      exact rlen_none HL1.out HS1.out
  | false =>
    have e2 : (method.toList != [72, 69, 65, 68]) = true := by unfold bne; rw [e1]; rfl
    have HE := Lib.hid e1
    by_cases h304 : st = 304
    · have d1 : (st == 304) = true := by rw [h304]; rfl
      have d2 : (st != 304) = false := by unfold bne; rw [d1]; rfl
      have H304 := Lib.hid h304
      clear h304
      cases hv : getF ⟨#[67, 111, 110, 116, 101, 110, 116, 45, 76, 101, 110, 103, 116, 104]⟩ fs with
      | some v =>
        have CG := HGET.out v hv
        have HL1 : Hid (ls = [(nCL, v)]) := Lib.hid (by
          have h := rspLenG_get (st := st) (fs := fs) (n := k) (method := method) (.inr H304.out)
          rw [show getF nCL fs = some v from hv] at h
          exact HLS.out.symm.trans h)
        clear hv HGET HNO CLN
        go_enter Tryz.func35, Tryz.ntmps35
        go_upto_region 1 with (fail)
        rw [HW0.out, HG.out]
        go_wp2_with fail
        refine CG.mono ?_
        rintro _ w1 ⟨rfl, hb1⟩
        have HS1 := Lib.hid (HS0.out.trans (Below.spares (F := nowhere) hb1 (fun k hk => .inr hk)))
        clear hb1 CG
        go_wp2
        go_ret
        exact rlen_one HL1.out HS1.out
      | none =>
        have CG := HNO.out hv
        have HL1 : Hid (ls = []) := Lib.hid (by
          have h := rspLenG_get (st := st) (fs := fs) (n := k) (method := method) (.inr H304.out)
          rw [show getF nCL fs = none from hv] at h
          exact HLS.out.symm.trans h)
        clear hv HGET HNO CLN
        go_enter Tryz.func35, Tryz.ntmps35
        go_upto_region 1 with (fail)
        rw [HW0.out, HG.out]
        go_wp2_with fail
        refine CG.mono ?_
        rintro _ w1 ⟨rfl, hb1⟩
        have HS1 := Lib.hid (HS0.out.trans (Below.spares (F := nowhere) hb1 (fun k hk => .inr hk)))
        clear hb1 CG
        go_wp2
        go_ret
        exact rlen_none HL1.out HS1.out
    · have d1 : (st == 304) = false := by rw [beq_eq_false_iff_ne]; exact h304
      have d2 : (st != 304) = true := by unfold bne; rw [d1]; rfl
      have HL1 : Hid (ls = [(nCL, itoB k)]) := Lib.hid (by rw [← HLS.out, rspLenG_len HE.out h304])
      clear HGET HNO
      go_enter Tryz.func35, Tryz.ntmps35
      go_upto_region 1 with (fail)
      rw [HW0.out, HG.out]
      go_wp2_with fail
      refine CLN.mono ?_
      rintro _ w1 ⟨rfl, hs1⟩
      have HS1 := Lib.hid (HS0.out.trans hs1)
      clear hs1 CLN
      go_wp2
      go_ret
      exact rlen_one HL1.out HS1.out
theorem lenG_one (st : Int) (fs : Fs) (n : Nat) (method : ByteArray) : (rspLenG st fs n method).length ≤ 1 := by
  unfold rspLenG
  split
  · cases getF nCL fs <;> simp [clOf]
  · simp
theorem lenG_shape (st : Int) (fs : Fs) (n : Nat) (method : ByteArray) : rspLenG st fs n method = [] ∨ rspLenG st fs n method = [(nCL, itoB n)] ∨ ∃ v, rspLenG st fs n method = [(nCL, v)] ∧ getF nCL fs = some v := by
  unfold rspLenG
  split
  · cases h : getF nCL fs with
    | none => exact .inl rfl
    | some v => exact .inr (.inr ⟨v, rfl, rfl⟩)
  · exact .inr (.inl rfl)
theorem getF_mem {n v : ByteArray} {fs : Fs} (h : getF n fs = some v) : ∃ f ∈ fs, f.2 = v := by
  unfold getF at h
  cases hf : fs.find? (isNamed n) with
  | none => rw [hf] at h; cases h
  | some f =>
    rw [hf] at h
    exact ⟨f, List.mem_of_find?_eq_some hf, by simpa using h⟩
theorem fit_one {fs : Fs} {body : Bs} {v : ByteArray} (h : FitM fs body) (hv : v.size ≤ 1000000) (hl : v.size ≤ 9000) : (unframedF fs ++ [(nCL, v)]).length ≤ 1000 ∧ (∀ j (h : j < (unframedF fs ++ [(nCL, v)]).length), (unframedF fs ++ [(nCL, v)])[j].1.size ≤ 1000000 ∧ (unframedF fs ++ [(nCL, v)])[j].2.size ≤ 1000000) ∧ (linesF (unframedF fs ++ [(nCL, v)])).length ≤ 100000 := by
  have h1 := unframed_len fs
  have h2 := unframed_lines fs
  have h3 := h.len
  have h4 := h.lin
  have hz : nCL.size = 14 := rfl
  refine ⟨by rw [List.length_append]; simp; omega, fun j hj => ?_, ?_⟩
  · rcases List.mem_append.1 (List.getElem_mem hj) with hm | hm
    · exact h.sz _ (unframed_mem _ hm)
    · have e : (unframedF fs ++ [(nCL, v)])[j] = (nCL, v) := by simpa using hm
      rw [e]
      exact ⟨by rw [hz]; omega, hv⟩
  · rw [linesF_app, linesF_one, List.length_append]
    have : (HeadS.lineF (nCL, v)).length = nCL.size + v.size + 4 := by
      unfold HeadS.lineF
      simp only [List.length_append, List.length_cons, List.length_nil, size_list]
      omega
    rw [this, hz]
    omega
theorem fit_rsp {fs : Fs} {body : Bs} {n : Nat} (h : FitM fs body) (hn : n ≤ 100000) (st : Int) (method : ByteArray) : (unframedF fs ++ rspLenF st fs n method).length ≤ 1000 ∧ (∀ j (h : j < (unframedF fs ++ rspLenF st fs n method).length), (unframedF fs ++ rspLenF st fs n method)[j].1.size ≤ 1000000 ∧ (unframedF fs ++ rspLenF st fs n method)[j].2.size ≤ 1000000) ∧ (linesF (unframedF fs ++ rspLenF st fs n method)).length ≤ 100000 := by
  have key : ∀ l : Fs, (l = [] ∨ l = [(nCL, itoB n)] ∨ ∃ v, l = [(nCL, v)] ∧ getF nCL fs = some v) → (unframedF fs ++ l).length ≤ 1000 ∧ (∀ j (h : j < (unframedF fs ++ l).length), (unframedF fs ++ l)[j].1.size ≤ 1000000 ∧ (unframedF fs ++ l)[j].2.size ≤ 1000000) ∧ (linesF (unframedF fs ++ l)).length ≤ 100000 := by
    intro l hl
    rcases hl with hl | hl | ⟨v, rfl, hv⟩
    · exact fit_len h hn l (.inl hl)
    · exact fit_len h hn l (.inr hl)
    · obtain ⟨f, hf, rfl⟩ := getF_mem hv
      have := h.val f hf
      exact fit_one h (by omega) this
  refine key _ ?_
  rw [rspLenF_eq]
  split
  · exact .inl rfl
  · exact lenG_shape _ _ _ _
set_option maxRecDepth 100000 in
set_option maxHeartbeats 16000000 in
theorem responseBytes_any (st : Int) (reason method : ByteArray) (fs : Fs) (body : Bs) (fa ab : Option Addr) (fc cb n k : Nat) (w : World) (h0 : -9223372036854775808 ≤ st) (h1 : st ≤ 9223372036854775807) (hn : fs.length = n) (hk : body.length = k) (hin : FieldsIn w.heap.size w fa fs) (hat : BytesAt w ab body) (hnil : ab = none → cb = 0) (hr : reason.size ≤ 4000) (hfit : FitM fs body) (hT : TabH w) :
    Calls Tryz.prog 15 #[.agg #[.int .i64 st, .string reason, .slice fa n fc, .slice ab k cb], .string method] w (MsgPost (rspTextF st reason fs body method) w) := by
  obtain ⟨w0, hw0⟩ : ∃ w0, w.alloc (.cells #[.int .i64 st, .string reason, .slice fa n fc, .slice ab k cb] 27) = w0 := ⟨_, rfl⟩
  have hs0 : Spares nowhere w w0 := by rw [← hw0]; exact (Spares.refl _ _).alloc _
  obtain ⟨g, hg⟩ : ∃ g, w.heap.size = g := ⟨_, rfl⟩
  have hb0 : w0.heap[g]? = some (.cells #[.int .i64 st, .string reason, .slice fa n fc, .slice ab k cb] 27 (0, 0)) := by rw [← hw0, ← hg]; exact heap_alloc_new _ _
  have hin0 := FieldsIn.quiet hin (Nat.le_refl _) hs0 hs0.size
  have CU := unframed_any fs fa fc n w0 hn.symm hin0 hfit.small (by have := hfit.len; omega)
  obtain ⟨us, hus⟩ : ∃ us, unframedF fs = us := ⟨_, rfl⟩
  rw [hus] at CU
  unfold FieldPost at CU
  have hkk : k ≤ 90000 := by have := hfit.bod; omega
  have CRL : Hid (∀ W, Spares nowhere w W → Calls Tryz.prog 35 #[.agg #[.int .i64 st, .string reason, .slice fa n fc, .slice ab k cb], .string method] W (RLen (rspLenG st fs k method) W)) := Lib.hid (fun W h => responseLength_any st reason method fs fa ab fc cb n k W hn (FieldsIn.quiet hin (Nat.le_refl _) h h.size) hfit.small (by have := hfit.len; omega) hkk (hT.spares h (fun h => h)))
  have CDG : Hid (∀ W, Spares nowhere w W → Calls Tryz.prog 36 #[.int .i64 st] W (DigPost (stat3 st) W)) := Lib.hid (fun W h => digits_any st W h0 h1 (hT.spares h (fun h => h)))
  unfold DigPost at CDG
  obtain ⟨DG, hDG⟩ : ∃ DG : ByteArray, (⟨(digs (stat3 st)).toArray⟩ : ByteArray) = DG := ⟨_, rfl⟩
  rw [hDG] at CDG
  have hDs : DG.size = 3 := by rw [← hDG]; rfl
  have zv : ({ data := #[72, 84, 84, 80, 47, 49, 46, 49, 32] } : ByteArray).size = 9 := rfl
  have z1 : ({ data := #[32] } : ByteArray).size = 1 := rfl
  obtain ⟨A1, hA1⟩ : ∃ A : ByteArray, ({ data := #[72, 84, 84, 80, 47, 49, 46, 49, 32] } : ByteArray) ++ DG = A := ⟨_, rfl⟩
  have zA1 : A1.size = 12 := by rw [← hA1, ByteArray.size_append, zv, hDs]
  obtain ⟨A2, hA2⟩ : ∃ A : ByteArray, A1 ++ ({ data := #[32] } : ByteArray) = A := ⟨_, rfl⟩
  have zA2 : A2.size = 13 := by rw [← hA2, ByteArray.size_append, zA1, z1]
  obtain ⟨A3, hA3⟩ : ∃ A : ByteArray, A2 ++ reason = A := ⟨_, rfl⟩
  have zA3 : A3.size ≤ 10000 := by rw [← hA3, ByteArray.size_append, zA2]; omega
  have r1 : ∀ w, (Op.stringOp .add ⟨#[72, 84, 84, 80, 47, 49, 46, 49, 32]⟩ DG).run Tryz.prog w = .ok (.string A1) w := fun w => hA1 ▸ run_string_add_sum w _ _ (by omega)
  have r2 : ∀ w, (Op.stringOp .add A1 ⟨#[32]⟩).run Tryz.prog w = .ok (.string A2) w := fun w => hA2 ▸ run_string_add_sum w _ _ (by omega)
  have r3 : ∀ w, (Op.stringOp .add A2 reason).run Tryz.prog w = .ok (.string A3) w := fun w => hA3 ▸ run_string_add_sum w _ _ (by omega)
  have HAD : Hid (A3.data.toList = respL (stat3 st) reason.data.toList) := Lib.hid (by
    rw [← hA3, ← hA2, ← hA1, ← hDG, ByteArray.data_append, ByteArray.data_append, ByteArray.data_append]
    unfold respL http11
    simp)
  have HR1 := Lib.hid r1
  have HR2 := Lib.hid r2
  have HR3 := Lib.hid r3
  have HZ3 : ¬ 9223372036854775807 < A2.size + reason.size := by omega
  obtain ⟨bb, hbb⟩ : ∃ bb, bodilessF st method = bb := ⟨_, rfl⟩
  have CB := fun W => bodiless_any st method W
  rw [hbb] at CB
  have HBB := Lib.hid hbb
  have HUS := Lib.hid hus
  have HB0 := Lib.hid hb0
  have HS0 := Lib.hid hs0
  have HG := Lib.hid hg
  have HW0 := Lib.hid hw0
  have HK := Lib.hid hk
  have HAT := Lib.hid hat
  have HNIL := Lib.hid hnil
  have HFIT := Lib.hid hfit
  have y0 : w0.cell? ⟨g, 0, none⟩ = some (.int .i64 st) := (Lib.cell_of_heap hb0 0).trans rfl
  have y2 : w0.cell? ⟨g, 2, none⟩ = some (.slice fa n fc) := (Lib.cell_of_heap hb0 2).trans rfl
  clear hin hin0 hat hnil hfit hT hb0 hs0 hg hus hk hn hw0 hbb r1 r2 r3 hDG hA1 hA2 hA3
  by_cases h204 : st = 204
  · have e204 : (st != 204) = false := by rw [h204]; rfl
    have e204' : (st == 204) = true := by rw [h204]; rfl
    have H204 := Lib.hid h204
    obtain rfl : bb = true := by rw [← HBB.out, h204]; unfold bodilessF; simp
    clear h204
    go_enter Tryz.func15, Tryz.ntmps15
    go_upto_region 1 with (fail)
    rw [HW0.out, HG.out]
    go_wp2_with fail
    refine CU.mono ?_
    rintro _ w1 ⟨v, rfl, hown, hb1⟩
    have hs1 : Spares nowhere w0 w1 := Below.spares hb1 (fun k hk => .inr hk)
    have HO := Lib.hid hown
    have HS1 := Lib.hid hs1
    have HB1 := Lib.hid (hs1.heap HB0.out (fun h => h))
    have u0 : w1.cell? ⟨g, 0, none⟩ = some (.int .i64 st) := (Lib.cell_of_heap HB1.out 0).trans rfl
    have u1 : w1.cell? ⟨g, 1, none⟩ = some (.string reason) := (Lib.cell_of_heap HB1.out 1).trans rfl
    have u2 : w1.cell? ⟨g, 2, none⟩ = some (.slice fa n fc) := (Lib.cell_of_heap HB1.out 2).trans rfl
    have u3 : w1.cell? ⟨g, 3, none⟩ = some (.slice ab k cb) := (Lib.cell_of_heap HB1.out 3).trans rfl
    clear hown hb1 hs1 CU
    obtain ⟨ls, hls⟩ : ∃ ls, us = ls := ⟨_, rfl⟩
    have HLS : Hid (ls = unframedF fs ++ rspLenF st fs k method) := Lib.hid (by rw [← hls, HUS.out, rspLenF_eq, if_pos (.inl H204.out)]; rw [List.append_nil])
    obtain ⟨f1, f2, f3⟩ : ls.length ≤ 1000 ∧ (∀ j (h : j < ls.length), ls[j].1.size ≤ 1000000 ∧ ls[j].2.size ≤ 1000000) ∧ (linesF ls).length ≤ 100000 := by
      rw [HLS.out]
      exact fit_rsp HFIT.out (by omega) st method
    have hown := HO.out
    rw [hls] at hown
    obtain ⟨fa4, fc4, hv4, hfi4⟩ := rowF_shape hown
    subst hv4
    have HWW : Hid (Spares nowhere w w1) := Lib.hid (HS0.out.trans HS1.out)
    have CMS : Hid (∀ x, Below w1.heap.size w1 x → Calls Tryz.prog 31 #[.string A3, .slice fa4 ls.length fc4, .slice none 0 0] x fun e w' => ∃ v, e = .returned v ∧ Hid (MsgPost (rspTextF st reason fs body method) w (.returned v) w') ∧ Below w1.heap.size w1 w') := Lib.hid (fun x hx => by
      have hsx : Spares nowhere w1 x := Below.spares hx (fun k hk => .inr hk)
      refine (message_any A3 ls [] fa4 none fc4 0 ls.length 0 x rfl rfl (FieldsIn.quiet hfi4 (Nat.le_refl _) hsx hsx.size) (fun j hj => absurd hj (Nat.not_lt_zero _)) (fun _ => rfl) zA3 (by omega) f2 f3 (by simp)).mono ?_
      intro e w' hM
      have hM2 := msg_up hM (HWW.out.trans hsx) (T' := rspTextF st reason fs body method) (by unfold rspTextF rspBody; rw [HAD.out, HLS.out, HK.out, HBB.out]; rfl)
      obtain ⟨v, rfl, hv⟩ := hM
      exact ⟨v, rfl, Lib.hid hM2, hx.trans (hv.2.below0.mono hx.size)⟩)
    have CDS : Hid (∀ x, Below w1.heap.size w1 x → Calls Tryz.prog 36 #[.int .i64 st] x fun e w' => e = .returned (.string DG) ∧ Below w1.heap.size w1 w') := Lib.hid (fun x hx => by
      have hsx : Spares nowhere w1 x := Below.spares hx (fun k hk => .inr hk)
      exact (CDG.out x (HWW.out.trans hsx)).mono fun e w' ⟨he, hs⟩ => ⟨he, hx.trans (hs.below0.mono hx.size)⟩)
    have HSEE : Hid (∀ x, Below w1.heap.size w1 x → x.cell? ⟨g, 0, none⟩ = some (.int .i64 st) ∧ x.cell? ⟨g, 1, none⟩ = some (.string reason)) := Lib.hid (fun x hx => by
      have hsx : Spares nowhere w1 x := Below.spares hx (fun k hk => .inr hk)
      have hbx := hsx.heap HB1.out (fun h => h)
      exact ⟨(Lib.cell_of_heap hbx 0).trans rfl, (Lib.cell_of_heap hbx 1).trans rfl⟩)
    have hbd : Below w1.heap.size w1 w1.drew := (Below.refl _ _).drew
    clear hown hfi4 hls f1 f2 f3 CDG
    have r1 := HR1.out
    have r2 := HR2.out
    have r3 := HR3.out
    go_wp2_with fail
    refine (CB _).mono ?_
    rintro _ wb ⟨rfl, hwb⟩
    subst hwb
    go_wp2
    go_region_held3 (fun x => x.cell? ⟨g, 0, none⟩ = some (.int .i64 st) ∧ x.cell? ⟨g, 1, none⟩ = some (.string reason))
      (first | exact HSEE.out _ (by assumption) | go_keep)
      (first
        | (go_simp
           go_at_call 36
           (with_reducible refine Calls.mono (CDS.out _ (by assumption)) ?_)
           rintro e wn ⟨rfl, hbn⟩)
        | (go_simp
           go_at_call 31
           (with_reducible refine Calls.mono (CMS.out _ (by assumption)) ?_)
           rintro e wm ⟨vm, rfl, hM, hbm⟩)
        | fail)
    go_wp2
    go_ret
    exact hM.out
  · have e204 : (st != 204) = true := by rw [bne_iff_ne]; exact h204
    have e204' : (st == 204) = false := by rw [beq_eq_false_iff_ne]; exact h204
    by_cases h200 : st < 200
    · have H200 := Lib.hid h200
      have d0 : ¬ (200 : Int) ≤ st := by omega
      obtain rfl : bb = true := by rw [← HBB.out]; unfold bodilessF; simp [h200]
      go_enter Tryz.func15, Tryz.ntmps15
      go_upto_region 1 with (fail)
      rw [HW0.out, HG.out]
      go_wp2_with fail
      refine CU.mono ?_
      rintro _ w1 ⟨v, rfl, hown, hb1⟩
      have hs1 : Spares nowhere w0 w1 := Below.spares hb1 (fun k hk => .inr hk)
      have HO := Lib.hid hown
      have HS1 := Lib.hid hs1
      have HB1 := Lib.hid (hs1.heap HB0.out (fun h => h))
      have u0 : w1.cell? ⟨g, 0, none⟩ = some (.int .i64 st) := (Lib.cell_of_heap HB1.out 0).trans rfl
      have u1 : w1.cell? ⟨g, 1, none⟩ = some (.string reason) := (Lib.cell_of_heap HB1.out 1).trans rfl
      have u2 : w1.cell? ⟨g, 2, none⟩ = some (.slice fa n fc) := (Lib.cell_of_heap HB1.out 2).trans rfl
      have u3 : w1.cell? ⟨g, 3, none⟩ = some (.slice ab k cb) := (Lib.cell_of_heap HB1.out 3).trans rfl
      clear hown hb1 hs1 CU
      obtain ⟨ls, hls⟩ : ∃ ls, us = ls := ⟨_, rfl⟩
      have HLS : Hid (ls = unframedF fs ++ rspLenF st fs k method) := Lib.hid (by rw [← hls, HUS.out, rspLenF_eq, if_pos (.inr H200.out)]; rw [List.append_nil])
      obtain ⟨f1, f2, f3⟩ : ls.length ≤ 1000 ∧ (∀ j (h : j < ls.length), ls[j].1.size ≤ 1000000 ∧ ls[j].2.size ≤ 1000000) ∧ (linesF ls).length ≤ 100000 := by
        rw [HLS.out]
        exact fit_rsp HFIT.out (by omega) st method
      have hown := HO.out
      rw [hls] at hown
      obtain ⟨fa4, fc4, hv4, hfi4⟩ := rowF_shape hown
      subst hv4
      have HWW : Hid (Spares nowhere w w1) := Lib.hid (HS0.out.trans HS1.out)
      have CMS : Hid (∀ x, Below w1.heap.size w1 x → Calls Tryz.prog 31 #[.string A3, .slice fa4 ls.length fc4, .slice none 0 0] x fun e w' => ∃ v, e = .returned v ∧ Hid (MsgPost (rspTextF st reason fs body method) w (.returned v) w') ∧ Below w1.heap.size w1 w') := Lib.hid (fun x hx => by
        have hsx : Spares nowhere w1 x := Below.spares hx (fun k hk => .inr hk)
        refine (message_any A3 ls [] fa4 none fc4 0 ls.length 0 x rfl rfl (FieldsIn.quiet hfi4 (Nat.le_refl _) hsx hsx.size) (fun j hj => absurd hj (Nat.not_lt_zero _)) (fun _ => rfl) zA3 (by omega) f2 f3 (by simp)).mono ?_
        intro e w' hM
        have hM2 := msg_up hM (HWW.out.trans hsx) (T' := rspTextF st reason fs body method) (by unfold rspTextF rspBody; rw [HAD.out, HLS.out, HK.out, HBB.out]; rfl)
        obtain ⟨v, rfl, hv⟩ := hM
        exact ⟨v, rfl, Lib.hid hM2, hx.trans (hv.2.below0.mono hx.size)⟩)
      have CDS : Hid (∀ x, Below w1.heap.size w1 x → Calls Tryz.prog 36 #[.int .i64 st] x fun e w' => e = .returned (.string DG) ∧ Below w1.heap.size w1 w') := Lib.hid (fun x hx => by
        have hsx : Spares nowhere w1 x := Below.spares hx (fun k hk => .inr hk)
        exact (CDG.out x (HWW.out.trans hsx)).mono fun e w' ⟨he, hs⟩ => ⟨he, hx.trans (hs.below0.mono hx.size)⟩)
      have HSEE : Hid (∀ x, Below w1.heap.size w1 x → x.cell? ⟨g, 0, none⟩ = some (.int .i64 st) ∧ x.cell? ⟨g, 1, none⟩ = some (.string reason)) := Lib.hid (fun x hx => by
        have hsx : Spares nowhere w1 x := Below.spares hx (fun k hk => .inr hk)
        have hbx := hsx.heap HB1.out (fun h => h)
        exact ⟨(Lib.cell_of_heap hbx 0).trans rfl, (Lib.cell_of_heap hbx 1).trans rfl⟩)
      have hbd : Below w1.heap.size w1 w1.drew := (Below.refl _ _).drew
      clear hown hfi4 hls f1 f2 f3 CDG
      have r1 := HR1.out
      have r2 := HR2.out
      have r3 := HR3.out
      go_wp2_with fail
      refine (CB _).mono ?_
      rintro _ wb ⟨rfl, hwb⟩
      subst hwb
      go_wp2
      go_region_held3 (fun x => x.cell? ⟨g, 0, none⟩ = some (.int .i64 st) ∧ x.cell? ⟨g, 1, none⟩ = some (.string reason))
        (first | exact HSEE.out _ (by assumption) | go_keep)
        (first
          | (go_simp
             go_at_call 36
             (with_reducible refine Calls.mono (CDS.out _ (by assumption)) ?_)
             rintro e wn ⟨rfl, hbn⟩)
          | (go_simp
             go_at_call 31
             (with_reducible refine Calls.mono (CMS.out _ (by assumption)) ?_)
             rintro e wm ⟨vm, rfl, hM, hbm⟩)
          | fail)
      go_wp2
      go_ret
      exact hM.out
    · have H200 := Lib.hid h200
      have H204 := Lib.hid h204
      have d0 : (200 : Int) ≤ st := by omega
      cases bb with
      | true =>
        go_enter Tryz.func15, Tryz.ntmps15
        go_upto_region 1 with (fail)
        rw [HW0.out, HG.out]
        go_wp2_with fail
        refine CU.mono ?_
        rintro _ w1 ⟨v, rfl, hown, hb1⟩
        have hs1 : Spares nowhere w0 w1 := Below.spares hb1 (fun k hk => .inr hk)
        have HO := Lib.hid hown
        have HS1 := Lib.hid hs1
        have HB1 := Lib.hid (hs1.heap HB0.out (fun h => h))
        have u0 : w1.cell? ⟨g, 0, none⟩ = some (.int .i64 st) := (Lib.cell_of_heap HB1.out 0).trans rfl
        have u1 : w1.cell? ⟨g, 1, none⟩ = some (.string reason) := (Lib.cell_of_heap HB1.out 1).trans rfl
        have u2 : w1.cell? ⟨g, 2, none⟩ = some (.slice fa n fc) := (Lib.cell_of_heap HB1.out 2).trans rfl
        have u3 : w1.cell? ⟨g, 3, none⟩ = some (.slice ab k cb) := (Lib.cell_of_heap HB1.out 3).trans rfl
        clear hown hb1 hs1 CU
        go_wp2_with fail
        refine (CRL.out w1 (HS0.out.trans HS1.out)).mono ?_
        rintro _ w2 ⟨a2, c2, rfl, hfi2, hnil2, hs2⟩
        have HFI2 := Lib.hid hfi2
        have HNIL2 := Lib.hid hnil2
        have HS2 := Lib.hid hs2
        have HO2 := Lib.hid (hs2.own HO.out (fun _ _ h => h))
        have HL2 : Hid (us.length + (rspLenG st fs k method).length ≤ 1000000000) := Lib.hid (by
          have h1 := unframed_len fs
          rw [HUS.out] at h1
          have := HFIT.out.len
          have h3 : (rspLenG st fs k method).length ≤ 1 := lenG_one _ _ _ _
          omega)
        obtain ⟨m2, hm2⟩ : ∃ m, (rspLenG st fs k method).length = m := ⟨_, rfl⟩
        rw [hm2]
        have HM2 := Lib.hid hm2
        clear hfi2 hnil2 hs2 hm2 CRL
        go_wp2_with (at_builtin; refine wpList_append_fields rfl _ _ rfl w0.heap.size _ v us rfl HO2.out (HS1.out.trans HS2.out).size a2 c2 m2 _ rfl HM2.out.symm HFI2.out HNIL2.out HL2.out ?_)
        intro v4 w4 hown4 hg4
        have hs4 : Spares nowhere w0 w4 := (HS1.out.trans HS2.out).grown hg4 (fun k hk => .inr (World.ownsRow.lt HO2.out k hk).1)
        have HB4 := Lib.hid (hs4.heap HB0.out (fun h => h))
        have u0 : w4.cell? ⟨g, 0, none⟩ = some (.int .i64 st) := (Lib.cell_of_heap HB4.out 0).trans rfl
        have u1 : w4.cell? ⟨g, 1, none⟩ = some (.string reason) := (Lib.cell_of_heap HB4.out 1).trans rfl
        have u3 : w4.cell? ⟨g, 3, none⟩ = some (.slice ab k cb) := (Lib.cell_of_heap HB4.out 3).trans rfl
        have HOW := Lib.hid hown4
        have HS4 := Lib.hid hs4
        clear hown4 hg4 hs4
        obtain ⟨ls, hls⟩ : ∃ ls, us ++ rspLenG st fs k method = ls := ⟨_, rfl⟩
        have HLS : Hid (ls = unframedF fs ++ rspLenF st fs k method) := Lib.hid (by rw [← hls, HUS.out, rspLenF_eq, if_neg (by rintro (h | h); exact H204.out h; have := H200.out; omega)])
        obtain ⟨f1, f2, f3⟩ : ls.length ≤ 1000 ∧ (∀ j (h : j < ls.length), ls[j].1.size ≤ 1000000 ∧ ls[j].2.size ≤ 1000000) ∧ (linesF ls).length ≤ 100000 := by
          rw [HLS.out]
          exact fit_rsp HFIT.out (by omega) st method
        have hown := HOW.out
        rw [hls] at hown
        rw [show us.length + (rspLenG st fs k method).length = ls.length from by rw [← hls]; simp] at hown
        obtain ⟨fa4, fc4, hv4, hfi4⟩ := rowF_shape hown
        subst hv4
        have HWW : Hid (Spares nowhere w w4) := Lib.hid (HS0.out.trans HS4.out)
        have CMS : Hid (∀ x, Below w4.heap.size w4 x → Calls Tryz.prog 31 #[.string A3, .slice fa4 ls.length fc4, .slice none 0 0] x fun e w' => ∃ v, e = .returned v ∧ Hid (MsgPost (rspTextF st reason fs body method) w (.returned v) w') ∧ Below w4.heap.size w4 w') := Lib.hid (fun x hx => by
          have hsx : Spares nowhere w4 x := Below.spares hx (fun k hk => .inr hk)
          refine (message_any A3 ls [] fa4 none fc4 0 ls.length 0 x rfl rfl (FieldsIn.quiet hfi4 (Nat.le_refl _) hsx hsx.size) (fun j hj => absurd hj (Nat.not_lt_zero _)) (fun _ => rfl) zA3 (by omega) f2 f3 (by simp)).mono ?_
          intro e w' hM
          have hM2 := msg_up hM (HWW.out.trans hsx) (T' := rspTextF st reason fs body method) (by unfold rspTextF rspBody; rw [HAD.out, HLS.out, HK.out, HBB.out]; rfl)
          obtain ⟨v, rfl, hv⟩ := hM
          exact ⟨v, rfl, Lib.hid hM2, hx.trans (hv.2.below0.mono hx.size)⟩)
        have CDS : Hid (∀ x, Below w4.heap.size w4 x → Calls Tryz.prog 36 #[.int .i64 st] x fun e w' => e = .returned (.string DG) ∧ Below w4.heap.size w4 w') := Lib.hid (fun x hx => by
          have hsx : Spares nowhere w4 x := Below.spares hx (fun k hk => .inr hk)
          exact (CDG.out x (HWW.out.trans hsx)).mono fun e w' ⟨he, hs⟩ => ⟨he, hx.trans (hs.below0.mono hx.size)⟩)
        have HSEE : Hid (∀ x, Below w4.heap.size w4 x → x.cell? ⟨g, 0, none⟩ = some (.int .i64 st) ∧ x.cell? ⟨g, 1, none⟩ = some (.string reason)) := Lib.hid (fun x hx => by
          have hsx : Spares nowhere w4 x := Below.spares hx (fun k hk => .inr hk)
          have hbx := hsx.heap HB4.out (fun h => h)
          exact ⟨(Lib.cell_of_heap hbx 0).trans rfl, (Lib.cell_of_heap hbx 1).trans rfl⟩)
        have hbd : Below w4.heap.size w4 w4.drew := (Below.refl _ _).drew
        clear hown hfi4 hls f1 f2 f3 CDG
        have r1 := HR1.out
        have r2 := HR2.out
        have r3 := HR3.out
        go_wp2_with fail
        refine (CB _).mono ?_
        rintro _ wb ⟨rfl, hwb⟩
        subst hwb
        go_wp2
        go_region_held3 (fun x => x.cell? ⟨g, 0, none⟩ = some (.int .i64 st) ∧ x.cell? ⟨g, 1, none⟩ = some (.string reason))
          (first | exact HSEE.out _ (by assumption) | go_keep)
          (first
            | (go_simp
               go_at_call 36
               (with_reducible refine Calls.mono (CDS.out _ (by assumption)) ?_)
               rintro e wn ⟨rfl, hbn⟩)
            | (go_simp
               go_at_call 31
               (with_reducible refine Calls.mono (CMS.out _ (by assumption)) ?_)
               rintro e wm ⟨vm, rfl, hM, hbm⟩)
            | fail)
        go_wp2
        go_ret
        exact hM.out
      | false =>
        go_enter Tryz.func15, Tryz.ntmps15
        go_upto_region 1 with (fail)
        rw [HW0.out, HG.out]
        go_wp2_with fail
        refine CU.mono ?_
        rintro _ w1 ⟨v, rfl, hown, hb1⟩
        have hs1 : Spares nowhere w0 w1 := Below.spares hb1 (fun k hk => .inr hk)
        have HO := Lib.hid hown
        have HS1 := Lib.hid hs1
        have HB1 := Lib.hid (hs1.heap HB0.out (fun h => h))
        have u0 : w1.cell? ⟨g, 0, none⟩ = some (.int .i64 st) := (Lib.cell_of_heap HB1.out 0).trans rfl
        have u1 : w1.cell? ⟨g, 1, none⟩ = some (.string reason) := (Lib.cell_of_heap HB1.out 1).trans rfl
        have u2 : w1.cell? ⟨g, 2, none⟩ = some (.slice fa n fc) := (Lib.cell_of_heap HB1.out 2).trans rfl
        have u3 : w1.cell? ⟨g, 3, none⟩ = some (.slice ab k cb) := (Lib.cell_of_heap HB1.out 3).trans rfl
        clear hown hb1 hs1 CU
        go_wp2_with fail
        refine (CRL.out w1 (HS0.out.trans HS1.out)).mono ?_
        rintro _ w2 ⟨a2, c2, rfl, hfi2, hnil2, hs2⟩
        have HFI2 := Lib.hid hfi2
        have HNIL2 := Lib.hid hnil2
        have HS2 := Lib.hid hs2
        have HO2 := Lib.hid (hs2.own HO.out (fun _ _ h => h))
        have HL2 : Hid (us.length + (rspLenG st fs k method).length ≤ 1000000000) := Lib.hid (by
          have h1 := unframed_len fs
          rw [HUS.out] at h1
          have := HFIT.out.len
          have h3 : (rspLenG st fs k method).length ≤ 1 := lenG_one _ _ _ _
          omega)
        obtain ⟨m2, hm2⟩ : ∃ m, (rspLenG st fs k method).length = m := ⟨_, rfl⟩
        rw [hm2]
        have HM2 := Lib.hid hm2
        clear hfi2 hnil2 hs2 hm2 CRL
        go_wp2_with (at_builtin; refine wpList_append_fields rfl _ _ rfl w0.heap.size _ v us rfl HO2.out (HS1.out.trans HS2.out).size a2 c2 m2 _ rfl HM2.out.symm HFI2.out HNIL2.out HL2.out ?_)
        intro v4 w4 hown4 hg4
        have hs4 : Spares nowhere w0 w4 := (HS1.out.trans HS2.out).grown hg4 (fun k hk => .inr (World.ownsRow.lt HO2.out k hk).1)
        have HB4 := Lib.hid (hs4.heap HB0.out (fun h => h))
        have u0 : w4.cell? ⟨g, 0, none⟩ = some (.int .i64 st) := (Lib.cell_of_heap HB4.out 0).trans rfl
        have u1 : w4.cell? ⟨g, 1, none⟩ = some (.string reason) := (Lib.cell_of_heap HB4.out 1).trans rfl
        have u3 : w4.cell? ⟨g, 3, none⟩ = some (.slice ab k cb) := (Lib.cell_of_heap HB4.out 3).trans rfl
        have HOW := Lib.hid hown4
        have HS4 := Lib.hid hs4
        clear hown4 hg4 hs4
        obtain ⟨ls, hls⟩ : ∃ ls, us ++ rspLenG st fs k method = ls := ⟨_, rfl⟩
        have HLS : Hid (ls = unframedF fs ++ rspLenF st fs k method) := Lib.hid (by rw [← hls, HUS.out, rspLenF_eq, if_neg (by rintro (h | h); exact H204.out h; have := H200.out; omega)])
        obtain ⟨f1, f2, f3⟩ : ls.length ≤ 1000 ∧ (∀ j (h : j < ls.length), ls[j].1.size ≤ 1000000 ∧ ls[j].2.size ≤ 1000000) ∧ (linesF ls).length ≤ 100000 := by
          rw [HLS.out]
          exact fit_rsp HFIT.out (by omega) st method
        have hown := HOW.out
        rw [hls] at hown
        rw [show us.length + (rspLenG st fs k method).length = ls.length from by rw [← hls]; simp] at hown
        obtain ⟨fa4, fc4, hv4, hfi4⟩ := rowF_shape hown
        subst hv4
        have HWW : Hid (Spares nowhere w w4) := Lib.hid (HS0.out.trans HS4.out)
        have CMS : Hid (∀ x, Below w4.heap.size w4 x → Calls Tryz.prog 31 #[.string A3, .slice fa4 ls.length fc4, .slice ab k cb] x fun e w' => ∃ v, e = .returned v ∧ Hid (MsgPost (rspTextF st reason fs body method) w (.returned v) w') ∧ Below w4.heap.size w4 w') := Lib.hid (fun x hx => by
          have hsx : Spares nowhere w4 x := Below.spares hx (fun k hk => .inr hk)
          refine (message_any A3 ls body fa4 ab fc4 cb ls.length k x rfl HK.out (FieldsIn.quiet hfi4 (Nat.le_refl _) hsx hsx.size) (HAT.out.spares' (HWW.out.trans hsx) (fun _ _ _ _ h => h)) HNIL.out zA3 (by omega) f2 f3 (by have := HFIT.out.bod; omega)).mono ?_
          intro e w' hM
          have hM2 := msg_up hM (HWW.out.trans hsx) (T' := rspTextF st reason fs body method) (by unfold rspTextF rspBody; rw [HAD.out, HLS.out, HK.out, HBB.out]; rfl)
          obtain ⟨v, rfl, hv⟩ := hM
          exact ⟨v, rfl, Lib.hid hM2, hx.trans (hv.2.below0.mono hx.size)⟩)
        have CDS : Hid (∀ x, Below w4.heap.size w4 x → Calls Tryz.prog 36 #[.int .i64 st] x fun e w' => e = .returned (.string DG) ∧ Below w4.heap.size w4 w') := Lib.hid (fun x hx => by
          have hsx : Spares nowhere w4 x := Below.spares hx (fun k hk => .inr hk)
          exact (CDG.out x (HWW.out.trans hsx)).mono fun e w' ⟨he, hs⟩ => ⟨he, hx.trans (hs.below0.mono hx.size)⟩)
        have HSEE : Hid (∀ x, Below w4.heap.size w4 x → x.cell? ⟨g, 0, none⟩ = some (.int .i64 st) ∧ x.cell? ⟨g, 1, none⟩ = some (.string reason)) := Lib.hid (fun x hx => by
          have hsx : Spares nowhere w4 x := Below.spares hx (fun k hk => .inr hk)
          have hbx := hsx.heap HB4.out (fun h => h)
          exact ⟨(Lib.cell_of_heap hbx 0).trans rfl, (Lib.cell_of_heap hbx 1).trans rfl⟩)
        have hbd : Below w4.heap.size w4 w4.drew := (Below.refl _ _).drew
        clear hown hfi4 hls f1 f2 f3 CDG
        have r1 := HR1.out
        have r2 := HR2.out
        have r3 := HR3.out
        go_wp2_with fail
        refine (CB _).mono ?_
        rintro _ wb ⟨rfl, hwb⟩
        subst hwb
        go_wp2
        go_region_held3 (fun x => x.cell? ⟨g, 0, none⟩ = some (.int .i64 st) ∧ x.cell? ⟨g, 1, none⟩ = some (.string reason))
          (first | exact HSEE.out _ (by assumption) | go_keep)
          (first
            | (go_simp
               go_at_call 36
               (with_reducible refine Calls.mono (CDS.out _ (by assumption)) ?_)
               rintro e wn ⟨rfl, hbn⟩)
            | (go_simp
               go_at_call 31
               (with_reducible refine Calls.mono (CMS.out _ (by assumption)) ?_)
               rintro e wm ⟨vm, rfl, hM, hbm⟩)
            | fail)
        go_wp2
        go_ret
        exact hM.out
end Go.Proofs.YtjpmofnnjdhamaaGreatDoor
namespace Go.Proofs.YtjpmofnnjdhamaaGreatDoor
open Go.RowKit HeadMath NormMath NormS HeadS ChunkMath HttpMath

theorem fit_msg {body : Bs} (hb : body.length ≤ 1000) : ∀ (l : Fs), (∀ f ∈ l, f.1.size ≤ 300 ∧ f.2.size ≤ 300) → (10 :: (linesF l ++ (13 :: 10 :: body))).length ≤ 60000 → FitL (10 :: (linesF l ++ (13 :: 10 :: body)))
  | [], _, h => by
    have e : linesF [] = [] := rfl
    rw [e, List.nil_append] at h ⊢
    exact fitL_seg [10] (by simp) (fitL_short (by simp; omega)) h
  | f :: l, hs, h => by
    have e : linesF (f :: l) = HeadS.lineF f ++ linesF l := by unfold linesF; rw [List.flatMap_cons]
    have e2 : (10 : UInt8) :: (linesF (f :: l) ++ (13 :: 10 :: body)) = (10 :: (f.1.data.toList ++ ([58, 32] ++ f.2.data.toList))) ++ 13 :: (10 :: (linesF l ++ (13 :: 10 :: body))) := by
      rw [e]
      unfold HeadS.lineF
      simp
    have h1 := hs f (by simp)
    rw [e2] at h ⊢
    refine fitL_seg _ ?_ (fit_msg hb l (fun g hg => hs g (by simp [hg])) ?_) h
    · simp only [List.length_append, List.length_cons, List.length_nil, size_list]; omega
    · rw [List.length_append, List.length_cons (a := (13 : UInt8))] at h
      omega
theorem fit_rest {T : Bs} (h : FitL T) : ∀ ls rest, headF T = .ok (ls, rest) → FitL rest := fun ls rest hH => by
  obtain ⟨p, hb, _⟩ := headF_split hH
  have := fitL_drop h p.length
  rw [hb, List.drop_left] at this
  exact this
/-- Few fields of few bytes. -/
theorem few_fit {fs : Fs} {body : Bs} (h : fewF fs) (hb : body.length ≤ 1000) : FitM fs body := by
  have hz : ∀ f ∈ fs, f.1.size ≤ 300 ∧ f.2.size ≤ 300 := fun f hf => by
    obtain ⟨j, hj, rfl⟩ := List.getElem_of_mem hf
    exact h.2 j hj
  have h15 := h.1
  have hl := lines_of (a := 15) (c := 600) h15 (fun f hf => by have := hz f hf; omega)
  exact ⟨by omega, fun f hf => by have := hz f hf; omega, fun f hf => by have := hz f hf; omega, by omega, by omega⟩
theorem few_all {fs : Fs} (h : fewF fs) {l : Fs} (hl : ∀ f ∈ l, f.2.size ≤ 300 ∧ f.1 = nCL) : ∀ f ∈ unframedF fs ++ l, f.1.size ≤ 300 ∧ f.2.size ≤ 300 := fun f hf => by
  rcases List.mem_append.1 hf with hf | hf
  · obtain ⟨j, hj, rfl⟩ := List.getElem_of_mem (unframed_mem f hf)
    exact h.2 j hj
  · obtain ⟨h1, h2⟩ := hl f hf
    have hz : nCL.size = 14 := rfl
    rw [h2, hz]; omega
theorem msgT_len (first : Bs) (l : Fs) (body : Bs) : (msgT first l body).length = first.length + (linesF l).length + body.length + 4 := by
  unfold msgT
  simp only [List.length_append]
  rw [show crlf2.length = 2 from rfl]
  omega
theorem msgT_fit {first body : Bs} {l : Fs} (h1 : first.length ≤ 1000) (hb : body.length ≤ 1000) (hl : ∀ f ∈ l, f.1.size ≤ 300 ∧ f.2.size ≤ 300) (hT : (msgT first l body).length ≤ 60000) : FitL (msgT first l body) := by
  have e : msgT first l body = first ++ 13 :: (10 :: (linesF l ++ (13 :: 10 :: body))) := by unfold msgT crlf2; rfl
  rw [e] at hT ⊢
  refine fitL_seg first (by omega) (fit_msg hb l hl ?_) hT
  rw [List.length_append, List.length_cons (a := (13 : UInt8))] at hT
  omega
theorem reqLen_cl {m : ByteArray} {n : Nat} (hn : n ≤ 100000) : ∀ f ∈ reqLenF m n, f.2.size ≤ 300 ∧ f.1 = nCL := fun f hf => by
  unfold reqLenF at hf
  split at hf
  · obtain rfl : f = (nCL, itoB n) := by simpa using hf
    have := itoB_size n (by omega)
    exact ⟨by show (itoB n).size ≤ _; omega, rfl⟩
  · cases hf
theorem reqText_fit {m t : ByteArray} {fs : Fs} {body : Bs} (hm : m.size ≤ 100) (ht : t.size ≤ 300) (hf : fewF fs) (hb : body.length ≤ 1000) : FitL (reqTextF m t fs body) ∧ (reqTextF m t fs body).length ≤ 20000 ∧ 4 ≤ (reqTextF m t fs body).length := by
  have h1 : (firstT m t).length ≤ 420 := by
    unfold firstT http11
    simp only [List.length_append, List.length_cons, List.length_nil, size_list]
    omega
  have hall := few_all hf (reqLen_cl (m := m) (n := body.length) (by omega))
  have h15 : (unframedF fs ++ reqLenF m body.length).length ≤ 16 := by
    have a := unframed_len fs
    have b := hf.1
    have c : (reqLenF m body.length).length ≤ 1 := by unfold reqLenF; split <;> simp
    rw [List.length_append]; omega
  have hl := lines_of (a := 16) (c := 600) h15 (fun f hf => by have := hall f hf; omega)
  have hlen := msgT_len (firstT m t) (unframedF fs ++ reqLenF m body.length) body
  unfold reqTextF
  exact ⟨msgT_fit (by omega) hb hall (by omega), by omega, by omega⟩
theorem MsgPost.slice {T : Bs} {w w' : World} {e : Ending} (h : MsgPost T w e w') : ∃ g c, e = .returned (.slice (some ⟨g, 0, none⟩) T.length c) ∧ BytesAt w' (some ⟨g, 0, none⟩) T ∧ T.length ≤ c ∧ w.heap.size ≤ g ∧ Spares nowhere w w' := by
  obtain ⟨v, he, hr, hs⟩ := h
  obtain ⟨g, c, rfl, hB, hat, hc⟩ := hr.shape
  exact ⟨g, c, he, hat, hc, hB, hs⟩
/-- What the sizes of a light request are. -/
structure LightM (m t : ByteArray) (fs : Fs) (body : Bs) : Prop where
  m : m.size ≤ 100
  t : t.size ≤ 300
  few : fewF fs
  body : body.length ≤ 1000
end Go.Proofs.YtjpmofnnjdhamaaGreatDoor
namespace Go.Proofs.YtjpmofnnjdhamaaGreatDoor
open Go.RowKit HeadMath NormMath NormS HeadS ChunkMath HttpMath

theorem KnowsH.of {w w1 : World} (hs : Spares nowhere w w1) : KnowsH w (.returned (.bool true)) w1 := ⟨rfl, hs⟩
set_option maxRecDepth 100000 in
set_option maxHeartbeats 16000000 in
theorem cutsLaw_any (m t : ByteArray) (fs : Fs) (body : Bs) (fa ab : Option Addr) (fc cb n k : Nat) (at_ : Int) (w : World) (hn : fs.length = n) (hk : body.length = k) (hin : FieldsIn w.heap.size w fa fs) (hat : BytesAt w ab body) (hnil : ab = none → cb = 0) (hl : fs.length < 9223372036854775808) (hsz : ∀ j (h : j < fs.length), (fs[j]).1.size ≤ 9223372036854775807 ∧ (fs[j]).2.size ≤ 9223372036854775807) (hbn : k < 9223372036854775808) (hm : m.size ≤ 9223372036854775807) (ht : t.size ≤ 9223372036854775807) (ha : -9223372036854775808 ≤ at_ ∧ at_ ≤ 9223372036854775807) (hM : MaxL w) (hT : TabH w) :
    Calls Tryz.prog 6 #[.agg #[.string m, .string t, .slice fa n fc, .slice ab k cb], .int .i64 at_] w (KnowsH w) := by
  obtain ⟨w0, hw0⟩ : ∃ w0, w.alloc (.cells #[.string m, .string t, .slice fa n fc, .slice ab k cb] 25) = w0 := ⟨_, rfl⟩
  have hs0 : Spares nowhere w w0 := by rw [← hw0]; exact (Spares.refl _ _).alloc _
  obtain ⟨g, hg⟩ : ∃ g, w.heap.size = g := ⟨_, rfl⟩
  have hb0 : w0.heap[g]? = some (.cells #[.string m, .string t, .slice fa n fc, .slice ab k cb] 25 (0, 0)) := by rw [← hw0, ← hg]; exact heap_alloc_new _ _
  have K := knownH_any w0 (hM.spares hs0)
  have CL : Hid (∀ W, Spares nowhere w W → Calls Tryz.prog 10 #[reqG m t (.slice fa n fc) (.slice ab k cb)] W (LitQ m t fs k W)) := Lib.hid (fun W h => by
    rw [← hn]
    exact lightQ_any m t fa fc fs ab k cb W (FieldsIn.quiet hin (Nat.le_refl _) h h.size) hl hsz hbn hm ht)
  have CR : Hid (LightM m t fs body → ∀ W, Spares nowhere w W → Calls Tryz.prog 13 #[.agg #[.string m, .string t, .slice fa n fc, .slice ab k cb]] W (MsgPost (reqTextF m t fs body) W)) := Lib.hid (fun h1 W h => requestBytes_any m t fs body fa ab fc cb n k W hn hk (FieldsIn.quiet hin (Nat.le_refl _) h h.size) (hat.spares' h (fun _ _ _ _ h => h)) hnil (by have := h1.m; omega) (by have := h1.t; omega) (few_fit h1.few h1.body) (hT.spares h (fun h => h)))
  unfold reqG at CL
  unfold KnowsH at K ⊢
  have HM := Lib.hid hM
  have HS0 := Lib.hid hs0
  have HB0 := Lib.hid hb0
  have HG := Lib.hid hg
  have HW0 := Lib.hid hw0
  have HK := Lib.hid hk
  have HA := Lib.hid ha
  clear hM hs0 hb0 hg hw0 hk hn hin hat hnil hl hsz hbn hm ht hT ha
  go_enter Tryz.func6, Tryz.ntmps6
  go_upto_region 1 with (fail)
  rw [HW0.out, HG.out]
  go_wp2_with fail
  refine K.mono ?_
  rintro _ w1 ⟨rfl, hs1⟩
  have HS1 := Lib.hid (HS0.out.trans hs1)
  have HB1 := Lib.hid (hs1.heap HB0.out (fun h => h))
  obtain ⟨x0, x1, x2, x3⟩ := four_cells HB1.out
  clear hs1 K
  go_wp2_with fail
  refine (CL.out w1 HS1.out).mono ?_
  rintro _ w2 ⟨b, rfl, hb2, hlit⟩
  have hs2 : Spares nowhere w1 w2 := Below.spares hb2 (fun k hk => .inr hk)
  have HS2 := Lib.hid (HS1.out.trans hs2)
  have HB2 := Lib.hid (hs2.heap HB1.out (fun h => h))
  clear hs2 hb2 x0 x1 x2 x3
  cases b with
  | false =>
    clear hlit
    go_wp2
    go_ret
    exact ⟨rfl, HS2.out⟩
  | true =>
    obtain ⟨l1, l2, l3, l4⟩ := hlit rfl
    have HL : Hid (LightM m t fs body) := Lib.hid ⟨l1, l2, l3, by rw [HK.out]; exact l4⟩
    obtain ⟨hfit, hT2, hT4⟩ := reqText_fit l1 l2 l3 (show body.length ≤ 1000 by rw [HK.out]; exact l4)
    have CRR := CR.out HL.out w2 HS2.out
    obtain ⟨T, hT⟩ : ∃ T, reqTextF m t fs body = T := ⟨_, rfl⟩
    rw [hT] at hfit hT2 hT4 CRR
    have HFIT := Lib.hid hfit
    obtain ⟨y0, y1, y2, y3⟩ := four_cells HB2.out
    obtain ⟨tl, htl⟩ : ∃ tl, T.length = tl := ⟨_, rfl⟩
    have HTL := Lib.hid htl
    rw [htl] at hT2 hT4
    clear hlit l1 l2 l3 l4 hfit hT htl CL CR
    go_wp2_with fail
    refine CRR.mono ?_
    rintro e3 w3 hm3
    obtain ⟨g3, c3, rfl, hat3, hc3, _, hs3⟩ := hm3.slice
    rw [HTL.out] at hc3 ⊢
    have HAT : Hid (∀ W, Spares nowhere w3 W → BytesAt W (some ⟨g3, 0, none⟩) T) := Lib.hid (fun W h => hat3.spares' h (fun _ _ _ _ h => h))
    have HS3 := Lib.hid (HS2.out.trans hs3)
    have C4 : Hid (Calls Tryz.prog 25 #[.slice (some ⟨g3, 0, none⟩) tl c3] w3 (ReqPost (requestF T) w3)) := Lib.hid (by
      rw [← HTL.out]
      exact refRequest_any T _ c3 w3 hat3 (by rw [HTL.out]; exact hc3) (by rw [HTL.out]; omega) (fit_rest HFIT.out))
    clear hm3 hat3 hs3 CRR y0 y1 y2 y3
    go_wp2_with fail
    refine C4.out.mono ?_
    rintro e4 w4 h4
    obtain ⟨fa4, fc4, ab4, cb4, rfl, _, _, hs4⟩ := req_shape h4
    obtain ⟨r, hr⟩ : ∃ r, requestF T = r := ⟨_, rfl⟩
    rw [hr]
    have HR := Lib.hid hr
    have HS34 := Lib.hid hs4
    have HS4 := Lib.hid (HS3.out.trans hs4)
    obtain ⟨qe, hqe⟩ : ∃ e, qE r = e := ⟨_, rfl⟩
    obtain ⟨qn, hqn⟩ : ∃ e, qN r = e := ⟨_, rfl⟩
    obtain ⟨X1, hX1⟩ : ∃ X, qM r = X := ⟨_, rfl⟩
    obtain ⟨X2, hX2⟩ : ∃ X, qT r = X := ⟨_, rfl⟩
    obtain ⟨X3, hX3⟩ : ∃ X, (qF r).length = X := ⟨_, rfl⟩
    obtain ⟨X4, hX4⟩ : ∃ X, (qB r).length = X := ⟨_, rfl⟩
    rw [hqe, hqn, hX1, hX2, hX3, hX4]
    have HQE := Lib.hid hqe
    have HQN := Lib.hid hqn
    clear h4 hs4 hr C4 hqe hqn hX1 hX2 hX3 hX4
    by_cases he : qe = 0
    · have q1 : ((qe : Int) == 0) = true := by rw [he]; rfl
      have q2 : ((qe : Int) != 0) = false := by unfold bne; rw [q1]; rfl
      have HE := Lib.hid he
      clear he
      by_cases hq : qn = tl
      · have q3 : ((qn : Int) == (tl : Int)) = true := by rw [hq]; simp
        have q4 : ((qn : Int) != (tl : Int)) = false := by unfold bne; rw [q3]; rfl
        have HCUT : Hid (∀ k, k < tl → requestF (T.take k) = .error 92) := Lib.hid (fun k hk => by
          cases r with
          | error x =>
            exfalso
            have : (0 : Nat) = qn := HQN.out
            omega
          | ok rr =>
            obtain ⟨m', t', fs', body', n'⟩ := rr
            have h1 : n' = qn := HQN.out
            have h2 := HR.out
            rw [h1, hq, ← HTL.out] at h2
            exact request_cut h2 k (by rw [HTL.out]; exact hk))
        have HQ := Lib.hid hq
        clear hq
        go_wp2_with fail
        obtain ⟨v5, hv5⟩ : ∃ v5, w4.alloc (.cells #[.string X1, .string X2, .slice fa4 X3 fc4, .slice ab4 X4 cb4] 25) = v5 := ⟨_, rfl⟩
        have HS5 : Hid (Spares nowhere w v5) := Lib.hid (by rw [← hv5]; exact HS4.out.alloc _)
        have HS35 : Hid (Spares nowhere w3 v5) := Lib.hid (by rw [← hv5]; exact HS34.out.alloc _)
        rw [hv5]
        clear hv5
        refine (place_any at_ tl v5 (by omega) (by omega) HA.out).mono ?_
        rintro _ w6 ⟨⟨j, hj, rfl⟩, hw6⟩
        subst hw6
        have hjc : (j : Int) ≤ (c3 : Int) := by omega
        have C6 := request_any (T.take j) (some ⟨g3, 0, none⟩) c3 j v5 (by rw [List.length_take, HTL.out]; omega) (by
          intro i hi
          have hi2 : i < T.length := by rw [List.length_take] at hi; omega
          obtain ⟨y, z, e, hc⟩ := HAT.out v5 HS35.out i hi2
          exact ⟨y, z, e, by rw [hc]; simp⟩) (by rw [List.length_take]; omega) (fun e => by cases e) (by rw [List.length_take]; omega) (HM.out.spares HS5.out)
        rw [HCUT.out j hj] at C6
        unfold ReqPost zeroQ at C6
        simp only at C6
        go_wp2_with fail
        refine C6.mono ?_
        rintro _ w7 ⟨rfl, hs7⟩
        have HS7 := Lib.hid (HS5.out.trans hs7)
        clear hs7 C6
        go_wp2
        go_ret
        exact ⟨rfl, HS7.out.alloc _⟩
      · have q3 : ((qn : Int) == (tl : Int)) = false := by rw [beq_eq_false_iff_ne]; omega
        have q4 : ((qn : Int) != (tl : Int)) = true := by unfold bne; rw [q3]; rfl
        clear hq
        go_wp2
        go_ret
        exact ⟨rfl, HS4.out.alloc _⟩
    · have q1 : ((qe : Int) == 0) = false := by rw [beq_eq_false_iff_ne]; omega
      have q2 : ((qe : Int) != 0) = true := by unfold bne; rw [q1]; rfl
      clear he
      go_wp2
      go_ret
      exact ⟨rfl, HS4.out.alloc _⟩
end Go.Proofs.YtjpmofnnjdhamaaGreatDoor
namespace Go.Proofs.YtjpmofnnjdhamaaGreatDoor
open Go.ChangeShapes Go.WideShapes Go.ChangeAt Go.RowKit Go.Deep
open HeadMath NormMath NormS HeadS ChunkMath HttpMath

section
variable {H : Type} {W : World} {enc : TypeId × Value → H}
theorem fieldsAt_inH {w : World} {a : Option Addr} {fs : Fs} (h : FieldsAt w a fs) : FieldsIn w.heap.size w a fs := by
  intro j hj
  obtain ⟨b, off, h1, h2, h3⟩ := h j hj
  exact ⟨b, off, h1, cellOf_lt h2, h2, h3⟩
theorem bytes_of_trod {v : Value} {y : DataW H × List MemPlace} {fuel : Nat} (hf : DataW.trod enc Tryz.prog W 0 (fun _ => true) true fuel 23 [v] = some y) :
    ∃ (a : Option Addr) (n c : Nat) (l : Bs), v = .slice a n c ∧ l.length = n ∧ BytesAt W a l ∧ (a = none → c = 0) ∧ n ≤ maxLen := by
  obtain ⟨d, p⟩ := y
  have key : ∃ a n c, v = .slice a n c := by
    rcases Deep.open_slice Tryz.underlying23 hf with ⟨hcs, _⟩ | ⟨x, len', cap', m, n, D, Pl, hcs, _, h1, h2, _⟩
    · injection hcs with hcs; exact ⟨_, _, _, hcs⟩
    · injection hcs with hcs; exact ⟨_, _, _, hcs⟩
  obtain ⟨a, n, c, rfl⟩ := key
  obtain ⟨l, h1, h2, h3, h4, h5⟩ := bytes_open (enc := enc) (W := W) (d := d) (p := p) (fuel := fuel) (a := a) (len := n) (cap := c) rfl hf
  exact ⟨a, n, c, l, rfl, h1, h2, h3, h4⟩
structure ReqIn (W : World) (v : Value) (m t : ByteArray) (fs : Fs) (body : Bs) (fa ab : Option Addr) (fc cb n k : Nat) : Prop where
  hv : v = .agg #[.string m, .string t, .slice fa n fc, .slice ab k cb]
  hn : fs.length = n
  hk : body.length = k
  hin : FieldsIn W.heap.size W fa fs
  hat : BytesAt W ab body
  hnil : ab = none → cb = 0
  hl : fs.length < 9223372036854775808
  hsz : ∀ j (h : j < fs.length), (fs[j]).1.size ≤ 9223372036854775807 ∧ (fs[j]).2.size ≤ 9223372036854775807
  hbn : k < 9223372036854775808
  hm : m.size ≤ 9223372036854775807
  ht : t.size ≤ 9223372036854775807
set_option maxRecDepth 100000 in
theorem request_openH {v : Value} {d : DataW H} {p : List MemPlace} {r : Reach} {b0 : Nat} (hv : Value.okWide Tryz.prog W r b0 25 v) (h : DataW.Trod enc Tryz.prog W 0 (fun _ => true) true 25 v d p) :
    ∃ (m t : ByteArray) (fs : Fs) (body : Bs) (fa ab : Option Addr) (fc cb n k : Nat), ReqIn W v m t fs body fa ab fc cb n k := by
  obtain ⟨v0, v1, v2, v3, y0, y1, y2, y3, n, rfl, _, _, t0, t1, t2, t3⟩ := Joins.open_agg4 Tryz.underlying25 (by kernel_rfl) (by kernel_rfl) hv h
  obtain ⟨z0, e0, _, w0⟩ := DataW.trod_string Tryz.underlying9 t0
  obtain ⟨z1, e1, _, w1⟩ := DataW.trod_string Tryz.underlying9 t1
  obtain ⟨fs, fa, fc, rfl, hat, hl, _, _, hsz⟩ := fields_of_trod t2
  obtain ⟨ab, k, cb, body, rfl, hb1, hb2, hb3, hb4⟩ := bytes_of_trod t3
  injection e0 with e0; injection e1 with e1
  subst e0; subst e1
  have hmax : maxLen = 9223372036854775807 := rfl
  rw [hmax] at hl hb4
  exact ⟨z0, z1, fs, body, fa, ab, fc, cb, _, k, rfl, rfl, hb1, fieldsAt_inH hat, hb2, hb3, by omega, hsz, by omega, w0, w1⟩
structure RspIn (W : World) (v : Value) (st : Int) (r : ByteArray) (fs : Fs) (body : Bs) (fa ab : Option Addr) (fc cb n k : Nat) : Prop where
  hv : v = .agg #[.int .i64 st, .string r, .slice fa n fc, .slice ab k cb]
  hn : fs.length = n
  hk : body.length = k
  hin : FieldsIn W.heap.size W fa fs
  hat : BytesAt W ab body
  hnil : ab = none → cb = 0
  hl : fs.length < 9223372036854775808
  hsz : ∀ j (h : j < fs.length), (fs[j]).1.size ≤ 9223372036854775807 ∧ (fs[j]).2.size ≤ 9223372036854775807
  hbn : k < 9223372036854775808
  hr : r.size ≤ 9223372036854775807
  hst : -9223372036854775808 ≤ st ∧ st ≤ 9223372036854775807
set_option maxRecDepth 100000 in
theorem response_openH {v : Value} {d : DataW H} {p : List MemPlace} {r : Reach} {b0 : Nat} (hv : Value.okWide Tryz.prog W r b0 27 v) (h : DataW.Trod enc Tryz.prog W 0 (fun _ => true) true 27 v d p) :
    ∃ (st : Int) (rs : ByteArray) (fs : Fs) (body : Bs) (fa ab : Option Addr) (fc cb n k : Nat), RspIn W v st rs fs body fa ab fc cb n k := by
  obtain ⟨v0, v1, v2, v3, y0, y1, y2, y3, n, rfl, _, _, t0, t1, t2, t3⟩ := Joins.open_agg4 Tryz.underlying27 (by kernel_rfl) (by kernel_rfl) hv h
  obtain ⟨z0, e0, _, w0⟩ := DataW.trod_int Tryz.underlying3 t0
  obtain ⟨z1, e1, _, w1⟩ := DataW.trod_string Tryz.underlying9 t1
  obtain ⟨fs, fa, fc, rfl, hat, hl, _, _, hsz⟩ := fields_of_trod t2
  obtain ⟨ab, k, cb, body, rfl, hb1, hb2, hb3, hb4⟩ := bytes_of_trod t3
  injection e0 with e0; injection e1 with e1
  subst e0; subst e1
  have hmax : maxLen = 9223372036854775807 := rfl
  rw [hmax] at hl hb4
  exact ⟨z0, z1, fs, body, fa, ab, fc, cb, _, k, rfl, rfl, hb1, fieldsAt_inH hat, hb2, hb3, by omega, hsz, by omega, w1, i64_wide w0⟩
end
theorem pow10_data : (Rows.laid_internal_strconv_uint64pow10 : DataW Unit) = Lib.tabData .u64 Lib.pow10Tab := by kernel_rfl
theorem tabH_of_laid {W : World} {laid : List (String × DataW Unit)} (h : laidMet Tryz.prog laid W) (hm : ("internal/strconv.uint64pow10", (Rows.laid_internal_strconv_uint64pow10 : DataW Unit)) ∈ laid) : TabH W := by
  obtain ⟨ps, hl, _⟩ := h
  obtain ⟨g, t, cs, fuel, p, h1, h2, h3, h4⟩ := laid_mem hl hm
  rw [pow10_data] at h4
  have hg : Tryz.prog.globalNamed "internal/strconv.uint64pow10" = some 1 := by kernel_rfl
  obtain rfl := Option.some.inj (h1.symm.trans hg)
  obtain rfl := Option.some.inj (h2.symm.trans (show (Tryz.prog.globals[1]?).map (·.type) = some 167 by kernel_rfl))
  have hc := Lib.cells_of_tab Tryz.underlying167 Tryz.underlying155 (by kernel_rfl) (by kernel_rfl) h4
  unfold TabH Lib.TabIs
  rw [h3, ← hc]
end Go.Proofs.YtjpmofnnjdhamaaGreatDoor
namespace Go.Proofs.YtjpmofnnjdhamaaGreatDoor
open Go.RowKit HeadMath NormMath NormS HeadS ChunkMath HttpMath

theorem cells4 {u : World} {b : Nat} {x y z v : Value} {t : TypeId} {fz : Nat × Nat} (h : u.heap[b]? = some (.cells #[x, y, z, v] t fz)) : u.cell? ⟨b, 0, none⟩ = some x ∧ u.cell? ⟨b, 1, none⟩ = some y ∧ u.cell? ⟨b, 2, none⟩ = some z ∧ u.cell? ⟨b, 3, none⟩ = some v :=
  ⟨(Lib.cell_of_heap h 0).trans rfl, (Lib.cell_of_heap h 1).trans rfl, (Lib.cell_of_heap h 2).trans rfl, (Lib.cell_of_heap h 3).trans rfl⟩
theorem msg_none (first : Bs) (us : Fs) (body : Bs) : first ++ (crlf2 ++ (linesF us ++ (crlf2 ++ body))) = msgT first (us ++ []) body := by
  unfold msgT
  rw [List.append_nil]
theorem msg_one (first : Bs) (us : Fs) (v : ByteArray) (body : Bs) : first ++ (crlf2 ++ (linesF us ++ (nCL.data.toList ++ ([58, 32] ++ (v.data.toList ++ ([13, 10] ++ (crlf2 ++ body))))))) = msgT first (us ++ [(nCL, v)]) body := by
  unfold msgT
  rw [linesF_app, linesF_one]
  unfold HeadS.lineF
  simp
/-- What the reference's calls on the fields give, in worlds above w0. -/
structure RefFs (w0 : World) (fs us : Fs) (LN : ByteArray) (fa : Option Addr) (n fc : Nat) : Prop where
  d1 : ∃ l1, dropF [nCL] fs = l1 ∧ dropF [nTE] l1 = us ∧ (∀ x, Below w0.heap.size w0 x → Calls Tryz.prog 33 #[.slice fa n fc, .string ⟨#[67, 111, 110, 116, 101, 110, 116, 45, 76, 101, 110, 103, 116, 104]⟩] x fun e w' => ∃ a c, e = .returned (.slice a l1.length c) ∧ Below w0.heap.size w0 w' ∧ Hid (FieldsIn w'.heap.size w' a l1))
     ∧ (∀ x a c, Below w0.heap.size w0 x → Hid (FieldsIn x.heap.size x a l1) → Calls Tryz.prog 33 #[.slice a l1.length c, .string ⟨#[84, 114, 97, 110, 115, 102, 101, 114, 45, 69, 110, 99, 111, 100, 105, 110, 103]⟩] x fun e w' => ∃ a c, e = .returned (.slice a us.length c) ∧ Below w0.heap.size w0 w' ∧ Hid (FieldsIn w'.heap.size w' a us))
  ln : ∀ x a c, Below w0.heap.size w0 x → Hid (FieldsIn x.heap.size x a us) → Calls Tryz.prog 32 #[.slice a us.length c] x fun e w' => e = .returned (.string LN) ∧ Below w0.heap.size w0 w'
  lnD : LN.data.toList = linesF us
  lnS : LN.size ≤ 90000
theorem refFs_of {w0 : World} {fs : Fs} {body : Bs} {fa : Option Addr} {n fc : Nat} (hn : fs.length = n) (hin : FieldsIn w0.heap.size w0 fa fs) (hfit : FitM fs body) : ∃ LN, RefFs w0 fs (unframedF fs) LN fa n fc := by
  have h0 := hfit.len
  have h1 := hfit.small
  have hd := dropF_len [nCL] fs
  have hm1 : ∀ f ∈ dropF [nCL] fs, f ∈ fs := fun f hf => by unfold dropF at hf; exact (List.mem_filter.1 hf).1
  have hs1 : SmallF (dropF [nCL] fs) := fun j hj => by
    have := hfit.sz _ (hm1 _ (List.getElem_mem hj))
    omega
  have hu := unframed_len fs
  have hul := unframed_lines fs
  have hl := hfit.lin
  refine ⟨⟨(linesF (unframedF fs)).toArray⟩, ⟨_, rfl, rfl, fun x hx => ?_, fun x a c hx hi => ?_⟩, fun x a c hx hi => ?_, rfl, ?_⟩
  · refine (HeadS.refDrop_any fs nCL fa fc n x (FieldsIn.below hin hx hx.size) hn.symm h1 (by omega) (by decide)).mono ?_
    rintro e w' ⟨v, he, hown, hb⟩
    obtain ⟨a, c, rfl, hfi⟩ := rowF_shape hown
    exact ⟨a, c, he, hx.trans (hb.mono hx.size), Lib.hid hfi⟩
  · refine (HeadS.refDrop_any (dropF [nCL] fs) nTE a c _ x hi.out rfl hs1 (by omega) (by decide)).mono ?_
    rintro e w' ⟨v, he, hown, hb⟩
    obtain ⟨a, c, rfl, hfi⟩ := rowF_shape hown
    exact ⟨a, c, he, hx.trans (hb.mono hx.size), Lib.hid hfi⟩
  · refine (HeadS.refLines_any (unframedF fs) a c _ x hi.out rfl (by omega) (fun j hj => hfit.sz _ (unframed_mem _ (List.getElem_mem hj)))).mono ?_
    rintro e w' ⟨he, hb⟩
    exact ⟨he, hx.trans (hb.mono hx.size)⟩
  · show (linesF (unframedF fs)).toArray.size ≤ _
    rw [List.size_toArray]
    omega
set_option maxRecDepth 100000 in
set_option maxHeartbeats 16000000 in
theorem refRequestBytes_any (m t : ByteArray) (fs : Fs) (body : Bs) (fa ab : Option Addr) (fc cb n k : Nat) (w : World) (hn : fs.length = n) (hk : body.length = k) (hin : FieldsIn w.heap.size w fa fs) (hat : BytesAt w ab body) (hnil : ab = none → cb = 0) (hm : m.size ≤ 4000) (ht : t.size ≤ 4000) (hfit : FitM fs body) :
    Calls Tryz.prog 14 #[.agg #[.string m, .string t, .slice fa n fc, .slice ab k cb]] w (MsgPost (reqTextF m t fs body) w) := by
  obtain ⟨w0, hw0⟩ : ∃ w0, w.alloc (.cells #[.string m, .string t, .slice fa n fc, .slice ab k cb] 25) = w0 := ⟨_, rfl⟩
  have hs0 : Spares nowhere w w0 := by rw [← hw0]; exact (Spares.refl _ _).alloc _
  obtain ⟨g, hg⟩ : ∃ g, w.heap.size = g := ⟨_, rfl⟩
  have hb0 : w0.heap[g]? = some (.cells #[.string m, .string t, .slice fa n fc, .slice ab k cb] 25 (0, 0)) := by rw [← hw0, ← hg]; exact heap_alloc_new _ _
  obtain ⟨LN, R⟩ := refFs_of (fc := fc) (body := body) hn (FieldsIn.quiet hin (Nat.le_refl _) hs0 hs0.size) hfit
  obtain ⟨l1, _, _, D1, D2⟩ := R.d1
  obtain ⟨us, hus⟩ : ∃ us, unframedF fs = us := ⟨_, rfl⟩
  rw [hus] at D2 R
  have HD1 := Lib.hid D1
  have HD2 := Lib.hid D2
  have HLN := Lib.hid R.ln
  have hLD := R.lnD
  have zLN := R.lnS
  have hkk : k ≤ 90000 := by have := hfit.bod; omega
  have CDEC := fun W => dec_any (k + 1) k W (by omega) (by omega)
  unfold DecPost at CDEC
  rw [show (⟨(Lib.decDigits k).toArray⟩ : ByteArray) = itoB k from rfl] at CDEC
  have zI := itoB_size k (by omega)
  obtain ⟨IB, hIB⟩ : ∃ I, itoB k = I := ⟨_, rfl⟩
  rw [hIB] at CDEC zI
  have z1 : ({ data := #[32] } : ByteArray).size = 1 := rfl
  have z11 : ({ data := #[32, 72, 84, 84, 80, 47, 49, 46, 49, 13, 10] } : ByteArray).size = 11 := rfl
  have z16 : ({ data := #[67, 111, 110, 116, 101, 110, 116, 45, 76, 101, 110, 103, 116, 104, 58, 32] } : ByteArray).size = 16 := rfl
  have z2 : ({ data := #[13, 10] } : ByteArray).size = 2 := rfl
  obtain ⟨A1, hA1⟩ : ∃ A : ByteArray, m ++ ({ data := #[32] } : ByteArray) = A := ⟨_, rfl⟩
  have zA1 : A1.size ≤ 4001 := by rw [← hA1, ByteArray.size_append, z1]; omega
  obtain ⟨A2, hA2⟩ : ∃ A : ByteArray, A1 ++ t = A := ⟨_, rfl⟩
  have zA2 : A2.size ≤ 8001 := by rw [← hA2, ByteArray.size_append]; omega
  obtain ⟨A3, hA3⟩ : ∃ A : ByteArray, A2 ++ ({ data := #[32, 72, 84, 84, 80, 47, 49, 46, 49, 13, 10] } : ByteArray) = A := ⟨_, rfl⟩
  have zA3 : A3.size ≤ 8012 := by rw [← hA3, ByteArray.size_append, z11]; omega
  obtain ⟨A4, hA4⟩ : ∃ A : ByteArray, A3 ++ LN = A := ⟨_, rfl⟩
  have zA4 : A4.size ≤ 98012 := by rw [← hA4, ByteArray.size_append]; omega
  have r1 : ∀ w, (Op.stringOp .add m ⟨#[32]⟩).run Tryz.prog w = .ok (.string A1) w := fun w => hA1 ▸ run_string_add_sum w _ _ (by omega)
  have r2 : ∀ w, (Op.stringOp .add A1 t).run Tryz.prog w = .ok (.string A2) w := fun w => hA2 ▸ run_string_add_sum w _ _ (by omega)
  have r3 : ∀ w, (Op.stringOp .add A2 ⟨#[32, 72, 84, 84, 80, 47, 49, 46, 49, 13, 10]⟩).run Tryz.prog w = .ok (.string A3) w := fun w => hA3 ▸ run_string_add_sum w _ _ (by omega)
  have r4 : ∀ w, (Op.stringOp .add A3 LN).run Tryz.prog w = .ok (.string A4) w := fun w => hA4 ▸ run_string_add_sum w _ _ (by omega)
  have b1 : ¬ 9223372036854775807 < m.size + 1 := by omega
  have b2 : ¬ 9223372036854775807 < A1.size + t.size := by omega
  have b3 : ¬ 9223372036854775807 < A2.size + 11 := by omega
  have b4 : ¬ 9223372036854775807 < A3.size + LN.size := by omega
  have HAD : Hid (A4.data.toList = firstT m t ++ (crlf2 ++ linesF us)) := Lib.hid (by
    rw [← hA4, ← hA3, ← hA2, ← hA1]
    simp only [ByteArray.data_append, Array.toList_append, hLD]
    unfold firstT http11 crlf2
    simp)
  have hbd : Below w0.heap.size w0 w0.drew := (Below.refl _ _).drew
  have HSEE : Hid (∀ x, Below w0.heap.size w0 x → x.cell? ⟨g, 0, none⟩ = some (.string m) ∧ x.cell? ⟨g, 1, none⟩ = some (.string t) ∧ x.cell? ⟨g, 2, none⟩ = some (.slice fa n fc)) := Lib.hid (fun x hx => by
    have hsx : Spares nowhere w0 x := Below.spares hx (fun k hk => .inr hk)
    have hbx := hsx.heap hb0 (fun h => h)
    exact ⟨(Lib.cell_of_heap hbx 0).trans rfl, (Lib.cell_of_heap hbx 1).trans rfl, (Lib.cell_of_heap hbx 2).trans rfl⟩)
  have HUS := Lib.hid hus
  have HB0 := Lib.hid hb0
  have HS0 := Lib.hid hs0
  have HG := Lib.hid hg
  have HW0 := Lib.hid hw0
  have HK := Lib.hid hk
  have HAT := Lib.hid hat
  have HNIL := Lib.hid hnil
  have HIB := Lib.hid hIB
  have HP := Lib.hid (show putM m = ((m.toList == [80, 79, 83, 84]) || ((m.toList == [80, 85, 84]) || (m.toList == [80, 65, 84, 67, 72]))) from rfl)
  clear hin hat hnil hfit hb0 hs0 hg hus hk hn hw0 hIB hA1 hA2 hA3 hA4 D1 D2 R hLD
  by_cases hk0 : 0 < k
  · have d0 : (0 : Int) < (k : Int) := by omega
    go_enter Tryz.func14, Tryz.ntmps14
    go_upto_region 1 with (fail)
    rw [HW0.out, HG.out]
    go_region_held3 (fun x => x.cell? ⟨g, 0, none⟩ = some (.string m) ∧ x.cell? ⟨g, 1, none⟩ = some (.string t) ∧ x.cell? ⟨g, 2, none⟩ = some (.slice fa n fc))
      (first | exact HSEE.out _ (by assumption) | go_keep)
      (first
        | (go_simp
           go_at_call 33
           (with_reducible refine Calls.mono (HD1.out _ (by assumption)) ?_)
           rintro e wn ⟨ad, cd, rfl, hbn, hin1⟩)
        | (go_simp
           go_at_call 33
           (with_reducible refine Calls.mono (HD2.out _ _ _ (by assumption) (by assumption)) ?_)
           rintro e wo ⟨ae, ce, rfl, hbo, hin2⟩)
        | (go_simp
           go_at_call 32
           (with_reducible refine Calls.mono (HLN.out _ _ _ (by assumption) (by assumption)) ?_)
           rintro e wp ⟨rfl, hbp⟩)
        | fail)
    have hsp : Spares nowhere w0 wp := Below.spares hbp (fun k hk => .inr hk)
    have HSP := Lib.hid (HS0.out.trans hsp)
    have HBP := Lib.hid (hsp.heap HB0.out (fun h => h))
    obtain ⟨x0, x1, x2, x3⟩ := cells4 HBP.out
    clear r1 r2 r3 r4 hbd hin1 hin2 hbn hbo hbp hsp HD1 HD2 HLN
    obtain ⟨Y, hY⟩ : ∃ Y : ByteArray, A4 ++ ({ data := #[67, 111, 110, 116, 101, 110, 116, 45, 76, 101, 110, 103, 116, 104, 58, 32] } : ByteArray) ++ IB ++ ({ data := #[13, 10] } : ByteArray) ++ ({ data := #[13, 10] } : ByteArray) = Y := ⟨_, rfl⟩
    have zY : Y.size ≤ 200000 := by rw [← hY, ByteArray.size_append, ByteArray.size_append, ByteArray.size_append, ByteArray.size_append, z16, z2]; omega
    have HYD : Hid (Y.data.toList ++ body = reqTextF m t fs body) := Lib.hid (by
      unfold reqTextF
      rw [HUS.out, HK.out, show reqLenF m k = [(nCL, itoB k)] from by unfold reqLenF; rw [if_pos (by exact .inr hk0)], HIB.out, ← msg_one, ← hY]
      simp only [ByteArray.data_append, Array.toList_append, HAD.out]
      unfold nCL crlf2
      simp)
    obtain ⟨v2, w2, hcv, hT2, hs2⟩ := rowT_conv wp Y (by unfold maxLen; omega)
    have HT2 := Lib.hid hT2
    have HS2 := Lib.hid (HSP.out.trans hs2)
    have HS12 := Lib.hid hs2
    have HB2 := Lib.hid (hs2.heap HBP.out (fun h => h))
    have y3 : w2.cell? ⟨g, 3, none⟩ = some (.slice ab k cb) := (Lib.cell_of_heap HB2.out 3).trans rfl
    have HD2 : Hid (Y.data.toList.length + k ≤ 1000000) := Lib.hid (by rw [size_list]; omega)
    clear hT2 hs2
    go_wp2_with fail
    refine (CDEC _).mono ?_
    rintro _ wd ⟨rfl, hwd⟩
    replace hwd := hwd.symm
    subst hwd
    go_wp2_with (at_builtin; refine wpList_tail_bytes rfl _ _ rfl wp.heap.size _ _ rfl HT2.out ab cb k body rfl HK.out.symm (HAT.out.spares' HS2.out (fun _ _ _ _ h => h)) HNIL.out HD2.out HS12.out.size ?_)
    intro v3 w3 hT3 hg3
    have HT3 := Lib.hid hT3
    have HS3 : Hid (Spares nowhere w w3) := Lib.hid (HS2.out.grown hg3 (fun k hk => .inr (Nat.le_trans HSP.out.size (HT2.out.own k hk))))
    clear hT3 hg3
    go_wp2
    go_ret
    refine ⟨_, rfl, ?_, HS3.out⟩
    obtain ⟨g', cur, fz, h1, h2, h3⟩ := HT3.out
    rw [← HYD.out]
    exact ⟨g', cur, fz, h1, Nat.le_trans HSP.out.size h2, h3⟩
  · have d0 : ¬ (0 : Int) < (k : Int) := by omega
    cases e1 : (m.toList == [80, 79, 83, 84]) with
    | true =>
      have HE := Lib.hid e1
      go_enter Tryz.func14, Tryz.ntmps14
      go_upto_region 1 with (fail)
      rw [HW0.out, HG.out]
      go_region_held3 (fun x => x.cell? ⟨g, 0, none⟩ = some (.string m) ∧ x.cell? ⟨g, 1, none⟩ = some (.string t) ∧ x.cell? ⟨g, 2, none⟩ = some (.slice fa n fc))
        (first | exact HSEE.out _ (by assumption) | go_keep)
        (first
          | (go_simp
             go_at_call 33
             (with_reducible refine Calls.mono (HD1.out _ (by assumption)) ?_)
             rintro e wn ⟨ad, cd, rfl, hbn, hin1⟩)
          | (go_simp
             go_at_call 33
             (with_reducible refine Calls.mono (HD2.out _ _ _ (by assumption) (by assumption)) ?_)
             rintro e wo ⟨ae, ce, rfl, hbo, hin2⟩)
          | (go_simp
             go_at_call 32
             (with_reducible refine Calls.mono (HLN.out _ _ _ (by assumption) (by assumption)) ?_)
             rintro e wp ⟨rfl, hbp⟩)
          | fail)
      have hsp : Spares nowhere w0 wp := Below.spares hbp (fun k hk => .inr hk)
      have HSP := Lib.hid (HS0.out.trans hsp)
      have HBP := Lib.hid (hsp.heap HB0.out (fun h => h))
      obtain ⟨x0, x1, x2, x3⟩ := cells4 HBP.out
      clear r1 r2 r3 r4 hbd hin1 hin2 hbn hbo hbp hsp HD1 HD2 HLN
      obtain ⟨Y, hY⟩ : ∃ Y : ByteArray, A4 ++ ({ data := #[67, 111, 110, 116, 101, 110, 116, 45, 76, 101, 110, 103, 116, 104, 58, 32] } : ByteArray) ++ IB ++ ({ data := #[13, 10] } : ByteArray) ++ ({ data := #[13, 10] } : ByteArray) = Y := ⟨_, rfl⟩
      have zY : Y.size ≤ 200000 := by rw [← hY, ByteArray.size_append, ByteArray.size_append, ByteArray.size_append, ByteArray.size_append, z16, z2]; omega
      have HYD : Hid (Y.data.toList ++ body = reqTextF m t fs body) := Lib.hid (by
        unfold reqTextF
        rw [HUS.out, HK.out, show reqLenF m k = [(nCL, itoB k)] from by unfold reqLenF; rw [if_pos (by exact .inl (by rw [HP.out, HE.out]; rfl))], HIB.out, ← msg_one, ← hY]
        simp only [ByteArray.data_append, Array.toList_append, HAD.out]
        unfold nCL crlf2
        simp)
      obtain ⟨v2, w2, hcv, hT2, hs2⟩ := rowT_conv wp Y (by unfold maxLen; omega)
      have HT2 := Lib.hid hT2
      have HS2 := Lib.hid (HSP.out.trans hs2)
      have HS12 := Lib.hid hs2
      have HB2 := Lib.hid (hs2.heap HBP.out (fun h => h))
      have y3 : w2.cell? ⟨g, 3, none⟩ = some (.slice ab k cb) := (Lib.cell_of_heap HB2.out 3).trans rfl
      have HD2 : Hid (Y.data.toList.length + k ≤ 1000000) := Lib.hid (by rw [size_list]; omega)
      clear hT2 hs2
      go_wp2_with fail
      refine (CDEC _).mono ?_
      rintro _ wd ⟨rfl, hwd⟩
      replace hwd := hwd.symm
      subst hwd
      go_wp2_with (at_builtin; refine wpList_tail_bytes rfl _ _ rfl wp.heap.size _ _ rfl HT2.out ab cb k body rfl HK.out.symm (HAT.out.spares' HS2.out (fun _ _ _ _ h => h)) HNIL.out HD2.out HS12.out.size ?_)
      intro v3 w3 hT3 hg3
      have HT3 := Lib.hid hT3
      have HS3 : Hid (Spares nowhere w w3) := Lib.hid (HS2.out.grown hg3 (fun k hk => .inr (Nat.le_trans HSP.out.size (HT2.out.own k hk))))
      clear hT3 hg3
      go_wp2
      go_ret
      refine ⟨_, rfl, ?_, HS3.out⟩
      obtain ⟨g', cur, fz, h1, h2, h3⟩ := HT3.out
      rw [← HYD.out]
      exact ⟨g', cur, fz, h1, Nat.le_trans HSP.out.size h2, h3⟩
    | false =>
      cases e2 : (m.toList == [80, 85, 84]) with
      | true =>
        have HE := Lib.hid e1
        have HE2 := Lib.hid e2
        go_enter Tryz.func14, Tryz.ntmps14
        go_upto_region 1 with (fail)
        rw [HW0.out, HG.out]
        go_region_held3 (fun x => x.cell? ⟨g, 0, none⟩ = some (.string m) ∧ x.cell? ⟨g, 1, none⟩ = some (.string t) ∧ x.cell? ⟨g, 2, none⟩ = some (.slice fa n fc))
          (first | exact HSEE.out _ (by assumption) | go_keep)
          (first
            | (go_simp
               go_at_call 33
               (with_reducible refine Calls.mono (HD1.out _ (by assumption)) ?_)
               rintro e wn ⟨ad, cd, rfl, hbn, hin1⟩)
            | (go_simp
               go_at_call 33
               (with_reducible refine Calls.mono (HD2.out _ _ _ (by assumption) (by assumption)) ?_)
               rintro e wo ⟨ae, ce, rfl, hbo, hin2⟩)
            | (go_simp
               go_at_call 32
               (with_reducible refine Calls.mono (HLN.out _ _ _ (by assumption) (by assumption)) ?_)
               rintro e wp ⟨rfl, hbp⟩)
            | fail)
        have hsp : Spares nowhere w0 wp := Below.spares hbp (fun k hk => .inr hk)
        have HSP := Lib.hid (HS0.out.trans hsp)
        have HBP := Lib.hid (hsp.heap HB0.out (fun h => h))
        obtain ⟨x0, x1, x2, x3⟩ := cells4 HBP.out
        clear r1 r2 r3 r4 hbd hin1 hin2 hbn hbo hbp hsp HD1 HD2 HLN
        obtain ⟨Y, hY⟩ : ∃ Y : ByteArray, A4 ++ ({ data := #[67, 111, 110, 116, 101, 110, 116, 45, 76, 101, 110, 103, 116, 104, 58, 32] } : ByteArray) ++ IB ++ ({ data := #[13, 10] } : ByteArray) ++ ({ data := #[13, 10] } : ByteArray) = Y := ⟨_, rfl⟩
        have zY : Y.size ≤ 200000 := by rw [← hY, ByteArray.size_append, ByteArray.size_append, ByteArray.size_append, ByteArray.size_append, z16, z2]; omega
        have HYD : Hid (Y.data.toList ++ body = reqTextF m t fs body) := Lib.hid (by
          unfold reqTextF
          rw [HUS.out, HK.out, show reqLenF m k = [(nCL, itoB k)] from by unfold reqLenF; rw [if_pos (by exact .inl (by rw [HP.out, HE.out, HE2.out]; rfl))], HIB.out, ← msg_one, ← hY]
          simp only [ByteArray.data_append, Array.toList_append, HAD.out]
          unfold nCL crlf2
          simp)
        obtain ⟨v2, w2, hcv, hT2, hs2⟩ := rowT_conv wp Y (by unfold maxLen; omega)
        have HT2 := Lib.hid hT2
        have HS2 := Lib.hid (HSP.out.trans hs2)
        have HS12 := Lib.hid hs2
        have HB2 := Lib.hid (hs2.heap HBP.out (fun h => h))
        have y3 : w2.cell? ⟨g, 3, none⟩ = some (.slice ab k cb) := (Lib.cell_of_heap HB2.out 3).trans rfl
        have HD2 : Hid (Y.data.toList.length + k ≤ 1000000) := Lib.hid (by rw [size_list]; omega)
        clear hT2 hs2
        go_wp2_with fail
        refine (CDEC _).mono ?_
        rintro _ wd ⟨rfl, hwd⟩
        replace hwd := hwd.symm
        subst hwd
        go_wp2_with (at_builtin; refine wpList_tail_bytes rfl _ _ rfl wp.heap.size _ _ rfl HT2.out ab cb k body rfl HK.out.symm (HAT.out.spares' HS2.out (fun _ _ _ _ h => h)) HNIL.out HD2.out HS12.out.size ?_)
        intro v3 w3 hT3 hg3
        have HT3 := Lib.hid hT3
        have HS3 : Hid (Spares nowhere w w3) := Lib.hid (HS2.out.grown hg3 (fun k hk => .inr (Nat.le_trans HSP.out.size (HT2.out.own k hk))))
        clear hT3 hg3
        go_wp2
        go_ret
        refine ⟨_, rfl, ?_, HS3.out⟩
        obtain ⟨g', cur, fz, h1, h2, h3⟩ := HT3.out
        rw [← HYD.out]
        exact ⟨g', cur, fz, h1, Nat.le_trans HSP.out.size h2, h3⟩
      | false =>
        cases e3 : (m.toList == [80, 65, 84, 67, 72]) with
        | true =>
          have HE := Lib.hid e1
          have HE2 := Lib.hid e2
          have HE3 := Lib.hid e3
          go_enter Tryz.func14, Tryz.ntmps14
          go_upto_region 1 with (fail)
          rw [HW0.out, HG.out]
          go_region_held3 (fun x => x.cell? ⟨g, 0, none⟩ = some (.string m) ∧ x.cell? ⟨g, 1, none⟩ = some (.string t) ∧ x.cell? ⟨g, 2, none⟩ = some (.slice fa n fc))
            (first | exact HSEE.out _ (by assumption) | go_keep)
            (first
              | (go_simp
                 go_at_call 33
                 (with_reducible refine Calls.mono (HD1.out _ (by assumption)) ?_)
                 rintro e wn ⟨ad, cd, rfl, hbn, hin1⟩)
              | (go_simp
                 go_at_call 33
                 (with_reducible refine Calls.mono (HD2.out _ _ _ (by assumption) (by assumption)) ?_)
                 rintro e wo ⟨ae, ce, rfl, hbo, hin2⟩)
              | (go_simp
                 go_at_call 32
                 (with_reducible refine Calls.mono (HLN.out _ _ _ (by assumption) (by assumption)) ?_)
                 rintro e wp ⟨rfl, hbp⟩)
              | fail)
          have hsp : Spares nowhere w0 wp := Below.spares hbp (fun k hk => .inr hk)
          have HSP := Lib.hid (HS0.out.trans hsp)
          have HBP := Lib.hid (hsp.heap HB0.out (fun h => h))
          obtain ⟨x0, x1, x2, x3⟩ := cells4 HBP.out
          clear r1 r2 r3 r4 hbd hin1 hin2 hbn hbo hbp hsp HD1 HD2 HLN
          obtain ⟨Y, hY⟩ : ∃ Y : ByteArray, A4 ++ ({ data := #[67, 111, 110, 116, 101, 110, 116, 45, 76, 101, 110, 103, 116, 104, 58, 32] } : ByteArray) ++ IB ++ ({ data := #[13, 10] } : ByteArray) ++ ({ data := #[13, 10] } : ByteArray) = Y := ⟨_, rfl⟩
          have zY : Y.size ≤ 200000 := by rw [← hY, ByteArray.size_append, ByteArray.size_append, ByteArray.size_append, ByteArray.size_append, z16, z2]; omega
          have HYD : Hid (Y.data.toList ++ body = reqTextF m t fs body) := Lib.hid (by
            unfold reqTextF
            rw [HUS.out, HK.out, show reqLenF m k = [(nCL, itoB k)] from by unfold reqLenF; rw [if_pos (by exact .inl (by rw [HP.out, HE.out, HE2.out, HE3.out]; rfl))], HIB.out, ← msg_one, ← hY]
            simp only [ByteArray.data_append, Array.toList_append, HAD.out]
            unfold nCL crlf2
            simp)
          obtain ⟨v2, w2, hcv, hT2, hs2⟩ := rowT_conv wp Y (by unfold maxLen; omega)
          have HT2 := Lib.hid hT2
          have HS2 := Lib.hid (HSP.out.trans hs2)
          have HS12 := Lib.hid hs2
          have HB2 := Lib.hid (hs2.heap HBP.out (fun h => h))
          have y3 : w2.cell? ⟨g, 3, none⟩ = some (.slice ab k cb) := (Lib.cell_of_heap HB2.out 3).trans rfl
          have HD2 : Hid (Y.data.toList.length + k ≤ 1000000) := Lib.hid (by rw [size_list]; omega)
          clear hT2 hs2
          go_wp2_with fail
          refine (CDEC _).mono ?_
          rintro _ wd ⟨rfl, hwd⟩
          replace hwd := hwd.symm
          subst hwd
          go_wp2_with (at_builtin; refine wpList_tail_bytes rfl _ _ rfl wp.heap.size _ _ rfl HT2.out ab cb k body rfl HK.out.symm (HAT.out.spares' HS2.out (fun _ _ _ _ h => h)) HNIL.out HD2.out HS12.out.size ?_)
          intro v3 w3 hT3 hg3
          have HT3 := Lib.hid hT3
          have HS3 : Hid (Spares nowhere w w3) := Lib.hid (HS2.out.grown hg3 (fun k hk => .inr (Nat.le_trans HSP.out.size (HT2.out.own k hk))))
          clear hT3 hg3
          go_wp2
          go_ret
          refine ⟨_, rfl, ?_, HS3.out⟩
          obtain ⟨g', cur, fz, h1, h2, h3⟩ := HT3.out
          rw [← HYD.out]
          exact ⟨g', cur, fz, h1, Nat.le_trans HSP.out.size h2, h3⟩
        | false =>
          have HE : Hid (putM m = false) := Lib.hid (by rw [HP.out, e1, e2, e3]; rfl)
          go_enter Tryz.func14, Tryz.ntmps14
          go_upto_region 1 with (fail)
          rw [HW0.out, HG.out]
          go_region_held3 (fun x => x.cell? ⟨g, 0, none⟩ = some (.string m) ∧ x.cell? ⟨g, 1, none⟩ = some (.string t) ∧ x.cell? ⟨g, 2, none⟩ = some (.slice fa n fc))
            (first | exact HSEE.out _ (by assumption) | go_keep)
            (first
              | (go_simp
                 go_at_call 33
                 (with_reducible refine Calls.mono (HD1.out _ (by assumption)) ?_)
                 rintro e wn ⟨ad, cd, rfl, hbn, hin1⟩)
              | (go_simp
                 go_at_call 33
                 (with_reducible refine Calls.mono (HD2.out _ _ _ (by assumption) (by assumption)) ?_)
                 rintro e wo ⟨ae, ce, rfl, hbo, hin2⟩)
              | (go_simp
                 go_at_call 32
                 (with_reducible refine Calls.mono (HLN.out _ _ _ (by assumption) (by assumption)) ?_)
                 rintro e wp ⟨rfl, hbp⟩)
              | fail)
          have hsp : Spares nowhere w0 wp := Below.spares hbp (fun k hk => .inr hk)
          have HSP := Lib.hid (HS0.out.trans hsp)
          have HBP := Lib.hid (hsp.heap HB0.out (fun h => h))
          obtain ⟨x0, x1, x2, x3⟩ := cells4 HBP.out
          clear r1 r2 r3 r4 hbd hin1 hin2 hbn hbo hbp hsp HD1 HD2 HLN
          obtain ⟨Y, hY⟩ : ∃ Y : ByteArray, A4 ++ ({ data := #[13, 10] } : ByteArray) = Y := ⟨_, rfl⟩
          have zY : Y.size ≤ 200000 := by rw [← hY, ByteArray.size_append, z2]; omega
          have HYD : Hid (Y.data.toList ++ body = reqTextF m t fs body) := Lib.hid (by
            unfold reqTextF
            rw [HUS.out, HK.out, show reqLenF m k = [] from by unfold reqLenF; rw [if_neg (by rw [HE.out]; rintro (h | h); cases h; omega)], ← msg_none, ← hY]
            simp only [ByteArray.data_append, Array.toList_append, HAD.out]
            unfold crlf2
            simp)
          obtain ⟨v2, w2, hcv, hT2, hs2⟩ := rowT_conv wp Y (by unfold maxLen; omega)
          have HT2 := Lib.hid hT2
          have HS2 := Lib.hid (HSP.out.trans hs2)
          have HS12 := Lib.hid hs2
          have HB2 := Lib.hid (hs2.heap HBP.out (fun h => h))
          have y3 : w2.cell? ⟨g, 3, none⟩ = some (.slice ab k cb) := (Lib.cell_of_heap HB2.out 3).trans rfl
          have HD2 : Hid (Y.data.toList.length + k ≤ 1000000) := Lib.hid (by rw [size_list]; omega)
          clear hT2 hs2
          go_wp2_with (at_builtin; refine wpList_tail_bytes rfl _ _ rfl wp.heap.size _ _ rfl HT2.out ab cb k body rfl HK.out.symm (HAT.out.spares' HS2.out (fun _ _ _ _ h => h)) HNIL.out HD2.out HS12.out.size ?_)
          intro v3 w3 hT3 hg3
          have HT3 := Lib.hid hT3
          have HS3 : Hid (Spares nowhere w w3) := Lib.hid (HS2.out.grown hg3 (fun k hk => .inr (Nat.le_trans HSP.out.size (HT2.out.own k hk))))
          clear hT3 hg3
          go_wp2
          go_ret
          refine ⟨_, rfl, ?_, HS3.out⟩
          obtain ⟨g', cur, fz, h1, h2, h3⟩ := HT3.out
          rw [← HYD.out]
          exact ⟨g', cur, fz, h1, Nat.le_trans HSP.out.size h2, h3⟩
end Go.Proofs.YtjpmofnnjdhamaaGreatDoor
namespace Go.Proofs.YtjpmofnnjdhamaaGreatDoor
open Go.RowKit HeadMath NormMath NormS HeadS ChunkMath HttpMath

def tenD : ByteArray := ⟨#[48, 49, 50, 51, 52, 53, 54, 55, 56, 57]⟩
theorem tenD_at {k : Nat} (h : k ≤ 9) : tenD.extract k (k + 1) = ⟨#[dg k]⟩ := by
  match k, h with
  | 0, _ => rfl
  | 1, _ => rfl
  | 2, _ => rfl
  | 3, _ => rfl
  | 4, _ => rfl
  | 5, _ => rfl
  | 6, _ => rfl
  | 7, _ => rfl
  | 8, _ => rfl
  | 9, _ => rfl
theorem ten_slice (k : Nat) (h : k ≤ 9) (w : World) : (Instr.slice 9 (.string { data := #[48, 49, 50, 51, 52, 53, 54, 55, 56, 57] }) (some (.int .i64 (k : Int))) (some (.int .i64 ((k : Int) + 1))) none).run Tryz.prog w = .ok (.string (({ data := #[48, 49, 50, 51, 52, 53, 54, 55, 56, 57] } : ByteArray).extract k (k + 1))) w := by
  have hz : ({ data := #[48, 49, 50, 51, 52, 53, 54, 55, 56, 57] } : ByteArray).size = 10 := rfl
  have e1 : ((k : Int) + 1).toNat = k + 1 := by omega
  simp [Instr.slice, run_underlying Tryz.underlying9, Instr.sliceBounds, run_sliceBound, hz, e1, (by omega : (0 : Int) ≤ (k : Int)), (by omega : (0 : Int) ≤ (k : Int) + 1), (by omega : (k : Int) + 1 ≤ 10), (by omega : (k : Int) ≤ (k : Int) + 1)]
theorem refGet_yes {l : Fs} {n v : ByteArray} {a : Option Addr} {cap k : Nat} {w : World} (hk : l.length = k) (hv : getF n l = some v) (hin : FieldsIn w.heap.size w a l) (hsm : SmallF l) (hle : l.length ≤ 1000000) (hn : n.size ≤ 140737488351232) :
    Calls Tryz.prog 37 #[.slice a k cap, .string n] w fun e w' => e = .returned (.tuple #[.string v, .bool true]) ∧ Below w.heap.size w w' := by
  refine (HeadS.refGet_any l n a cap k w hin hk.symm hsm hle hn).mono ?_
  rintro e w' ⟨hb, ⟨h, _⟩ | ⟨v', h, rfl⟩⟩
  · rw [hv] at h; cases h
  · rw [hv] at h; injection h with h; subst h; exact ⟨rfl, hb⟩
theorem refGet_not {l : Fs} {n : ByteArray} {a : Option Addr} {cap k : Nat} {w : World} (hk : l.length = k) (hv : getF n l = none) (hin : FieldsIn w.heap.size w a l) (hsm : SmallF l) (hle : l.length ≤ 1000000) (hn : n.size ≤ 140737488351232) :
    Calls Tryz.prog 37 #[.slice a k cap, .string n] w fun e w' => e = .returned (.tuple #[.string { data := #[] }, .bool false]) ∧ Below w.heap.size w w' := by
  refine (HeadS.refGet_any l n a cap k w hin hk.symm hsm hle hn).mono ?_
  rintro e w' ⟨hb, ⟨_, rfl⟩ | ⟨v', h, _⟩⟩
  · exact ⟨rfl, hb⟩
  · rw [hv] at h; cases h
set_option maxRecDepth 100000 in
set_option maxHeartbeats 16000000 in
theorem refResponseBytes_any (st : Int) (reason method : ByteArray) (fs : Fs) (body : Bs) (fa ab : Option Addr) (fc cb n k : Nat) (w : World) (hn : fs.length = n) (hk : body.length = k) (hin : FieldsIn w.heap.size w fa fs) (hat : BytesAt w ab body) (hnil : ab = none → cb = 0) (hr : reason.size ≤ 4000) (hfit : FitM fs body) :
    Calls Tryz.prog 16 #[.agg #[.int .i64 st, .string reason, .slice fa n fc, .slice ab k cb], .string method] w (MsgPost (rspTextF st reason fs body method) w) := by
  obtain ⟨w0, hw0⟩ : ∃ w0, w.alloc (.cells #[.int .i64 st, .string reason, .slice fa n fc, .slice ab k cb] 27) = w0 := ⟨_, rfl⟩
  have hs0 : Spares nowhere w w0 := by rw [← hw0]; exact (Spares.refl _ _).alloc _
  obtain ⟨g, hg⟩ : ∃ g, w.heap.size = g := ⟨_, rfl⟩
  have hb0 : w0.heap[g]? = some (.cells #[.int .i64 st, .string reason, .slice fa n fc, .slice ab k cb] 27 (0, 0)) := by rw [← hw0, ← hg]; exact heap_alloc_new _ _
  obtain ⟨LN, R⟩ := refFs_of (fc := fc) (body := body) hn (FieldsIn.quiet hin (Nat.le_refl _) hs0 hs0.size) hfit
  obtain ⟨l1, _, _, D1, D2⟩ := R.d1
  obtain ⟨us, hus⟩ : ∃ us, unframedF fs = us := ⟨_, rfl⟩
  rw [hus] at D2 R
  have HD1 := Lib.hid D1
  have HD2 := Lib.hid D2
  have HLN := Lib.hid R.ln
  have hLD := R.lnD
  have zLN := R.lnS
  have hkk : k ≤ 90000 := by have := hfit.bod; omega
  have CDEC := fun W => dec_any (k + 1) k W (by omega) (by omega)
  unfold DecPost at CDEC
  rw [show (⟨(Lib.decDigits k).toArray⟩ : ByteArray) = itoB k from rfl] at CDEC
  have zI := itoB_size k (by omega)
  obtain ⟨IB, hIB⟩ : ∃ I, itoB k = I := ⟨_, rfl⟩
  rw [hIB] at CDEC zI
  obtain ⟨q, hq⟩ : ∃ q, stat3 st = q := ⟨_, rfl⟩
  have hq1 : q < 1000 := by rw [← hq]; exact stat3_lt st
  have hmx : max st 0 % 1000 = (q : Int) := by rw [← hq]; unfold stat3; omega
  obtain ⟨a, ha⟩ : ∃ a, q / 100 = a := ⟨_, rfl⟩
  obtain ⟨b, hb⟩ : ∃ b, q / 10 % 10 = b := ⟨_, rfl⟩
  obtain ⟨c, hc⟩ : ∃ c, q % 10 = c := ⟨_, rfl⟩
  have ha9 : a ≤ 9 := by omega
  have hb9 : b ≤ 9 := by omega
  have hc9 : c ≤ 9 := by omega
  have e1 : (q : Int) / 100 = (a : Int) := by omega
  have e2 : (q : Int) / 10 % 10 = (b : Int) := by omega
  have e3 : (q : Int) % 10 = (c : Int) := by omega
  have t1 : (q : Int).tdiv 100 = (a : Int) := by rw [Int.tdiv_eq_ediv_of_nonneg (by omega)]; exact e1
  have t2 : ((q : Int).tdiv 10).tmod 10 = (b : Int) := by rw [Int.tdiv_eq_ediv_of_nonneg (by omega), Int.tmod_eq_emod_of_nonneg (by omega)]; exact e2
  have t3 : (q : Int).tmod 10 = (c : Int) := by rw [Int.tmod_eq_emod_of_nonneg (by omega)]; exact e3
  have t4 : ((q : Int) / 10).tmod 10 = (b : Int) := by rw [Int.tmod_eq_emod_of_nonneg (by omega)]; exact e2
  have s1 : (a : Int) + 1 ≤ 10 := by omega
  have s2 : (b : Int) + 1 ≤ 10 := by omega
  have s3 : (c : Int) + 1 ≤ 10 := by omega
  have k1 : (a : Int) ≤ (a : Int) + 1 := by omega
  have k2 : (b : Int) ≤ (b : Int) + 1 := by omega
  have k3 : (c : Int) ≤ (c : Int) + 1 := by omega
  have n1 : (0 : Int) ≤ (a : Int) + 1 := by omega
  have n2 : (0 : Int) ≤ (b : Int) + 1 := by omega
  have n3 : (0 : Int) ≤ (c : Int) + 1 := by omega
  have o1 : (a : Int) ≤ 9 := by omega
  have o2 : (b : Int) ≤ 9 := by omega
  have o3 : (c : Int) ≤ 9 := by omega
  have p1 : (a : Int) < 10 := by omega
  have p2 : (b : Int) < 10 := by omega
  have p3 : (c : Int) < 10 := by omega
  have m1 : ((a : Int) + 1).toNat = a + 1 := by omega
  have m2 : ((b : Int) + 1).toNat = b + 1 := by omega
  have m3 : ((c : Int) + 1).toNat = c + 1 := by omega
  obtain ⟨DA, hDA⟩ : ∃ D, ({ data := #[48, 49, 50, 51, 52, 53, 54, 55, 56, 57] } : ByteArray).extract a (a + 1) = D := ⟨_, rfl⟩
  obtain ⟨DB, hDB⟩ : ∃ D, ({ data := #[48, 49, 50, 51, 52, 53, 54, 55, 56, 57] } : ByteArray).extract b (b + 1) = D := ⟨_, rfl⟩
  obtain ⟨DC, hDC⟩ : ∃ D, ({ data := #[48, 49, 50, 51, 52, 53, 54, 55, 56, 57] } : ByteArray).extract c (c + 1) = D := ⟨_, rfl⟩
  have q1 := fun w => ten_slice a ha9 w
  have q2 := fun w => ten_slice b hb9 w
  have q3 := fun w => ten_slice c hc9 w
  rw [hDA] at q1
  rw [hDB] at q2
  rw [hDC] at q3
  have uA : DA = ⟨#[dg a]⟩ := hDA.symm.trans (tenD_at ha9)
  have uB : DB = ⟨#[dg b]⟩ := hDB.symm.trans (tenD_at hb9)
  have uC : DC = ⟨#[dg c]⟩ := hDC.symm.trans (tenD_at hc9)
  have zDA : DA.size = 1 := by rw [uA]; rfl
  have zDB : DB.size = 1 := by rw [uB]; rfl
  have zDC : DC.size = 1 := by rw [uC]; rfl
  have z1 : ({ data := #[32] } : ByteArray).size = 1 := rfl
  have z9 : ({ data := #[72, 84, 84, 80, 47, 49, 46, 49, 32] } : ByteArray).size = 9 := rfl
  have z10 : ({ data := #[48, 49, 50, 51, 52, 53, 54, 55, 56, 57] } : ByteArray).size = 10 := rfl
  have z16 : ({ data := #[67, 111, 110, 116, 101, 110, 116, 45, 76, 101, 110, 103, 116, 104, 58, 32] } : ByteArray).size = 16 := rfl
  have z2 : ({ data := #[13, 10] } : ByteArray).size = 2 := rfl
  obtain ⟨A1, hA1⟩ : ∃ A : ByteArray, ({ data := #[72, 84, 84, 80, 47, 49, 46, 49, 32] } : ByteArray) ++ DA = A := ⟨_, rfl⟩
  have zA1 : A1.size ≤ 10 := by rw [← hA1, ByteArray.size_append]; omega
  have r1 : ∀ w, (Op.stringOp .add ⟨#[72, 84, 84, 80, 47, 49, 46, 49, 32]⟩ DA).run Tryz.prog w = .ok (.string A1) w := fun w => hA1 ▸ run_string_add_sum w _ _ (by omega)
  have b1 : ¬ 9223372036854775807 < 9 + 1 := by omega
  obtain ⟨A2, hA2⟩ : ∃ A : ByteArray, A1 ++ DB = A := ⟨_, rfl⟩
  have zA2 : A2.size ≤ 11 := by rw [← hA2, ByteArray.size_append]; omega
  have r2 : ∀ w, (Op.stringOp .add A1 DB).run Tryz.prog w = .ok (.string A2) w := fun w => hA2 ▸ run_string_add_sum w _ _ (by omega)
  have b2 : ¬ 9223372036854775807 < A1.size + 1 := by omega
  obtain ⟨A3, hA3⟩ : ∃ A : ByteArray, A2 ++ DC = A := ⟨_, rfl⟩
  have zA3 : A3.size ≤ 12 := by rw [← hA3, ByteArray.size_append]; omega
  have r3 : ∀ w, (Op.stringOp .add A2 DC).run Tryz.prog w = .ok (.string A3) w := fun w => hA3 ▸ run_string_add_sum w _ _ (by omega)
  have b3 : ¬ 9223372036854775807 < A2.size + 1 := by omega
  obtain ⟨A4, hA4⟩ : ∃ A : ByteArray, A3 ++ ({ data := #[32] } : ByteArray) = A := ⟨_, rfl⟩
  have zA4 : A4.size ≤ 13 := by rw [← hA4, ByteArray.size_append]; omega
  have r4 : ∀ w, (Op.stringOp .add A3 ⟨#[32]⟩).run Tryz.prog w = .ok (.string A4) w := fun w => hA4 ▸ run_string_add_sum w _ _ (by omega)
  have b4 : ¬ 9223372036854775807 < A3.size + 1 := by omega
  obtain ⟨A5, hA5⟩ : ∃ A : ByteArray, A4 ++ reason = A := ⟨_, rfl⟩
  have zA5 : A5.size ≤ 4013 := by rw [← hA5, ByteArray.size_append]; omega
  have r5 : ∀ w, (Op.stringOp .add A4 reason).run Tryz.prog w = .ok (.string A5) w := fun w => hA5 ▸ run_string_add_sum w _ _ (by omega)
  have b5 : ¬ 9223372036854775807 < A4.size + reason.size := by omega
  obtain ⟨A6, hA6⟩ : ∃ A : ByteArray, A5 ++ ({ data := #[13, 10] } : ByteArray) = A := ⟨_, rfl⟩
  have zA6 : A6.size ≤ 4015 := by rw [← hA6, ByteArray.size_append]; omega
  have r6 : ∀ w, (Op.stringOp .add A5 ⟨#[13, 10]⟩).run Tryz.prog w = .ok (.string A6) w := fun w => hA6 ▸ run_string_add_sum w _ _ (by omega)
  have b6 : ¬ 9223372036854775807 < A5.size + 2 := by omega
  obtain ⟨A7, hA7⟩ : ∃ A : ByteArray, A6 ++ LN = A := ⟨_, rfl⟩
  have zA7 : A7.size ≤ 94015 := by rw [← hA7, ByteArray.size_append]; omega
  have r7 : ∀ w, (Op.stringOp .add A6 LN).run Tryz.prog w = .ok (.string A7) w := fun w => hA7 ▸ run_string_add_sum w _ _ (by omega)
  have b7 : ¬ 9223372036854775807 < A6.size + LN.size := by omega
  have HAD : Hid (A7.data.toList = respL q reason.data.toList ++ (crlf2 ++ linesF us)) := Lib.hid (by
    rw [← hA7, ← hA6, ← hA5, ← hA4, ← hA3, ← hA2, ← hA1, uA, uB, uC]
    simp only [ByteArray.data_append, Array.toList_append, hLD]
    unfold respL http11 digs crlf2
    rw [ha, hb, hc]
    simp)
  have hbd : Below w0.heap.size w0 w0.drew := (Below.refl _ _).drew
  have HSEE : Hid (∀ x, Below w0.heap.size w0 x → x.cell? ⟨g, 1, none⟩ = some (.string reason) ∧ x.cell? ⟨g, 2, none⟩ = some (.slice fa n fc)) := Lib.hid (fun x hx => by
    have hsx : Spares nowhere w0 x := Below.spares hx (fun k hk => .inr hk)
    have hbx := hsx.heap hb0 (fun h => h)
    exact ⟨(Lib.cell_of_heap hbx 1).trans rfl, (Lib.cell_of_heap hbx 2).trans rfl⟩)
  have HGET := Lib.hid (fun v (hv : getF nCL fs = some v) (W : World) (hW : Spares nowhere w W) => refGet_yes (cap := fc) (w := W) hn hv (FieldsIn.quiet hin (Nat.le_refl _) hW hW.size) hfit.small (by have := hfit.len; omega) (by decide))
  have HNO := Lib.hid (fun (hv : getF nCL fs = none) (W : World) (hW : Spares nowhere w W) => refGet_not (cap := fc) (w := W) hn hv (FieldsIn.quiet hin (Nat.le_refl _) hW hW.size) hfit.small (by have := hfit.len; omega) (by decide))
  have HVAL : Hid (∀ v, getF nCL fs = some v → v.size ≤ 9000) := Lib.hid (fun v hv => by
    obtain ⟨f, hf, rfl⟩ := getF_mem hv
    exact hfit.val f hf)
  unfold nCL at HGET HNO
  obtain ⟨bb, hbb⟩ : ∃ bb, bodilessF st method = bb := ⟨_, rfl⟩
  have CB := fun W => bodilessR_any st method W
  rw [hbb] at CB
  have HBB := Lib.hid hbb
  have HUS := Lib.hid hus
  have HB0 := Lib.hid hb0
  have HS0 := Lib.hid hs0
  have HG := Lib.hid hg
  have HW0 := Lib.hid hw0
  have HK := Lib.hid hk
  have HAT := Lib.hid hat
  have HNIL := Lib.hid hnil
  have HIB := Lib.hid hIB
  have HQ := Lib.hid hq
  have y0 : w0.cell? ⟨g, 0, none⟩ = some (.int .i64 st) := (Lib.cell_of_heap hb0 0).trans rfl
  obtain ⟨d, hd⟩ : ∃ d, q / 10 = d := ⟨_, rfl⟩
  have hd99 : d ≤ 99 := by omega
  have v1 : IntKind.i64.wrap (a : Int) = (a : Int) := IntWalk.i64_in _ (by omega)
  have v2 : IntKind.i64.wrap (d : Int) = (d : Int) := IntWalk.i64_in _ (by omega)
  have v3 : (q : Int).tdiv 10 = (d : Int) := by rw [Int.tdiv_eq_ediv_of_nonneg (by omega)]; omega
  have v4 : (q : Int) / 10 = (d : Int) := by omega
  have v5 : (d : Int).tmod 10 = (b : Int) := by rw [Int.tmod_eq_emod_of_nonneg (by omega)]; omega
  have v6 : (d : Int) % 10 = (b : Int) := by omega
  clear e2 t2 t4
  have w1 : IntKind.i64.wrap ((a : Int) + 1) = (a : Int) + 1 := IntWalk.i64_in _ (by omega)
  have w2 : IntKind.i64.wrap ((b : Int) + 1) = (b : Int) + 1 := IntWalk.i64_in _ (by omega)
  have w3 : IntKind.i64.wrap ((c : Int) + 1) = (c : Int) + 1 := IntWalk.i64_in _ (by omega)
  clear hin hat hnil hfit hb0 hs0 hg hus hk hn hw0 hIB hA1 hA2 hA3 hA4 hA5 hA6 hA7 D1 D2 R hLD uA uB uC hbb hq ha hb hc hd
  go_enter Tryz.func16, Tryz.ntmps16
  go_upto_region 1 with (fail)
  rw [HW0.out, HG.out]
  go_upto_region 3 with (fail)
  rw [hmx]
  clear hmx
  go_region_held3 (fun x => x.cell? ⟨g, 1, none⟩ = some (.string reason) ∧ x.cell? ⟨g, 2, none⟩ = some (.slice fa n fc))
    (first | exact HSEE.out _ (by assumption) | go_keep)
    (first
      | (go_simp
         go_at_call 33
         (with_reducible refine Calls.mono (HD1.out _ (by assumption)) ?_)
         rintro e wn ⟨ad, cd, rfl, hbn, hin1⟩)
      | (go_simp
         go_at_call 33
         (with_reducible refine Calls.mono (HD2.out _ _ _ (by assumption) (by assumption)) ?_)
         rintro e wo ⟨ae, ce, rfl, hbo, hin2⟩)
      | (go_simp
         go_at_call 32
         (with_reducible refine Calls.mono (HLN.out _ _ _ (by assumption) (by assumption)) ?_)
         rintro e wp ⟨rfl, hbp⟩)
      | fail)
  have hsp : Spares nowhere w0 wp := Below.spares hbp (fun k hk => .inr hk)
  have HSP := Lib.hid (HS0.out.trans hsp)
  have HBP := Lib.hid (hsp.heap HB0.out (fun h => h))
  obtain ⟨x0, x1, x2, x3⟩ := cells4 HBP.out
  clear r1 r2 r3 r4 r5 r6 r7 hbd hin1 hin2 hbn hbo hbp hsp HD1 HD2 HLN w1 w2 w3 e1 e3 t1 t3 v1 v2 v3 v4 v5 v6 hDA hDB hDC m1 m2 m3
  by_cases h204 : st = 204
  · have e204 : (st == 204) = true := by rw [h204]; rfl
    have H204 := Lib.hid h204
    obtain rfl : bb = true := by rw [← HBB.out, h204]; unfold bodilessF; simp
    clear h204 HGET HNO
    obtain ⟨Y, hY⟩ : ∃ Y : ByteArray, A7 ++ ({ data := #[13, 10] } : ByteArray) = Y := ⟨_, rfl⟩
    have zY : Y.size ≤ 200000 := by rw [← hY, ByteArray.size_append, z2]; omega
    have HYD : Hid (Y.data.toList = rspTextF st reason fs body method) := Lib.hid (by
      have hl : rspLenF st fs k method = [] := by rw [rspLenF_eq, if_pos (.inl H204.out)]
      unfold rspTextF rspBody
      rw [HUS.out, HK.out, HBB.out, HQ.out, hl]
      show _ = msgT _ _ []
      rw [← msg_none, ← hY]
      simp only [ByteArray.data_append, Array.toList_append, HAD.out]
      unfold crlf2
      simp)
    obtain ⟨v2, w2, hcv, hT2, hs2⟩ := rowT_conv wp Y (by unfold maxLen; omega)
    have HT2 := Lib.hid hT2
    have HS2 := Lib.hid (HSP.out.trans hs2)
    have HS12 := Lib.hid hs2
    have HB2 := Lib.hid (hs2.heap HBP.out (fun h => h))
    have y0' : w2.cell? ⟨g, 0, none⟩ = some (.int .i64 st) := (Lib.cell_of_heap HB2.out 0).trans rfl
    have y3' : w2.cell? ⟨g, 3, none⟩ = some (.slice ab k cb) := (Lib.cell_of_heap HB2.out 3).trans rfl
    clear hT2 hs2
    go_wp2_with fail
    refine (CB _).mono ?_
    rintro _ wb ⟨rfl, hwb⟩
    subst hwb
    go_wp2
    go_ret
    refine ⟨_, rfl, ?_, HS2.out⟩
    obtain ⟨g', cur, fz, h1, h2, h3⟩ := HT2.out
    rw [← HYD.out]
    exact ⟨g', cur, fz, h1, Nat.le_trans HSP.out.size h2, h3⟩
  · have e204 : (st == 204) = false := by rw [beq_eq_false_iff_ne]; exact h204
    by_cases h200 : st < 200
    · have H200 := Lib.hid h200
      obtain rfl : bb = true := by rw [← HBB.out]; unfold bodilessF; simp [h200]
      clear HGET HNO
      obtain ⟨Y, hY⟩ : ∃ Y : ByteArray, A7 ++ ({ data := #[13, 10] } : ByteArray) = Y := ⟨_, rfl⟩
      have zY : Y.size ≤ 200000 := by rw [← hY, ByteArray.size_append, z2]; omega
      have HYD : Hid (Y.data.toList = rspTextF st reason fs body method) := Lib.hid (by
        have hl : rspLenF st fs k method = [] := by rw [rspLenF_eq, if_pos (.inr H200.out)]
        unfold rspTextF rspBody
        rw [HUS.out, HK.out, HBB.out, HQ.out, hl]
        show _ = msgT _ _ []
        rw [← msg_none, ← hY]
        simp only [ByteArray.data_append, Array.toList_append, HAD.out]
        unfold crlf2
        simp)
      obtain ⟨v2, w2, hcv, hT2, hs2⟩ := rowT_conv wp Y (by unfold maxLen; omega)
      have HT2 := Lib.hid hT2
      have HS2 := Lib.hid (HSP.out.trans hs2)
      have HS12 := Lib.hid hs2
      have HB2 := Lib.hid (hs2.heap HBP.out (fun h => h))
      have y0' : w2.cell? ⟨g, 0, none⟩ = some (.int .i64 st) := (Lib.cell_of_heap HB2.out 0).trans rfl
      have y3' : w2.cell? ⟨g, 3, none⟩ = some (.slice ab k cb) := (Lib.cell_of_heap HB2.out 3).trans rfl
      clear hT2 hs2
      go_wp2_with fail
      refine (CB _).mono ?_
      rintro _ wb ⟨rfl, hwb⟩
      subst hwb
      go_wp2
      go_ret
      refine ⟨_, rfl, ?_, HS2.out⟩
      obtain ⟨g', cur, fz, h1, h2, h3⟩ := HT2.out
      rw [← HYD.out]
      exact ⟨g', cur, fz, h1, Nat.le_trans HSP.out.size h2, h3⟩
    · have H200 := Lib.hid h200
      have H204 := Lib.hid h204
      cases e5 : (method.toList == [72, 69, 65, 68]) with
      | true =>
        have HE : Hid (headIs method = true) := Lib.hid e5
        obtain rfl : bb = true := by
          rw [← HBB.out]
          unfold bodilessF
          rw [← headIs_eq, HE.out]
          rfl
        cases hv : getF ⟨#[67, 111, 110, 116, 101, 110, 116, 45, 76, 101, 110, 103, 116, 104]⟩ fs with
        | none =>
          have CG := HNO.out hv wp HSP.out
          have HV : Hid (getF nCL fs = none) := Lib.hid hv
          clear hv HGET HNO HVAL
          go_wp2_with fail
          refine CG.mono ?_
          rintro _ wg ⟨rfl, hbg⟩
          have hsg : Spares nowhere wp wg := Below.spares hbg (fun k hk => .inr hk)
          have HSG := Lib.hid (HSP.out.trans hsg)
          have HBG := Lib.hid (hsg.heap HBP.out (fun h => h))
          clear hbg hsg CG x0 x1 x2 x3
          obtain ⟨Y, hY⟩ : ∃ Y : ByteArray, A7 ++ ({ data := #[13, 10] } : ByteArray) = Y := ⟨_, rfl⟩
          have zY : Y.size ≤ 200000 := by rw [← hY, ByteArray.size_append, z2]; omega
          have HYD : Hid (Y.data.toList = rspTextF st reason fs body method) := Lib.hid (by
            have hl : rspLenF st fs k method = [] := by rw [rspLenF_eq, if_neg (by rintro (h | h); exact H204.out h; have := H200.out; omega), rspLenG_get (.inl HE.out), HV.out]; rfl
            unfold rspTextF rspBody
            rw [HUS.out, HK.out, HBB.out, HQ.out, hl]
            show _ = msgT _ _ []
            rw [← msg_none, ← hY]
            simp only [ByteArray.data_append, Array.toList_append, HAD.out]
            unfold crlf2
            simp)
          obtain ⟨v2, w2, hcv, hT2, hs2⟩ := rowT_conv wg Y (by unfold maxLen; omega)
          have HT2 := Lib.hid hT2
          have HS2 := Lib.hid (HSG.out.trans hs2)
          have HS12 := Lib.hid hs2
          have HB2 := Lib.hid (hs2.heap HBG.out (fun h => h))
          have y0' : w2.cell? ⟨g, 0, none⟩ = some (.int .i64 st) := (Lib.cell_of_heap HB2.out 0).trans rfl
          have y3' : w2.cell? ⟨g, 3, none⟩ = some (.slice ab k cb) := (Lib.cell_of_heap HB2.out 3).trans rfl
          clear hT2 hs2
          go_wp2_with fail
          refine (CB _).mono ?_
          rintro _ wb ⟨rfl, hwb⟩
          subst hwb
          go_wp2
          go_ret
          refine ⟨_, rfl, ?_, HS2.out⟩
          obtain ⟨g', cur, fz, h1, h2, h3⟩ := HT2.out
          rw [← HYD.out]
          exact ⟨g', cur, fz, h1, Nat.le_trans HSG.out.size h2, h3⟩
        | some v =>
          have CG := HGET.out v hv wp HSP.out
          have HV : Hid (getF nCL fs = some v) := Lib.hid hv
          have zv : v.size ≤ 9000 := HVAL.out v hv
          clear hv HGET HNO HVAL
          go_wp2_with fail
          refine CG.mono ?_
          rintro _ wg ⟨rfl, hbg⟩
          have hsg : Spares nowhere wp wg := Below.spares hbg (fun k hk => .inr hk)
          have HSG := Lib.hid (HSP.out.trans hsg)
          have HBG := Lib.hid (hsg.heap HBP.out (fun h => h))
          clear hbg hsg CG x0 x1 x2 x3
          obtain ⟨Y, hY⟩ : ∃ Y : ByteArray, A7 ++ ({ data := #[67, 111, 110, 116, 101, 110, 116, 45, 76, 101, 110, 103, 116, 104, 58, 32] } : ByteArray) ++ v ++ ({ data := #[13, 10] } : ByteArray) ++ ({ data := #[13, 10] } : ByteArray) = Y := ⟨_, rfl⟩
          have zY : Y.size ≤ 200000 := by rw [← hY, ByteArray.size_append, ByteArray.size_append, ByteArray.size_append, ByteArray.size_append, z16, z2]; omega
          have HYD : Hid (Y.data.toList = rspTextF st reason fs body method) := Lib.hid (by
            have hl : rspLenF st fs k method = [(nCL, v)] := by rw [rspLenF_eq, if_neg (by rintro (h | h); exact H204.out h; have := H200.out; omega), rspLenG_get (.inl HE.out), HV.out]; rfl
            unfold rspTextF rspBody
            rw [HUS.out, HK.out, HBB.out, HQ.out, hl]
            show _ = msgT _ _ []
            rw [← msg_one, ← hY]
            simp only [ByteArray.data_append, Array.toList_append, HAD.out]
            unfold nCL crlf2
            simp)
          obtain ⟨v2, w2, hcv, hT2, hs2⟩ := rowT_conv wg Y (by unfold maxLen; omega)
          have HT2 := Lib.hid hT2
          have HS2 := Lib.hid (HSG.out.trans hs2)
          have HS12 := Lib.hid hs2
          have HB2 := Lib.hid (hs2.heap HBG.out (fun h => h))
          have y0' : w2.cell? ⟨g, 0, none⟩ = some (.int .i64 st) := (Lib.cell_of_heap HB2.out 0).trans rfl
          have y3' : w2.cell? ⟨g, 3, none⟩ = some (.slice ab k cb) := (Lib.cell_of_heap HB2.out 3).trans rfl
          clear hT2 hs2
          go_wp2_with fail
          refine (CB _).mono ?_
          rintro _ wb ⟨rfl, hwb⟩
          subst hwb
          go_wp2
          go_ret
          refine ⟨_, rfl, ?_, HS2.out⟩
          obtain ⟨g', cur, fz, h1, h2, h3⟩ := HT2.out
          rw [← HYD.out]
          exact ⟨g', cur, fz, h1, Nat.le_trans HSG.out.size h2, h3⟩
      | false =>
        have HE : Hid (headIs method = false) := Lib.hid e5
        by_cases h304 : st = 304
        · have d1 : (st == 304) = true := by rw [h304]; rfl
          have H304 := Lib.hid h304
          obtain rfl : bb = true := by rw [← HBB.out, h304]; unfold bodilessF; simp
          clear h304
          cases hv : getF ⟨#[67, 111, 110, 116, 101, 110, 116, 45, 76, 101, 110, 103, 116, 104]⟩ fs with
          | none =>
            have CG := HNO.out hv wp HSP.out
            have HV : Hid (getF nCL fs = none) := Lib.hid hv
            clear hv HGET HNO HVAL
            go_wp2_with fail
            refine CG.mono ?_
            rintro _ wg ⟨rfl, hbg⟩
            have hsg : Spares nowhere wp wg := Below.spares hbg (fun k hk => .inr hk)
            have HSG := Lib.hid (HSP.out.trans hsg)
            have HBG := Lib.hid (hsg.heap HBP.out (fun h => h))
            clear hbg hsg CG x0 x1 x2 x3
            obtain ⟨Y, hY⟩ : ∃ Y : ByteArray, A7 ++ ({ data := #[13, 10] } : ByteArray) = Y := ⟨_, rfl⟩
            have zY : Y.size ≤ 200000 := by rw [← hY, ByteArray.size_append, z2]; omega
            have HYD : Hid (Y.data.toList = rspTextF st reason fs body method) := Lib.hid (by
              have hl : rspLenF st fs k method = [] := by rw [rspLenF_eq, if_neg (by rintro (h | h); exact H204.out h; have := H200.out; omega), rspLenG_get (.inr H304.out), HV.out]; rfl
              unfold rspTextF rspBody
              rw [HUS.out, HK.out, HBB.out, HQ.out, hl]
              show _ = msgT _ _ []
              rw [← msg_none, ← hY]
              simp only [ByteArray.data_append, Array.toList_append, HAD.out]
              unfold crlf2
              simp)
            obtain ⟨v2, w2, hcv, hT2, hs2⟩ := rowT_conv wg Y (by unfold maxLen; omega)
            have HT2 := Lib.hid hT2
            have HS2 := Lib.hid (HSG.out.trans hs2)
            have HS12 := Lib.hid hs2
            have HB2 := Lib.hid (hs2.heap HBG.out (fun h => h))
            have y0' : w2.cell? ⟨g, 0, none⟩ = some (.int .i64 st) := (Lib.cell_of_heap HB2.out 0).trans rfl
            have y3' : w2.cell? ⟨g, 3, none⟩ = some (.slice ab k cb) := (Lib.cell_of_heap HB2.out 3).trans rfl
            clear hT2 hs2
            go_wp2_with fail
            refine (CB _).mono ?_
            rintro _ wb ⟨rfl, hwb⟩
            subst hwb
            go_wp2
            go_ret
            refine ⟨_, rfl, ?_, HS2.out⟩
            obtain ⟨g', cur, fz, h1, h2, h3⟩ := HT2.out
            rw [← HYD.out]
            exact ⟨g', cur, fz, h1, Nat.le_trans HSG.out.size h2, h3⟩
          | some v =>
            have CG := HGET.out v hv wp HSP.out
            have HV : Hid (getF nCL fs = some v) := Lib.hid hv
            have zv : v.size ≤ 9000 := HVAL.out v hv
            clear hv HGET HNO HVAL
            go_wp2_with fail
            refine CG.mono ?_
            rintro _ wg ⟨rfl, hbg⟩
            have hsg : Spares nowhere wp wg := Below.spares hbg (fun k hk => .inr hk)
            have HSG := Lib.hid (HSP.out.trans hsg)
            have HBG := Lib.hid (hsg.heap HBP.out (fun h => h))
            clear hbg hsg CG x0 x1 x2 x3
            obtain ⟨Y, hY⟩ : ∃ Y : ByteArray, A7 ++ ({ data := #[67, 111, 110, 116, 101, 110, 116, 45, 76, 101, 110, 103, 116, 104, 58, 32] } : ByteArray) ++ v ++ ({ data := #[13, 10] } : ByteArray) ++ ({ data := #[13, 10] } : ByteArray) = Y := ⟨_, rfl⟩
            have zY : Y.size ≤ 200000 := by rw [← hY, ByteArray.size_append, ByteArray.size_append, ByteArray.size_append, ByteArray.size_append, z16, z2]; omega
            have HYD : Hid (Y.data.toList = rspTextF st reason fs body method) := Lib.hid (by
              have hl : rspLenF st fs k method = [(nCL, v)] := by rw [rspLenF_eq, if_neg (by rintro (h | h); exact H204.out h; have := H200.out; omega), rspLenG_get (.inr H304.out), HV.out]; rfl
              unfold rspTextF rspBody
              rw [HUS.out, HK.out, HBB.out, HQ.out, hl]
              show _ = msgT _ _ []
              rw [← msg_one, ← hY]
              simp only [ByteArray.data_append, Array.toList_append, HAD.out]
              unfold nCL crlf2
              simp)
            obtain ⟨v2, w2, hcv, hT2, hs2⟩ := rowT_conv wg Y (by unfold maxLen; omega)
            have HT2 := Lib.hid hT2
            have HS2 := Lib.hid (HSG.out.trans hs2)
            have HS12 := Lib.hid hs2
            have HB2 := Lib.hid (hs2.heap HBG.out (fun h => h))
            have y0' : w2.cell? ⟨g, 0, none⟩ = some (.int .i64 st) := (Lib.cell_of_heap HB2.out 0).trans rfl
            have y3' : w2.cell? ⟨g, 3, none⟩ = some (.slice ab k cb) := (Lib.cell_of_heap HB2.out 3).trans rfl
            clear hT2 hs2
            go_wp2_with fail
            refine (CB _).mono ?_
            rintro _ wb ⟨rfl, hwb⟩
            subst hwb
            go_wp2
            go_ret
            refine ⟨_, rfl, ?_, HS2.out⟩
            obtain ⟨g', cur, fz, h1, h2, h3⟩ := HT2.out
            rw [← HYD.out]
            exact ⟨g', cur, fz, h1, Nat.le_trans HSG.out.size h2, h3⟩
        · have d1 : (st == 304) = false := by rw [beq_eq_false_iff_ne]; exact h304
          have H304 := Lib.hid h304
          obtain rfl : bb = false := by
            rw [← HBB.out]
            unfold bodilessF
            rw [← headIs_eq, HE.out, e204, d1]
            simp
            omega
          clear HGET HNO HVAL
          obtain ⟨Y, hY⟩ : ∃ Y : ByteArray, A7 ++ ({ data := #[67, 111, 110, 116, 101, 110, 116, 45, 76, 101, 110, 103, 116, 104, 58, 32] } : ByteArray) ++ IB ++ ({ data := #[13, 10] } : ByteArray) ++ ({ data := #[13, 10] } : ByteArray) = Y := ⟨_, rfl⟩
          have zY : Y.size ≤ 200000 := by rw [← hY, ByteArray.size_append, ByteArray.size_append, ByteArray.size_append, ByteArray.size_append, z16, z2]; omega
          have HYD : Hid (Y.data.toList ++ body = rspTextF st reason fs body method) := Lib.hid (by
            have hl : rspLenF st fs k method = [(nCL, IB)] := by rw [rspLenF_eq, if_neg (by rintro (h | h); exact H204.out h; have := H200.out; omega), rspLenG_len HE.out H304.out, HIB.out]
            unfold rspTextF rspBody
            rw [HUS.out, HK.out, HBB.out, HQ.out, hl]
            show _ = msgT _ _ body
            rw [← msg_one, ← hY]
            simp only [ByteArray.data_append, Array.toList_append, HAD.out]
            unfold nCL crlf2
            simp)
          obtain ⟨v2, w2, hcv, hT2, hs2⟩ := rowT_conv wp Y (by unfold maxLen; omega)
          have HT2 := Lib.hid hT2
          have HS2 := Lib.hid (HSP.out.trans hs2)
          have HS12 := Lib.hid hs2
          have HB2 := Lib.hid (hs2.heap HBP.out (fun h => h))
          have y0' : w2.cell? ⟨g, 0, none⟩ = some (.int .i64 st) := (Lib.cell_of_heap HB2.out 0).trans rfl
          have y3' : w2.cell? ⟨g, 3, none⟩ = some (.slice ab k cb) := (Lib.cell_of_heap HB2.out 3).trans rfl
          clear hT2 hs2
          have HD2 : Hid (Y.data.toList.length + k ≤ 1000000) := Lib.hid (by rw [size_list]; omega)
          go_wp2_with fail
          refine (CDEC _).mono ?_
          rintro _ wd ⟨rfl, hwd⟩
          replace hwd := hwd.symm
          subst hwd
          go_wp2_with fail
          refine (CB _).mono ?_
          rintro _ wb ⟨rfl, hwb⟩
          subst hwb
          go_wp2_with (at_builtin; refine wpList_tail_bytes rfl _ _ rfl wp.heap.size _ _ rfl HT2.out ab cb k body rfl HK.out.symm (HAT.out.spares' HS2.out (fun _ _ _ _ h => h)) HNIL.out HD2.out HS12.out.size ?_)
          intro v3 w3 hT3 hg3
          have HT3 := Lib.hid hT3
          have HS3 : Hid (Spares nowhere w w3) := Lib.hid (HS2.out.grown hg3 (fun k hk => .inr (Nat.le_trans HSP.out.size (HT2.out.own k hk))))
          clear hT3 hg3
          go_wp2
          go_ret
          refine ⟨_, rfl, ?_, HS3.out⟩
          obtain ⟨g', cur, fz, h1, h2, h3⟩ := HT3.out
          rw [← HYD.out]
          exact ⟨g', cur, fz, h1, Nat.le_trans HSP.out.size h2, h3⟩
end Go.Proofs.YtjpmofnnjdhamaaGreatDoor
namespace Go.Proofs.YtjpmofnnjdhamaaGreatDoor
open Go.RowKit HeadMath NormMath NormS HeadS ChunkMath HttpMath

/-- A row of bytes that stands in all worlds above z. -/
def Stays (z : World) (g : Nat) (T : Bs) : Prop := ∀ y, Below z.heap.size z y → BytesAt y (some ⟨g, 0, none⟩) T
theorem msg_stays {T : Bs} {v x w' : World} {e : Ending} (hx : Below v.heap.size v x) (h : MsgPost T x e w') : ∃ g c, e = .returned (.slice (some ⟨g, 0, none⟩) T.length c) ∧ Hid (Stays w' g T) ∧ Below x.heap.size x w' ∧ Below v.heap.size v w' := by
  obtain ⟨g, c, he, hat, _, _, hs⟩ := h.slice
  exact ⟨g, c, he, Lib.hid (fun y hy => hat.spares' (Below.spares (F := nowhere) hy (fun k hk => .inr hk)) (fun _ _ _ _ h => h)), hs.below0, hx.trans (hs.below0.mono hx.size)⟩
structure LightN (r : ByteArray) (fs : Fs) (body : Bs) : Prop where
  r : r.size ≤ 100
  few : fewF fs
  body : body.length ≤ 1000
set_option maxRecDepth 100000 in
set_option maxHeartbeats 32000000 in
theorem writesLaw_any (m t : ByteArray) (fs : Fs) (body : Bs) (fa ab : Option Addr) (fc cb n k : Nat) (st : Int) (r method : ByteArray) (fs' : Fs) (body' : Bs) (fa' ab' : Option Addr) (fc' cb' n' k' : Nat) (w : World) (Q : ReqIn w (.agg #[.string m, .string t, .slice fa n fc, .slice ab k cb]) m t fs body fa ab fc cb n k) (P : RspIn w (.agg #[.int .i64 st, .string r, .slice fa' n' fc', .slice ab' k' cb']) st r fs' body' fa' ab' fc' cb' n' k') (hmt : method.size ≤ 140737488351232) (hM : MaxL w) (hT : TabH w) :
    Calls Tryz.prog 3 #[.agg #[.string m, .string t, .slice fa n fc, .slice ab k cb], .agg #[.int .i64 st, .string r, .slice fa' n' fc', .slice ab' k' cb'], .string method] w (KnowsH w) := by
  obtain ⟨w0, hw0⟩ : ∃ w0, (w.alloc (.cells #[.string m, .string t, .slice fa n fc, .slice ab k cb] 25)).alloc (.cells #[.int .i64 st, .string r, .slice fa' n' fc', .slice ab' k' cb'] 27) = w0 := ⟨_, rfl⟩
  have hs00 : Spares nowhere w (w.alloc (.cells #[.string m, .string t, .slice fa n fc, .slice ab k cb] 25)) := (Spares.refl _ _).alloc _
  have hs0 : Spares nowhere w w0 := by rw [← hw0]; exact hs00.alloc _
  obtain ⟨g, hg⟩ : ∃ g, w.heap.size = g := ⟨_, rfl⟩
  have hb0 : w0.heap[g]? = some (.cells #[.string m, .string t, .slice fa n fc, .slice ab k cb] 25 (0, 0)) := by
    rw [← hw0, ← hg]
    exact ((Spares.refl nowhere _).alloc _).heap (heap_alloc_new w _) (fun h => h)
  have hp0 : w0.heap[g + 1]? = some (.cells #[.int .i64 st, .string r, .slice fa' n' fc', .slice ab' k' cb'] 27 (0, 0)) := by
    rw [← hw0]
    have h := heap_alloc_new (w.alloc (.cells #[.string m, .string t, .slice fa n fc, .slice ab k cb] 25)) (.cells #[.int .i64 st, .string r, .slice fa' n' fc', .slice ab' k' cb'] 27)
    have hz : (w.alloc (.cells #[.string m, .string t, .slice fa n fc, .slice ab k cb] 25)).heap.size = g + 1 := by rw [← hg]; simp
    rw [hz] at h
    exact h
  have K := knownH_any w0 (hM.spares hs0)
  have CL : Hid (∀ W, Spares nowhere w W → Calls Tryz.prog 10 #[reqG m t (.slice fa n fc) (.slice ab k cb)] W (LitQ m t fs k W)) := Lib.hid (fun W h => by
    rw [← Q.hn]
    exact lightQ_any m t fa fc fs ab k cb W (FieldsIn.quiet Q.hin (Nat.le_refl _) h h.size) Q.hl Q.hsz Q.hbn Q.hm Q.ht)
  have CLR : Hid (∀ W, Spares nowhere w W → Calls Tryz.prog 11 #[rspG st r (.slice fa' n' fc') (.slice ab' k' cb')] W (LitR st r fs' k' W)) := Lib.hid (fun W h => by
    rw [← P.hn]
    exact lightR_any st r fa' fc' fs' ab' k' cb' W (FieldsIn.quiet P.hin (Nat.le_refl _) h h.size) P.hl P.hsz P.hbn P.hr)
  unfold reqG at CL
  unfold rspG at CLR
  unfold KnowsH at K ⊢
  have HQ := Lib.hid Q
  have HP := Lib.hid P
  have HT := Lib.hid hT
  have HS0 := Lib.hid hs0
  have HB0 := Lib.hid hb0
  have HP0 := Lib.hid hp0
  have HG := Lib.hid hg
  have HW0 := Lib.hid hw0
  clear hM hs0 hb0 hg hw0 hT Q P hp0 hs00
  go_enter Tryz.func3, Tryz.ntmps3
  go_upto_region 1 with (fail)
  rw [HW0.out, HG.out]
  go_wp2_with fail
  refine K.mono ?_
  rintro _ w1 ⟨rfl, hs1⟩
  have HS1 := Lib.hid (HS0.out.trans hs1)
  have HB1 := Lib.hid (hs1.heap HB0.out (fun h => h))
  have HP1 := Lib.hid (hs1.heap HP0.out (fun h => h))
  obtain ⟨x0, x1, x2, x3⟩ := cells4 HB1.out
  clear hs1 K
  go_wp2_with fail
  refine (CL.out w1 HS1.out).mono ?_
  rintro _ w2 ⟨b, rfl, hb2, hlit⟩
  have hs2 : Spares nowhere w1 w2 := Below.spares hb2 (fun k hk => .inr hk)
  have HS2 := Lib.hid (HS1.out.trans hs2)
  have HB2 := Lib.hid (hs2.heap HB1.out (fun h => h))
  have HP2 := Lib.hid (hs2.heap HP1.out (fun h => h))
  clear hs2 hb2 x0 x1 x2 x3
  cases b with
  | false =>
    clear hlit
    go_wp2
    go_ret
    exact ⟨rfl, HS2.out⟩
  | true =>
    obtain ⟨l1, l2, l3, l4⟩ := hlit rfl
    have HLM : Hid (LightM m t fs body) := Lib.hid ⟨l1, l2, l3, by rw [HQ.out.hk]; exact l4⟩
    obtain ⟨y0, y1, y2, y3⟩ := cells4 HP2.out
    clear hlit l1 l2 l3 l4 CL
    go_wp2_with fail
    refine (CLR.out w2 HS2.out).mono ?_
    rintro _ w3 ⟨b, rfl, hb3, hlit⟩
    have hs3 : Spares nowhere w2 w3 := Below.spares hb3 (fun k hk => .inr hk)
    have HS3 := Lib.hid (HS2.out.trans hs3)
    have HB3 := Lib.hid (hs3.heap HB2.out (fun h => h))
    have HP3 := Lib.hid (hs3.heap HP2.out (fun h => h))
    clear hs3 hb3 y0 y1 y2 y3 CLR
    cases b with
    | false =>
      clear hlit
      go_wp2
      go_ret
      exact ⟨rfl, HS3.out⟩
    | true =>
      obtain ⟨l1, l2, l3⟩ := hlit rfl
      have HLN : Hid (LightN r fs' body') := Lib.hid ⟨l1, l2, by rw [HP.out.hk]; exact l3⟩
      clear hlit l1 l2 l3
      by_cases h100 : 100 < method.size
      · have d0 : (100 : Int) < (method.size : Int) := by omega
        go_wp2
        go_ret
        exact ⟨rfl, HS3.out⟩
      have d0 : ¬ (100 : Int) < (method.size : Int) := by omega
      obtain ⟨T1, hT1⟩ : ∃ T, reqTextF m t fs body = T := ⟨_, rfl⟩
      obtain ⟨T2, hT2⟩ : ∃ T, rspTextF st r fs' body' method = T := ⟨_, rfl⟩
      obtain ⟨bb, hbb⟩ : ∃ b, bodilessF st method = b := ⟨_, rfl⟩
      have C1 : Hid (∀ x, Below w3.heap.size w3 x → Calls Tryz.prog 13 #[.agg #[.string m, .string t, .slice fa n fc, .slice ab k cb]] x fun e w' => ∃ g c, e = .returned (.slice (some ⟨g, 0, none⟩) T1.length c) ∧ Hid (Stays w' g T1) ∧ Below x.heap.size x w' ∧ Below w3.heap.size w3 w') := Lib.hid (fun x hx => by
        have h := HS3.out.trans (Below.spares (F := nowhere) hx (fun k hk => .inr hk))
        rw [← hT1]
        exact (requestBytes_any m t fs body fa ab fc cb n k x HQ.out.hn HQ.out.hk (FieldsIn.quiet HQ.out.hin (Nat.le_refl _) h h.size) (HQ.out.hat.spares' h (fun _ _ _ _ h => h)) HQ.out.hnil (by have := HLM.out.m; omega) (by have := HLM.out.t; omega) (few_fit HLM.out.few HLM.out.body) (HT.out.spares h (fun h => h))).mono fun e w' hm => msg_stays hx hm)
      have C2 : Hid (∀ x, Below w3.heap.size w3 x → Calls Tryz.prog 14 #[.agg #[.string m, .string t, .slice fa n fc, .slice ab k cb]] x fun e w' => ∃ g c, e = .returned (.slice (some ⟨g, 0, none⟩) T1.length c) ∧ Hid (Stays w' g T1) ∧ Below x.heap.size x w' ∧ Below w3.heap.size w3 w') := Lib.hid (fun x hx => by
        have h := HS3.out.trans (Below.spares (F := nowhere) hx (fun k hk => .inr hk))
        rw [← hT1]
        exact (refRequestBytes_any m t fs body fa ab fc cb n k x HQ.out.hn HQ.out.hk (FieldsIn.quiet HQ.out.hin (Nat.le_refl _) h h.size) (HQ.out.hat.spares' h (fun _ _ _ _ h => h)) HQ.out.hnil (by have := HLM.out.m; omega) (by have := HLM.out.t; omega) (few_fit HLM.out.few HLM.out.body)).mono fun e w' hm => msg_stays hx hm)
      have C3 : Hid (∀ x, Below w3.heap.size w3 x → Calls Tryz.prog 15 #[.agg #[.int .i64 st, .string r, .slice fa' n' fc', .slice ab' k' cb'], .string method] x fun e w' => ∃ g c, e = .returned (.slice (some ⟨g, 0, none⟩) T2.length c) ∧ Hid (Stays w' g T2) ∧ Below x.heap.size x w' ∧ Below w3.heap.size w3 w') := Lib.hid (fun x hx => by
        have h := HS3.out.trans (Below.spares (F := nowhere) hx (fun k hk => .inr hk))
        rw [← hT2]
        exact (responseBytes_any st r method fs' body' fa' ab' fc' cb' n' k' x HP.out.hst.1 HP.out.hst.2 HP.out.hn HP.out.hk (FieldsIn.quiet HP.out.hin (Nat.le_refl _) h h.size) (HP.out.hat.spares' h (fun _ _ _ _ h => h)) HP.out.hnil (by have := HLN.out.r; omega) (few_fit HLN.out.few HLN.out.body) (HT.out.spares h (fun h => h))).mono fun e w' hm => msg_stays hx hm)
      have C4 : Hid (∀ x, Below w3.heap.size w3 x → Calls Tryz.prog 16 #[.agg #[.int .i64 st, .string r, .slice fa' n' fc', .slice ab' k' cb'], .string method] x fun e w' => ∃ g c, e = .returned (.slice (some ⟨g, 0, none⟩) T2.length c) ∧ Hid (Stays w' g T2) ∧ Below x.heap.size x w' ∧ Below w3.heap.size w3 w') := Lib.hid (fun x hx => by
        have h := HS3.out.trans (Below.spares (F := nowhere) hx (fun k hk => .inr hk))
        rw [← hT2]
        exact (refResponseBytes_any st r method fs' body' fa' ab' fc' cb' n' k' x HP.out.hn HP.out.hk (FieldsIn.quiet HP.out.hin (Nat.le_refl _) h h.size) (HP.out.hat.spares' h (fun _ _ _ _ h => h)) HP.out.hnil (by have := HLN.out.r; omega) (few_fit HLN.out.few HLN.out.body)).mono fun e w' hm => msg_stays hx hm)
      have C5 : Hid (∀ x, Below w3.heap.size w3 x → Calls Tryz.prog 17 #[.int .i64 st, .string method] x fun e w' => e = .returned (.bool bb) ∧ Below w3.heap.size w3 w') := Lib.hid (fun x hx => (bodiless_any st method x).mono fun e w' ⟨he, hw⟩ => ⟨by rw [← hbb]; exact he, by rw [hw]; exact hx⟩)
      have C6 : Hid (∀ x, Below w3.heap.size w3 x → Calls Tryz.prog 18 #[.int .i64 st, .string method] x fun e w' => e = .returned (.bool bb) ∧ Below w3.heap.size w3 w') := Lib.hid (fun x hx => (bodilessR_any st method x).mono fun e w' ⟨he, hw⟩ => ⟨by rw [← hbb]; exact he, by rw [hw]; exact hx⟩)
      have C7 : Hid (∀ T x z1 z2 g1 g2 c1 c2, Below w3.heap.size w3 x → Hid (Stays z1 g1 T) → Hid (Stays z2 g2 T) → Below z1.heap.size z1 x → Below z2.heap.size z2 x → Calls Tryz.prog 12 #[.slice (some ⟨g1, 0, none⟩) T.length c1, .slice (some ⟨g2, 0, none⟩) T.length c2] x fun e w' => e = .returned (.bool true) ∧ Below w3.heap.size w3 w') := Lib.hid (fun T x z1 z2 g1 g2 c1 c2 hx h1 h2 hb1 hb2 => by
        have h := bytes_any T T (some ⟨g1, 0, none⟩) (some ⟨g2, 0, none⟩) c1 c2 x (h1.out x hb1) (h2.out x hb2)
        exact h.mono fun e w' ⟨he, hw⟩ => ⟨by simpa using he, by rw [← hw]; exact hx⟩)
      have HSEE : Hid (∀ x, Below w3.heap.size w3 x → x.cell? ⟨g, 0, none⟩ = some (.string m) ∧ x.cell? ⟨g, 1, none⟩ = some (.string t) ∧ x.cell? ⟨g, 2, none⟩ = some (.slice fa n fc) ∧ x.cell? ⟨g, 3, none⟩ = some (.slice ab k cb) ∧ x.cell? ⟨g + 1, 0, none⟩ = some (.int .i64 st) ∧ x.cell? ⟨g + 1, 1, none⟩ = some (.string r) ∧ x.cell? ⟨g + 1, 2, none⟩ = some (.slice fa' n' fc') ∧ x.cell? ⟨g + 1, 3, none⟩ = some (.slice ab' k' cb')) := Lib.hid (fun x hx => by
        have hsx : Spares nowhere w3 x := Below.spares hx (fun k hk => .inr hk)
        obtain ⟨a0, a1, a2, a3⟩ := cells4 (hsx.heap HB3.out (fun h => h))
        obtain ⟨b0, b1, b2, b3⟩ := cells4 (hsx.heap HP3.out (fun h => h))
        exact ⟨a0, a1, a2, a3, b0, b1, b2, b3⟩)
      have hbd : Below w3.heap.size w3 w3.drew := (Below.refl _ _).drew
      clear hT1 hT2 hbb h100 hmt
      cases bb
      all_goals
        go_wp2
        go_region_held3 (fun x => x.cell? ⟨g, 0, none⟩ = some (.string m) ∧ x.cell? ⟨g, 1, none⟩ = some (.string t) ∧ x.cell? ⟨g, 2, none⟩ = some (.slice fa n fc) ∧ x.cell? ⟨g, 3, none⟩ = some (.slice ab k cb) ∧ x.cell? ⟨g + 1, 0, none⟩ = some (.int .i64 st) ∧ x.cell? ⟨g + 1, 1, none⟩ = some (.string r) ∧ x.cell? ⟨g + 1, 2, none⟩ = some (.slice fa' n' fc') ∧ x.cell? ⟨g + 1, 3, none⟩ = some (.slice ab' k' cb'))
          (first | exact HSEE.out _ (by assumption) | go_keep)
          (first
            | (go_simp
               go_at_call 13
               (with_reducible refine Calls.mono (C1.out _ (by assumption)) ?_)
               rintro e wn ⟨gn, cn, rfl, hst, hbx, hbn⟩)
            | (go_simp
               go_at_call 14
               (with_reducible refine Calls.mono (C2.out _ (by assumption)) ?_)
               rintro e wn ⟨gn, cn, rfl, hst, hbx, hbn⟩)
            | (go_simp
               go_at_call 15
               (with_reducible refine Calls.mono (C3.out _ (by assumption)) ?_)
               rintro e wn ⟨gn, cn, rfl, hst, hbx, hbn⟩)
            | (go_simp
               go_at_call 16
               (with_reducible refine Calls.mono (C4.out _ (by assumption)) ?_)
               rintro e wn ⟨gn, cn, rfl, hst, hbx, hbn⟩)
            | (go_simp
               go_at_call 12
               (with_reducible refine Calls.mono (C7.out _ _ _ _ _ _ _ _ (by assumption) (by assumption) (by assumption) (by first | assumption | exact Below.refl _ _) (by first | assumption | exact Below.refl _ _)) ?_)
               rintro e wn ⟨rfl, hbn⟩)
            | (go_simp
               go_at_call 17
               (with_reducible refine Calls.mono (C5.out _ (by assumption)) ?_)
               rintro e wn ⟨rfl, hbn⟩)
            | (go_simp
               go_at_call 18
               (with_reducible refine Calls.mono (C6.out _ (by assumption)) ?_)
               rintro e wn ⟨rfl, hbn⟩)
            | fail)
        have HF := Lib.hid (HS3.out.trans (Below.spares (F := nowhere) hbn (fun k hk => .inr hk)))
        go_wp2
        go_ret
        exact ⟨rfl, HF.out⟩
end Go.Proofs.YtjpmofnnjdhamaaGreatDoor
