/-
  http's writing: the length as a field, a status's three digits, the length of a response.
  http.RequestBytes.
  http.responseLength, http.ResponseBytes.
  Messages read, written and read again: plain mathematics.
  Framing's fields left out, and the length put in their place: plain mathematics.
  Messages of few bytes: no line of theirs is too long.
  A request and a response read, written, read again: plain mathematics.
  A response read, written, read again; that what is wrong has a number: plain mathematics.
  What is wrong with a message has a number that isn't 0: plain mathematics.
  ambrylaw12.framed: fields without framing's, by the reference.
  HttpBack.
  A request and a response that came in by value, opened; the table of powers of ten.
-/
import Derived.Lib.AppendIntMem
import Derived.Deep.RegionHeld3
import Derived.OpenShut
import Derived.ProofKit
import Derived.Lib.LaidTab
import Derived.Lib.SmallJoins
import Derived.Test.YtjpmofnnjdhamaaGreatDoorRows
import Derived.Test.YtjpmofnnjdhamaaGreatDoorMg1
import Derived.Test.YtjpmofnnjdhamaaGreatDoorMg4
import Derived.Test.YtjpmofnnjdhamaaGreatDoorMg15
import Derived.Test.YtjpmofnnjdhamaaGreatDoorMg20
import Derived.Test.YtjpmofnnjdhamaaGreatDoorMg21
import Derived.Test.YtjpmofnnjdhamaaGreatDoorMg25
import Derived.Test.YtjpmofnnjdhamaaGreatDoorMg28
import Derived.Test.YtjpmofnnjdhamaaGreatDoorMg30
import Derived.Test.YtjpmofnnjdhamaaGreatDoorMg32
import Derived.Test.YtjpmofnnjdhamaaGreatDoorMg33
import Derived.Test.YtjpmofnnjdhamaaGreatDoorMg34
import Derived.Test.YtjpmofnnjdhamaaGreatDoorMg37
import Derived.Test.YtjpmofnnjdhamaaGreatDoorMg41
namespace Go.Proofs.YtjpmofnnjdhamaaGreatDoor
open Go.RowKit HeadMath NormMath NormS HeadS ChunkMath HttpMath

def TabH (w : World) : Prop := Lib.TabIs Tryz.prog w "internal/strconv.uint64pow10" .u64 Lib.pow10Tab
theorem TabH.spares {F : Nat → Prop} {w w' : World} (h : TabH w) (hs : Spares F w w') (hF : ¬ F 1) : TabH w' := by
  unfold TabH Lib.TabIs World.var? at h ⊢
  have hg : Tryz.prog.globalNamed "internal/strconv.uint64pow10" = some 1 := by kernel_rfl
  simp only [hg, Option.bind_some] at h ⊢
  have hlt : 1 < w.heap.size := by
    rcases Nat.lt_or_ge 1 w.heap.size with h1 | h1
    · exact h1
    · simp [Array.getElem?_eq_none h1] at h
  rw [hs.block _ hlt hF]
  exact h
theorem itoa_call (n : Nat) (w : World) (hn : n ≤ 9223372036854775807) (ht : TabH w) : Calls Tryz.prog 62 #[.int .i64 n] w fun e w' => e = .returned (.string (itoB n)) ∧ Spares nowhere w w' := by
  have c := Tryz.strconv_Itoa n (by omega) (by omega) w ht
  have hd : (⟨(Lib.itoa n).toArray⟩ : ByteArray) = itoB n := by
    unfold itoB Lib.itoa
    rw [if_neg (by omega)]
    rfl
  rw [hd] at c
  exact c.mono fun e w' ⟨he, k, os, hw⟩ => ⟨he, hw ▸ Below.spares (F := nowhere) (Lib.below_grow _ _ (Nat.le_refl _) k os) (fun k hk => .inr hk)⟩
theorem itoB_size (n : Nat) (hn : n ≤ 9223372036854775807) : (itoB n).size ≤ 21 := by
  have := dec_len n hn
  show (Lib.decDigits n).toArray.size ≤ _
  simpa using this
def LenFPost (n : Nat) (w : World) (e : Ending) (w' : World) : Prop := e = .returned (.agg #[.string nCL, .string (itoB n)]) ∧ Spares nowhere w w'
set_option maxRecDepth 100000 in
set_option maxHeartbeats 4000000 in
theorem lengthField_any (n : Nat) (w : World) (hn : n ≤ 9223372036854775807) (ht : TabH w) : Calls Tryz.prog 30 #[.int .i64 n] w (LenFPost n w) := by
  have hs0 : Spares nowhere w (w.alloc (.cells #[.string ⟨#[]⟩, .string ⟨#[]⟩] 59)) := (Spares.refl _ _).alloc _
  have C := itoa_call n (w.alloc (.cells #[.string ⟨#[]⟩, .string ⟨#[]⟩] 59)) hn (ht.spares hs0 (fun h => h))
  have H0 : Hid ((w.alloc (.cells #[.string ⟨#[]⟩, .string ⟨#[]⟩] 59)).heap[w.heap.size]? = some (.cells #[.string ⟨#[]⟩, .string ⟨#[]⟩] 59 (0, 0))) := Lib.hid (heap_alloc_new _ _)
  have HS0 := Lib.hid hs0
  obtain ⟨X, hX⟩ : ∃ X, itoB n = X := ⟨_, rfl⟩
  unfold LenFPost
  rw [hX] at C ⊢
  unfold nCL
  clear hX hs0 ht
  go_enter Tryz.func30, Tryz.ntmps30
  go_wp2_with fail
  refine C.mono ?_
  rintro _ w1 ⟨rfl, hs1⟩
  have h1 := hs1.heap H0.out (fun h => h)
  obtain ⟨g, hg⟩ : ∃ g, w.heap.size = g := ⟨_, rfl⟩
  rw [hg] at h1
  have HG := Lib.hid hg
  have x0 : w1.cell? ⟨g, 0, none⟩ = some (.string ⟨#[]⟩) := (Lib.cell_of_heap h1 0).trans rfl
  have f0 : w1.frozen? ⟨g, 0, none⟩ = false := Lib.frozen_of_heap h1 0
  have h2 := set_at (i := 0) h1 (.string ⟨#[67, 111, 110, 116, 101, 110, 116, 45, 76, 101, 110, 103, 116, 104]⟩)
  have x1 : (w1.setCell ⟨g, 0, none⟩ (.string ⟨#[67, 111, 110, 116, 101, 110, 116, 45, 76, 101, 110, 103, 116, 104]⟩)).cell? ⟨g, 1, none⟩ = some (.string ⟨#[]⟩) := (Lib.cell_of_heap h2 1).trans rfl
  have f1 : (w1.setCell ⟨g, 0, none⟩ (.string ⟨#[67, 111, 110, 116, 101, 110, 116, 45, 76, 101, 110, 103, 116, 104]⟩)).frozen? ⟨g, 1, none⟩ = false := Lib.frozen_of_heap h2 1
  have h3 := set_at (i := 1) h2 (.string X)
  obtain ⟨u, hu⟩ : ∃ u, (w1.setCell ⟨g, 0, none⟩ (.string ⟨#[67, 111, 110, 116, 101, 110, 116, 45, 76, 101, 110, 103, 116, 104]⟩)).setCell ⟨g, 1, none⟩ (.string X) = u := ⟨_, rfl⟩
  have HSU : Hid (Spares nowhere w u) := Lib.hid (by
    rw [← hu]
    refine (HS0.out.trans hs1).trans' (((Spares.refl (fun k => k = g) w1).setCell (p := ⟨g, 0, none⟩) (.inl rfl) _).setCell (p := ⟨g, 1, none⟩) (.inl rfl) _) (fun k hk => .inr (by rw [HG.out]; omega)))
  rw [hu] at h3
  have y0 : u.cell? ⟨g, 0, none⟩ = some (.string ⟨#[67, 111, 110, 116, 101, 110, 116, 45, 76, 101, 110, 103, 116, 104]⟩) := (Lib.cell_of_heap h3 0).trans rfl
  have y1 : u.cell? ⟨g, 1, none⟩ = some (.string X) := (Lib.cell_of_heap h3 1).trans rfl
  clear hg h1 h2 h3 hs1 C H0 HS0
  try rw [HG.out]
  go_wp2
  exact bodyPost_ret (v := .agg #[.string ⟨#[67, 111, 110, 116, 101, 110, 116, 45, 76, 101, 110, 103, 116, 104]⟩, .string X]) (by simp [results, Tryz.results30, asAddr, go_sem, y0, y1]) rfl ⟨rfl, HSU.out⟩
/-- The three digits of a status. -/
theorem dec_step {n : Nat} (h : 10 ≤ n) : Lib.decDigits n = Lib.decDigits (n / 10) ++ [UInt8.ofNat (48 + n % 10)] := by rw [Lib.decDigits, dif_neg (by omega)]
theorem dec_three (n : Nat) (h : n < 1000) : Lib.decDigits (n + 1000) = 49 :: digs n := by
  rw [dec_step (by omega), dec_step (by omega), dec_step (by omega), Lib.decDigits_one (by omega)]
  unfold digs dg
  have e1 : (n + 1000) / 10 / 10 / 10 = 1 := by omega
  have e2 : (n + 1000) / 10 / 10 % 10 = n / 100 := by omega
  have e3 : (n + 1000) / 10 % 10 = n / 10 % 10 := by omega
  have e4 : (n + 1000) % 10 = n % 10 := by omega
  rw [e1, e2, e3, e4]
  rfl
def DigPost (n : Nat) (w : World) (e : Ending) (w' : World) : Prop := e = .returned (.string ⟨(digs n).toArray⟩) ∧ Spares nowhere w w'
set_option maxRecDepth 100000 in
set_option maxHeartbeats 4000000 in
theorem digits_any (st : Int) (w : World) (h0 : -9223372036854775808 ≤ st) (h1 : st ≤ 9223372036854775807) (ht : TabH w) : Calls Tryz.prog 36 #[.int .i64 st] w (DigPost (stat3 st) w) := by
  obtain ⟨n, hn⟩ : ∃ n, stat3 st = n := ⟨_, rfl⟩
  have hn1 : n < 1000 := by rw [← hn]; exact stat3_lt st
  have hmx : (max st 0 : Int).tmod 1000 = (n : Int) := by
    rw [Int.tmod_eq_emod_of_nonneg (by omega)]
    rw [← hn]; unfold stat3; omega
  have hmx2 : (max st 0 : Int) % 1000 = (n : Int) := by rw [← hn]; unfold stat3; omega
  have C := itoa_call (n + 1000) w (by omega) ht
  obtain ⟨X, hX⟩ : ∃ X, itoB (n + 1000) = X := ⟨_, rfl⟩
  have hXs : X.size = 4 := by
    rw [← hX]; unfold itoB
    rw [dec_three n hn1]; rfl
  have HXE : Hid (X.extract 1 4 = ⟨(digs n).toArray⟩) := Lib.hid (by
    rw [← hX]; unfold itoB
    rw [dec_three n hn1]
    rfl)
  rw [hX] at C
  rw [hn]
  unfold DigPost
  have hcast : ((n + 1000 : Nat) : Int) = max st 0 % 1000 + 1000 := by omega
  rw [hcast] at C
  clear hX hn ht hcast hmx hmx2
  go_enter Tryz.func36, Tryz.ntmps36
  go_wp2_with fail
  refine C.mono ?_
  rintro _ w1 ⟨rfl, hs1⟩
  go_wp2
  go_ret
  exact ⟨by rw [← HXE.out]; rfl, hs1⟩
end Go.Proofs.YtjpmofnnjdhamaaGreatDoor
namespace Go.Proofs.YtjpmofnnjdhamaaGreatDoor
open Go.RowKit HeadMath NormMath NormS HeadS ChunkMath HttpMath

theorem msg_up {T T' : Bs} {w w5 w6 : World} {e : Ending} (h : MsgPost T w5 e w6) (hs : Spares nowhere w w5) (hT : T = T') : MsgPost T' w e w6 := by
  obtain ⟨v, he, ⟨g, cur, fz, h1, h2, h3⟩, hsp⟩ := h
  subst hT
  exact ⟨v, he, ⟨g, cur, fz, h1, Nat.le_trans hs.size h2, h3⟩, hs.trans hsp⟩
theorem lines_filter (p : ByteArray × ByteArray → Bool) : ∀ (l : Fs), (linesF (l.filter p)).length ≤ (linesF l).length
  | [] => Nat.le_refl _
  | f :: l => by
    have ih := lines_filter p l
    have e : ∀ (x : ByteArray × ByteArray) (L : Fs), linesF (x :: L) = HeadS.lineF x ++ linesF L := fun x L => by unfold linesF; rw [List.flatMap_cons]
    rw [List.filter_cons]
    split
    · rw [e, e, List.length_append, List.length_append]; omega
    · rw [e, List.length_append]; omega
theorem unframed_mem {l : Fs} : ∀ f ∈ unframedF l, f ∈ l := fun f hf => by
  unfold unframedF dropF at hf
  exact (List.mem_filter.1 (List.mem_filter.1 hf).1).1
theorem unframed_len (l : Fs) : (unframedF l).length ≤ l.length := by
  unfold unframedF
  exact Nat.le_trans (dropF_len _ _) (dropF_len _ _)
theorem unframed_lines (l : Fs) : (linesF (unframedF l)).length ≤ (linesF l).length := by
  unfold unframedF dropF
  exact Nat.le_trans (lines_filter _ _) (lines_filter _ _)
theorem lines_of {l : Fs} {a c : Nat} (ha : l.length ≤ a) (hc : ∀ f ∈ l, f.1.size + f.2.size ≤ c) : (linesF l).length ≤ a * (c + 4) := by
  have key : ∀ l : Fs, (∀ f ∈ l, f.1.size + f.2.size ≤ c) → (linesF l).length ≤ l.length * (c + 4) := by
    intro l
    induction l with
    | nil => intro _; simp [linesF]
    | cons f l ih =>
      intro h
      have e : linesF (f :: l) = HeadS.lineF f ++ linesF l := by unfold linesF; rw [List.flatMap_cons]
      have h1 := h f (by simp)
      have h2 := ih (fun g hg => h g (by simp [hg]))
      have h3 : (HeadS.lineF f).length = f.1.size + f.2.size + 4 := by
        unfold HeadS.lineF
        simp only [List.length_append, List.length_cons, List.length_nil, size_list]
        omega
      rw [e, List.length_append, List.length_cons, h3, Nat.add_mul]
      omega
  refine Nat.le_trans (key l hc) (Nat.mul_le_mul_right _ ha)
/-- What a message's maker wants of its fields and its body. -/
structure FitM (fs : Fs) (body : Bs) : Prop where
  len : fs.length ≤ 900
  sz : ∀ f ∈ fs, f.1.size ≤ 1000000 ∧ f.2.size ≤ 1000000
  val : ∀ f ∈ fs, f.2.size ≤ 9000
  lin : (linesF fs).length ≤ 90000
  bod : body.length ≤ 90000
theorem FitM.small {fs : Fs} {body : Bs} (h : FitM fs body) : SmallF fs := fun j hj => by have := h.sz _ (List.getElem_mem hj); omega
/-- The fields without framing's, and perhaps one of the length. -/
theorem fit_len {fs : Fs} {body : Bs} {n : Nat} (h : FitM fs body) (hn : n ≤ 100000) (l : Fs) (hl : l = [] ∨ l = [(nCL, itoB n)]) : (unframedF fs ++ l).length ≤ 1000 ∧ (∀ j (h : j < (unframedF fs ++ l).length), (unframedF fs ++ l)[j].1.size ≤ 1000000 ∧ (unframedF fs ++ l)[j].2.size ≤ 1000000) ∧ (linesF (unframedF fs ++ l)).length ≤ 100000 := by
  have h1 := unframed_len fs
  have h2 := unframed_lines fs
  have h3 := h.len
  have h4 := h.lin
  have hi := itoB_size n (by omega)
  have hz : nCL.size = 14 := rfl
  rcases hl with rfl | rfl
  · rw [List.append_nil]
    exact ⟨by omega, fun j hj => h.sz _ (unframed_mem _ (List.getElem_mem hj)), by omega⟩
  · refine ⟨by rw [List.length_append]; simp; omega, fun j hj => ?_, ?_⟩
    · rcases List.mem_append.1 (List.getElem_mem hj) with hm | hm
      · exact h.sz _ (unframed_mem _ hm)
      · have e : (unframedF fs ++ [(nCL, itoB n)])[j] = (nCL, itoB n) := by simpa using hm
        rw [e]
        exact ⟨by rw [hz]; omega, by show (itoB n).size ≤ _; omega⟩
    · rw [linesF_app, linesF_one, List.length_append]
      have : (HeadS.lineF (nCL, itoB n)).length = nCL.size + (itoB n).size + 4 := by
        unfold HeadS.lineF
        simp only [List.length_append, List.length_cons, List.length_nil, size_list]
        omega
      rw [this, hz]
      omega
theorem one_len (w : World) (n v : ByteArray) : FieldsIn (w.heap.size + 1) (w.alloc (.cells #[.string n, .string v] 59)) (some ⟨w.heap.size, 0, none⟩) [(n, v)] := by
  intro j hj
  obtain rfl : j = 0 := by simpa using hj
  exact ⟨w.heap.size, 0, rfl, by omega, by simp [go_sem], by simp [go_sem]⟩
set_option maxRecDepth 100000 in
set_option maxHeartbeats 8000000 in
theorem requestBytes_any (m t : ByteArray) (fs : Fs) (body : Bs) (fa ab : Option Addr) (fc cb n k : Nat) (w : World) (hn : fs.length = n) (hk : body.length = k) (hin : FieldsIn w.heap.size w fa fs) (hat : BytesAt w ab body) (hnil : ab = none → cb = 0) (hm : m.size ≤ 4000) (ht : t.size ≤ 4000) (hfit : FitM fs body) (hT : TabH w) :
    Calls Tryz.prog 13 #[.agg #[.string m, .string t, .slice fa n fc, .slice ab k cb]] w (MsgPost (reqTextF m t fs body) w) := by
  obtain ⟨w0, hw0⟩ : ∃ w0, w.alloc (.cells #[.string m, .string t, .slice fa n fc, .slice ab k cb] 25) = w0 := ⟨_, rfl⟩
  have hs0 : Spares nowhere w w0 := by rw [← hw0]; exact (Spares.refl _ _).alloc _
  obtain ⟨g, hg⟩ : ∃ g, w.heap.size = g := ⟨_, rfl⟩
  have hb0 : w0.heap[g]? = some (.cells #[.string m, .string t, .slice fa n fc, .slice ab k cb] 25 (0, 0)) := by rw [← hw0, ← hg]; exact heap_alloc_new _ _
  have hz0 : g < w0.heap.size := by rw [← hw0, ← hg]; simp
  have CU := unframed_any fs fa fc n w0 hn.symm (FieldsIn.quiet hin (Nat.le_refl _) hs0 hs0.size) hfit.small (by have := hfit.len; omega)
  obtain ⟨us, hus⟩ : ∃ us, unframedF fs = us := ⟨_, rfl⟩
  rw [hus] at CU
  unfold FieldPost at CU
  have hkk : k ≤ 90000 := by have := hfit.bod; omega
  have CLN : Hid (∀ W, Spares nowhere w W → Calls Tryz.prog 30 #[.int .i64 k] W (LenFPost k W)) := Lib.hid (fun W h => lengthField_any k W (by omega) (hT.spares h (fun h => h)))
  unfold LenFPost nCL at CLN
  have HUS := Lib.hid hus
  have HB0 := Lib.hid hb0
  have HS0 := Lib.hid hs0
  have HG := Lib.hid hg
  have HZ0 := Lib.hid hz0
  have HW0 := Lib.hid hw0
  have HK := Lib.hid hk
  have HAT := Lib.hid hat
  have HNIL := Lib.hid hnil
  have HFIT := Lib.hid hfit
  have y0 : w0.cell? ⟨g, 0, none⟩ = some (.string m) := (Lib.cell_of_heap hb0 0).trans rfl
  have y2 : w0.cell? ⟨g, 2, none⟩ = some (.slice fa n fc) := (Lib.cell_of_heap hb0 2).trans rfl
  have hz1 : ({ data := #[32] } : ByteArray).size = 1 := rfl
  have hz8 : ({ data := #[72, 84, 84, 80, 47, 49, 46, 49] } : ByteArray).size = 8 := rfl
  obtain ⟨Y, hY⟩ : ∃ Y : ByteArray, m ++ ({ data := #[32] } : ByteArray) ++ t ++ ({ data := #[32] } : ByteArray) ++ ({ data := #[72, 84, 84, 80, 47, 49, 46, 49] } : ByteArray) = Y := ⟨_, rfl⟩
  have hYs : Y.size ≤ 10000 := by
    rw [← hY, ByteArray.size_append, ByteArray.size_append, ByteArray.size_append, ByteArray.size_append, hz1, hz8]; omega
  have HYD : Hid (Y.data.toList = firstT m t) := Lib.hid (by
    rw [← hY, ByteArray.data_append, ByteArray.data_append, ByteArray.data_append, ByteArray.data_append]
    unfold firstT http11
    simp)
  clear hin hat hnil hfit hT hb0 hs0 hg hz0 hus hk hn hw0
  have HP := Lib.hid (show putM m = ((m.toList == [80, 79, 83, 84]) || ((m.toList == [80, 85, 84]) || (m.toList == [80, 65, 84, 67, 72]))) from rfl)
  cases e1 : (m.toList == [80, 79, 83, 84]) with
  | true =>
    have HE := Lib.hid e1
    go_enter Tryz.func13, Tryz.ntmps13
    go_upto_region 1 with (fail)
    rw [HW0.out, HG.out]
    go_wp2_with fail
    refine CU.mono ?_
    rintro _ w1 ⟨v, rfl, hown, hb1⟩
    have hs1 : Spares nowhere w0 w1 := Below.spares hb1 (fun k hk => .inr hk)
    have HO := Lib.hid hown
    have HS1 := Lib.hid hs1
    have HB1 := Lib.hid (hs1.heap HB0.out (fun h => h))
    have y0' : w1.cell? ⟨g, 0, none⟩ = some (.string m) := (Lib.cell_of_heap HB1.out 0).trans rfl
    have y1' : w1.cell? ⟨g, 1, none⟩ = some (.string t) := (Lib.cell_of_heap HB1.out 1).trans rfl
    have y3' : w1.cell? ⟨g, 3, none⟩ = some (.slice ab k cb) := (Lib.cell_of_heap HB1.out 3).trans rfl
    clear hown hb1 hs1 CU
    go_wp2_with fail
    refine (CLN.out w1 (HS0.out.trans HS1.out)).mono ?_
    rintro _ w2 ⟨rfl, hs2⟩
    have HI3 := Lib.hid (one_len w2 ⟨#[67, 111, 110, 116, 101, 110, 116, 45, 76, 101, 110, 103, 116, 104]⟩ (itoB k))
    have hs3 : Spares nowhere w1 (w2.alloc (.cells #[.string ⟨#[67, 111, 110, 116, 101, 110, 116, 45, 76, 101, 110, 103, 116, 104]⟩, .string (itoB k)] 59)) := hs2.alloc _
    have HS3 := Lib.hid hs3
    have HO3 := Lib.hid (hs3.own HO.out (fun _ _ h => h))
    have HL3 : Hid (us.length + 1 ≤ 1000000000) := Lib.hid (by have h1 := unframed_len fs; rw [HUS.out] at h1; have := HFIT.out.len; omega)
    clear hs2 hs3
    go_wp2_with (at_builtin; refine wpList_append_fields rfl _ _ rfl w0.heap.size _ v us rfl HO3.out (HS1.out.trans HS3.out).size (some ⟨w2.heap.size, 0, none⟩) 1 1 _ rfl rfl HI3.out (fun e => by cases e) (by simpa using HL3.out) ?_)
    intro v4 w4 hown4 hg4
    have hs4 : Spares nowhere w0 w4 := (HS1.out.trans HS3.out).grown hg4 (fun k hk => .inr (World.ownsRow.lt HO3.out k hk).1)
    obtain ⟨ls, hls⟩ : ∃ ls, us ++ [(⟨#[67, 111, 110, 116, 101, 110, 116, 45, 76, 101, 110, 103, 116, 104]⟩, itoB k)] = ls := ⟨_, rfl⟩
    have HLS : Hid (ls = unframedF fs ++ reqLenF m k) := Lib.hid (by rw [← hls, HUS.out]; unfold reqLenF; rw [if_pos (by exact .inl (by rw [HP.out, HE.out]; rfl))]; try rfl)
    obtain ⟨f1, f2, f3⟩ : ls.length ≤ 1000 ∧ (∀ j (h : j < ls.length), ls[j].1.size ≤ 1000000 ∧ ls[j].2.size ≤ 1000000) ∧ (linesF ls).length ≤ 100000 := by
      have := fit_len (n := k) HFIT.out (by omega) [(nCL, itoB k)] (.inr rfl)
      rw [HUS.out] at this
      rw [← hls]
      exact this
    rw [hls] at hown4
    rw [show us.length + 1 = ls.length from by rw [← hls]; simp] at hown4
    obtain ⟨fa4, fc4, hv4, hfi4⟩ := rowF_shape hown4
    subst hv4
    have HS4 := Lib.hid hs4
    have HWW4 : Hid (Spares nowhere w w4) := Lib.hid (HS0.out.trans hs4)
    have HB4 := Lib.hid (hs4.heap HB0.out (fun h => h))
    have CM : Hid (Calls Tryz.prog 31 #[.string Y, .slice fa4 ls.length fc4, .slice ab k cb] w4 (MsgPost (msgT Y.data.toList ls body) w4)) := Lib.hid (message_any Y ls body fa4 ab fc4 cb ls.length k w4 rfl HK.out hfi4 (HAT.out.spares' HWW4.out (fun _ _ _ _ h => h)) HNIL.out hYs (by omega) f2 f3 (by have := HFIT.out.bod; omega))
    have z0 : w4.cell? ⟨g, 0, none⟩ = some (.string m) := (Lib.cell_of_heap HB4.out 0).trans rfl
    have z1 : w4.cell? ⟨g, 1, none⟩ = some (.string t) := (Lib.cell_of_heap HB4.out 1).trans rfl
    have z3 : w4.cell? ⟨g, 3, none⟩ = some (.slice ab k cb) := (Lib.cell_of_heap HB4.out 3).trans rfl
    clear hown4 hs4 hfi4 hls f1 f2 f3 hg4
    go_wp2_with fail
    refine CM.out.mono ?_
    rintro e5 w5 hM
    have HM := Lib.hid (msg_up hM HWW4.out (T' := reqTextF m t fs body) (by unfold reqTextF; rw [HYD.out, HLS.out, HK.out]))
    obtain ⟨v5, rfl, _⟩ := hM
    go_wp2
    go_ret
    exact HM.out
  | false =>
    cases e2 : (m.toList == [80, 85, 84]) with
    | true =>
      have HE := Lib.hid e1
      have HE2 := Lib.hid e2
      go_enter Tryz.func13, Tryz.ntmps13
      go_upto_region 1 with (fail)
      rw [HW0.out, HG.out]
      go_wp2_with fail
      refine CU.mono ?_
      rintro _ w1 ⟨v, rfl, hown, hb1⟩
      have hs1 : Spares nowhere w0 w1 := Below.spares hb1 (fun k hk => .inr hk)
      have HO := Lib.hid hown
      have HS1 := Lib.hid hs1
      have HB1 := Lib.hid (hs1.heap HB0.out (fun h => h))
      have y0' : w1.cell? ⟨g, 0, none⟩ = some (.string m) := (Lib.cell_of_heap HB1.out 0).trans rfl
      have y1' : w1.cell? ⟨g, 1, none⟩ = some (.string t) := (Lib.cell_of_heap HB1.out 1).trans rfl
      have y3' : w1.cell? ⟨g, 3, none⟩ = some (.slice ab k cb) := (Lib.cell_of_heap HB1.out 3).trans rfl
      clear hown hb1 hs1 CU
      go_wp2_with fail
      refine (CLN.out w1 (HS0.out.trans HS1.out)).mono ?_
      rintro _ w2 ⟨rfl, hs2⟩
      have HI3 := Lib.hid (one_len w2 ⟨#[67, 111, 110, 116, 101, 110, 116, 45, 76, 101, 110, 103, 116, 104]⟩ (itoB k))
      have hs3 : Spares nowhere w1 (w2.alloc (.cells #[.string ⟨#[67, 111, 110, 116, 101, 110, 116, 45, 76, 101, 110, 103, 116, 104]⟩, .string (itoB k)] 59)) := hs2.alloc _
      have HS3 := Lib.hid hs3
      have HO3 := Lib.hid (hs3.own HO.out (fun _ _ h => h))
      have HL3 : Hid (us.length + 1 ≤ 1000000000) := Lib.hid (by have h1 := unframed_len fs; rw [HUS.out] at h1; have := HFIT.out.len; omega)
      clear hs2 hs3
      go_wp2_with (at_builtin; refine wpList_append_fields rfl _ _ rfl w0.heap.size _ v us rfl HO3.out (HS1.out.trans HS3.out).size (some ⟨w2.heap.size, 0, none⟩) 1 1 _ rfl rfl HI3.out (fun e => by cases e) (by simpa using HL3.out) ?_)
      intro v4 w4 hown4 hg4
      have hs4 : Spares nowhere w0 w4 := (HS1.out.trans HS3.out).grown hg4 (fun k hk => .inr (World.ownsRow.lt HO3.out k hk).1)
      obtain ⟨ls, hls⟩ : ∃ ls, us ++ [(⟨#[67, 111, 110, 116, 101, 110, 116, 45, 76, 101, 110, 103, 116, 104]⟩, itoB k)] = ls := ⟨_, rfl⟩
      have HLS : Hid (ls = unframedF fs ++ reqLenF m k) := Lib.hid (by rw [← hls, HUS.out]; unfold reqLenF; rw [if_pos (by exact .inl (by rw [HP.out, HE.out, HE2.out]; rfl))]; try rfl)
      obtain ⟨f1, f2, f3⟩ : ls.length ≤ 1000 ∧ (∀ j (h : j < ls.length), ls[j].1.size ≤ 1000000 ∧ ls[j].2.size ≤ 1000000) ∧ (linesF ls).length ≤ 100000 := by
        have := fit_len (n := k) HFIT.out (by omega) [(nCL, itoB k)] (.inr rfl)
        rw [HUS.out] at this
        rw [← hls]
        exact this
      rw [hls] at hown4
      rw [show us.length + 1 = ls.length from by rw [← hls]; simp] at hown4
      obtain ⟨fa4, fc4, hv4, hfi4⟩ := rowF_shape hown4
      subst hv4
      have HS4 := Lib.hid hs4
      have HWW4 : Hid (Spares nowhere w w4) := Lib.hid (HS0.out.trans hs4)
      have HB4 := Lib.hid (hs4.heap HB0.out (fun h => h))
      have CM : Hid (Calls Tryz.prog 31 #[.string Y, .slice fa4 ls.length fc4, .slice ab k cb] w4 (MsgPost (msgT Y.data.toList ls body) w4)) := Lib.hid (message_any Y ls body fa4 ab fc4 cb ls.length k w4 rfl HK.out hfi4 (HAT.out.spares' HWW4.out (fun _ _ _ _ h => h)) HNIL.out hYs (by omega) f2 f3 (by have := HFIT.out.bod; omega))
      have z0 : w4.cell? ⟨g, 0, none⟩ = some (.string m) := (Lib.cell_of_heap HB4.out 0).trans rfl
      have z1 : w4.cell? ⟨g, 1, none⟩ = some (.string t) := (Lib.cell_of_heap HB4.out 1).trans rfl
      have z3 : w4.cell? ⟨g, 3, none⟩ = some (.slice ab k cb) := (Lib.cell_of_heap HB4.out 3).trans rfl
      clear hown4 hs4 hfi4 hls f1 f2 f3 hg4
      go_wp2_with fail
      refine CM.out.mono ?_
      rintro e5 w5 hM
      have HM := Lib.hid (msg_up hM HWW4.out (T' := reqTextF m t fs body) (by unfold reqTextF; rw [HYD.out, HLS.out, HK.out]))
      obtain ⟨v5, rfl, _⟩ := hM
      go_wp2
      go_ret
      exact HM.out
    | false =>
      cases e3 : (m.toList == [80, 65, 84, 67, 72]) with
      | true =>
        have HE := Lib.hid e1
        have HE2 := Lib.hid e2
        have HE3 := Lib.hid e3
        go_enter Tryz.func13, Tryz.ntmps13
        go_upto_region 1 with (fail)
        rw [HW0.out, HG.out]
        go_wp2_with fail
        refine CU.mono ?_
        rintro _ w1 ⟨v, rfl, hown, hb1⟩
        have hs1 : Spares nowhere w0 w1 := Below.spares hb1 (fun k hk => .inr hk)
        have HO := Lib.hid hown
        have HS1 := Lib.hid hs1
        have HB1 := Lib.hid (hs1.heap HB0.out (fun h => h))
        have y0' : w1.cell? ⟨g, 0, none⟩ = some (.string m) := (Lib.cell_of_heap HB1.out 0).trans rfl
        have y1' : w1.cell? ⟨g, 1, none⟩ = some (.string t) := (Lib.cell_of_heap HB1.out 1).trans rfl
        have y3' : w1.cell? ⟨g, 3, none⟩ = some (.slice ab k cb) := (Lib.cell_of_heap HB1.out 3).trans rfl
        clear hown hb1 hs1 CU
        go_wp2_with fail
        refine (CLN.out w1 (HS0.out.trans HS1.out)).mono ?_
        rintro _ w2 ⟨rfl, hs2⟩
        have HI3 := Lib.hid (one_len w2 ⟨#[67, 111, 110, 116, 101, 110, 116, 45, 76, 101, 110, 103, 116, 104]⟩ (itoB k))
        have hs3 : Spares nowhere w1 (w2.alloc (.cells #[.string ⟨#[67, 111, 110, 116, 101, 110, 116, 45, 76, 101, 110, 103, 116, 104]⟩, .string (itoB k)] 59)) := hs2.alloc _
        have HS3 := Lib.hid hs3
        have HO3 := Lib.hid (hs3.own HO.out (fun _ _ h => h))
        have HL3 : Hid (us.length + 1 ≤ 1000000000) := Lib.hid (by have h1 := unframed_len fs; rw [HUS.out] at h1; have := HFIT.out.len; omega)
        clear hs2 hs3
        go_wp2_with (at_builtin; refine wpList_append_fields rfl _ _ rfl w0.heap.size _ v us rfl HO3.out (HS1.out.trans HS3.out).size (some ⟨w2.heap.size, 0, none⟩) 1 1 _ rfl rfl HI3.out (fun e => by cases e) (by simpa using HL3.out) ?_)
        intro v4 w4 hown4 hg4
        have hs4 : Spares nowhere w0 w4 := (HS1.out.trans HS3.out).grown hg4 (fun k hk => .inr (World.ownsRow.lt HO3.out k hk).1)
        obtain ⟨ls, hls⟩ : ∃ ls, us ++ [(⟨#[67, 111, 110, 116, 101, 110, 116, 45, 76, 101, 110, 103, 116, 104]⟩, itoB k)] = ls := ⟨_, rfl⟩
        have HLS : Hid (ls = unframedF fs ++ reqLenF m k) := Lib.hid (by rw [← hls, HUS.out]; unfold reqLenF; rw [if_pos (by exact .inl (by rw [HP.out, HE.out, HE2.out, HE3.out]; rfl))]; try rfl)
        obtain ⟨f1, f2, f3⟩ : ls.length ≤ 1000 ∧ (∀ j (h : j < ls.length), ls[j].1.size ≤ 1000000 ∧ ls[j].2.size ≤ 1000000) ∧ (linesF ls).length ≤ 100000 := by
          have := fit_len (n := k) HFIT.out (by omega) [(nCL, itoB k)] (.inr rfl)
          rw [HUS.out] at this
          rw [← hls]
          exact this
        rw [hls] at hown4
        rw [show us.length + 1 = ls.length from by rw [← hls]; simp] at hown4
        obtain ⟨fa4, fc4, hv4, hfi4⟩ := rowF_shape hown4
        subst hv4
        have HS4 := Lib.hid hs4
        have HWW4 : Hid (Spares nowhere w w4) := Lib.hid (HS0.out.trans hs4)
        have HB4 := Lib.hid (hs4.heap HB0.out (fun h => h))
        have CM : Hid (Calls Tryz.prog 31 #[.string Y, .slice fa4 ls.length fc4, .slice ab k cb] w4 (MsgPost (msgT Y.data.toList ls body) w4)) := Lib.hid (message_any Y ls body fa4 ab fc4 cb ls.length k w4 rfl HK.out hfi4 (HAT.out.spares' HWW4.out (fun _ _ _ _ h => h)) HNIL.out hYs (by omega) f2 f3 (by have := HFIT.out.bod; omega))
        have z0 : w4.cell? ⟨g, 0, none⟩ = some (.string m) := (Lib.cell_of_heap HB4.out 0).trans rfl
        have z1 : w4.cell? ⟨g, 1, none⟩ = some (.string t) := (Lib.cell_of_heap HB4.out 1).trans rfl
        have z3 : w4.cell? ⟨g, 3, none⟩ = some (.slice ab k cb) := (Lib.cell_of_heap HB4.out 3).trans rfl
        clear hown4 hs4 hfi4 hls f1 f2 f3 hg4
        go_wp2_with fail
        refine CM.out.mono ?_
        rintro e5 w5 hM
        have HM := Lib.hid (msg_up hM HWW4.out (T' := reqTextF m t fs body) (by unfold reqTextF; rw [HYD.out, HLS.out, HK.out]))
        obtain ⟨v5, rfl, _⟩ := hM
        go_wp2
        go_ret
        exact HM.out
      | false =>
        by_cases hk0 : 0 < k
        · have d0 : (0 : Int) < (k : Int) := by omega
          go_enter Tryz.func13, Tryz.ntmps13
          go_upto_region 1 with (fail)
          rw [HW0.out, HG.out]
          go_wp2_with fail
          refine CU.mono ?_
          rintro _ w1 ⟨v, rfl, hown, hb1⟩
          have hs1 : Spares nowhere w0 w1 := Below.spares hb1 (fun k hk => .inr hk)
          have HO := Lib.hid hown
          have HS1 := Lib.hid hs1
          have HB1 := Lib.hid (hs1.heap HB0.out (fun h => h))
          have y0' : w1.cell? ⟨g, 0, none⟩ = some (.string m) := (Lib.cell_of_heap HB1.out 0).trans rfl
          have y1' : w1.cell? ⟨g, 1, none⟩ = some (.string t) := (Lib.cell_of_heap HB1.out 1).trans rfl
          have y3' : w1.cell? ⟨g, 3, none⟩ = some (.slice ab k cb) := (Lib.cell_of_heap HB1.out 3).trans rfl
          clear hown hb1 hs1 CU
          go_wp2_with fail
          refine (CLN.out w1 (HS0.out.trans HS1.out)).mono ?_
          rintro _ w2 ⟨rfl, hs2⟩
          have HI3 := Lib.hid (one_len w2 ⟨#[67, 111, 110, 116, 101, 110, 116, 45, 76, 101, 110, 103, 116, 104]⟩ (itoB k))
          have hs3 : Spares nowhere w1 (w2.alloc (.cells #[.string ⟨#[67, 111, 110, 116, 101, 110, 116, 45, 76, 101, 110, 103, 116, 104]⟩, .string (itoB k)] 59)) := hs2.alloc _
          have HS3 := Lib.hid hs3
          have HO3 := Lib.hid (hs3.own HO.out (fun _ _ h => h))
          have HL3 : Hid (us.length + 1 ≤ 1000000000) := Lib.hid (by have h1 := unframed_len fs; rw [HUS.out] at h1; have := HFIT.out.len; omega)
          clear hs2 hs3
          go_wp2_with (at_builtin; refine wpList_append_fields rfl _ _ rfl w0.heap.size _ v us rfl HO3.out (HS1.out.trans HS3.out).size (some ⟨w2.heap.size, 0, none⟩) 1 1 _ rfl rfl HI3.out (fun e => by cases e) (by simpa using HL3.out) ?_)
          intro v4 w4 hown4 hg4
          have hs4 : Spares nowhere w0 w4 := (HS1.out.trans HS3.out).grown hg4 (fun k hk => .inr (World.ownsRow.lt HO3.out k hk).1)
          obtain ⟨ls, hls⟩ : ∃ ls, us ++ [(⟨#[67, 111, 110, 116, 101, 110, 116, 45, 76, 101, 110, 103, 116, 104]⟩, itoB k)] = ls := ⟨_, rfl⟩
          have HLS : Hid (ls = unframedF fs ++ reqLenF m k) := Lib.hid (by rw [← hls, HUS.out]; unfold reqLenF; rw [if_pos (by exact .inr hk0)]; try rfl)
          obtain ⟨f1, f2, f3⟩ : ls.length ≤ 1000 ∧ (∀ j (h : j < ls.length), ls[j].1.size ≤ 1000000 ∧ ls[j].2.size ≤ 1000000) ∧ (linesF ls).length ≤ 100000 := by
            have := fit_len (n := k) HFIT.out (by omega) [(nCL, itoB k)] (.inr rfl)
            rw [HUS.out] at this
            rw [← hls]
            exact this
          rw [hls] at hown4
          rw [show us.length + 1 = ls.length from by rw [← hls]; simp] at hown4
          obtain ⟨fa4, fc4, hv4, hfi4⟩ := rowF_shape hown4
          subst hv4
          have HS4 := Lib.hid hs4
          have HWW4 : Hid (Spares nowhere w w4) := Lib.hid (HS0.out.trans hs4)
          have HB4 := Lib.hid (hs4.heap HB0.out (fun h => h))
          have CM : Hid (Calls Tryz.prog 31 #[.string Y, .slice fa4 ls.length fc4, .slice ab k cb] w4 (MsgPost (msgT Y.data.toList ls body) w4)) := Lib.hid (message_any Y ls body fa4 ab fc4 cb ls.length k w4 rfl HK.out hfi4 (HAT.out.spares' HWW4.out (fun _ _ _ _ h => h)) HNIL.out hYs (by omega) f2 f3 (by have := HFIT.out.bod; omega))
          have z0 : w4.cell? ⟨g, 0, none⟩ = some (.string m) := (Lib.cell_of_heap HB4.out 0).trans rfl
          have z1 : w4.cell? ⟨g, 1, none⟩ = some (.string t) := (Lib.cell_of_heap HB4.out 1).trans rfl
          have z3 : w4.cell? ⟨g, 3, none⟩ = some (.slice ab k cb) := (Lib.cell_of_heap HB4.out 3).trans rfl
          clear hown4 hs4 hfi4 hls f1 f2 f3 hg4
          go_wp2_with fail
          refine CM.out.mono ?_
          rintro e5 w5 hM
          have HM := Lib.hid (msg_up hM HWW4.out (T' := reqTextF m t fs body) (by unfold reqTextF; rw [HYD.out, HLS.out, HK.out]))
          obtain ⟨v5, rfl, _⟩ := hM
          go_wp2
          go_ret
          exact HM.out
        · have d0 : ¬ (0 : Int) < (k : Int) := by omega
          have HE : Hid (putM m = false) := Lib.hid (by rw [HP.out, e1, e2, e3]; rfl)
          go_enter Tryz.func13, Tryz.ntmps13
          go_upto_region 1 with (fail)
          rw [HW0.out, HG.out]
          go_wp2_with fail
          refine CU.mono ?_
          rintro _ w1 ⟨v, rfl, hown, hb1⟩
          have hs1 : Spares nowhere w0 w1 := Below.spares hb1 (fun k hk => .inr hk)
          have HO := Lib.hid hown
          have HS1 := Lib.hid hs1
          have HB1 := Lib.hid (hs1.heap HB0.out (fun h => h))
          have y0' : w1.cell? ⟨g, 0, none⟩ = some (.string m) := (Lib.cell_of_heap HB1.out 0).trans rfl
          have y1' : w1.cell? ⟨g, 1, none⟩ = some (.string t) := (Lib.cell_of_heap HB1.out 1).trans rfl
          have y3' : w1.cell? ⟨g, 3, none⟩ = some (.slice ab k cb) := (Lib.cell_of_heap HB1.out 3).trans rfl
          clear hown hb1 hs1 CU
          have hown4 : w1.ownsRow w0.heap.size 59 2 v (us ++ []).length (fieldCells (us ++ [])) := by rw [List.append_nil]; exact HO.out
          have hs4 : Spares nowhere w0 w1 := HS1.out
          obtain ⟨ls, hls⟩ : ∃ ls, us ++ [] = ls := ⟨_, rfl⟩
          have HLS : Hid (ls = unframedF fs ++ reqLenF m k) := Lib.hid (by rw [← hls, HUS.out]; unfold reqLenF; rw [if_neg (by rw [HE.out]; rintro (h | h); cases h; omega)]; try rfl)
          obtain ⟨f1, f2, f3⟩ : ls.length ≤ 1000 ∧ (∀ j (h : j < ls.length), ls[j].1.size ≤ 1000000 ∧ ls[j].2.size ≤ 1000000) ∧ (linesF ls).length ≤ 100000 := by
            have := fit_len (n := k) HFIT.out (by omega) [] (.inl rfl)
            rw [HUS.out] at this
            rw [← hls]
            exact this
          rw [hls] at hown4
          obtain ⟨fa4, fc4, hv4, hfi4⟩ := rowF_shape hown4
          subst hv4
          have HS4 := Lib.hid hs4
          have HWW4 : Hid (Spares nowhere w w1) := Lib.hid (HS0.out.trans hs4)
          have HB4 := Lib.hid (hs4.heap HB0.out (fun h => h))
          have CM : Hid (Calls Tryz.prog 31 #[.string Y, .slice fa4 ls.length fc4, .slice ab k cb] w1 (MsgPost (msgT Y.data.toList ls body) w1)) := Lib.hid (message_any Y ls body fa4 ab fc4 cb ls.length k w1 rfl HK.out hfi4 (HAT.out.spares' HWW4.out (fun _ _ _ _ h => h)) HNIL.out hYs (by omega) f2 f3 (by have := HFIT.out.bod; omega))
          have z0 : w1.cell? ⟨g, 0, none⟩ = some (.string m) := (Lib.cell_of_heap HB4.out 0).trans rfl
          have z1 : w1.cell? ⟨g, 1, none⟩ = some (.string t) := (Lib.cell_of_heap HB4.out 1).trans rfl
          have z3 : w1.cell? ⟨g, 3, none⟩ = some (.slice ab k cb) := (Lib.cell_of_heap HB4.out 3).trans rfl
          clear hown4 hs4 hfi4 hls f1 f2 f3
          go_wp2_with fail
          refine CM.out.mono ?_
          rintro e5 w5 hM
          have HM := Lib.hid (msg_up hM HWW4.out (T' := reqTextF m t fs body) (by unfold reqTextF; rw [HYD.out, HLS.out, HK.out]))
          obtain ⟨v5, rfl, _⟩ := hM
          go_wp2
          go_ret
          exact HM.out
end Go.Proofs.YtjpmofnnjdhamaaGreatDoor
namespace Go.Proofs.YtjpmofnnjdhamaaGreatDoor
open Go.RowKit HeadMath NormMath NormS HeadS ChunkMath HttpMath

def headIs (method : ByteArray) : Bool := method.toList == [72, 69, 65, 68]
theorem headIs_eq (method : ByteArray) : headIs method = (method.data.toList == headM.data.toList) := by unfold headIs; rw [Lib.toList_data]; rfl
def rspLenG (st : Int) (fs : Fs) (n : Nat) (method : ByteArray) : Fs :=
  if headIs method = true ∨ st = 304 then (clOf (getF nCL fs)) else [(nCL, itoB n)]
theorem rspLenF_eq (st : Int) (fs : Fs) (n : Nat) (method : ByteArray) : rspLenF st fs n method = if st = 204 ∨ st < 200 then [] else rspLenG st fs n method := by
  unfold rspLenF rspLenG
  rw [headIs_eq]
theorem rspLenG_get {st : Int} {fs : Fs} {n : Nat} {method : ByteArray} (h : headIs method = true ∨ st = 304) : rspLenG st fs n method = clOf (getF nCL fs) := by unfold rspLenG; rw [if_pos h]
theorem rspLenG_len {st : Int} {fs : Fs} {n : Nat} {method : ByteArray} (h : headIs method = false) (h2 : st ≠ 304) : rspLenG st fs n method = [(nCL, itoB n)] := by
  unfold rspLenG
  rw [if_neg]
  rintro (e | e)
  · rw [h] at e; cases e
  · exact h2 e
theorem get_yes {l : Fs} {n v : ByteArray} {a : Option Addr} {cap : Nat} {w : World} (hv : getF n l = some v) (hin : FieldsIn w.heap.size w a l) (hsm : SmallF l) (hle : l.length ≤ 140737488351232) (hn : n.size ≤ 140737488351232) :
    Calls Tryz.prog 65 #[.slice a l.length cap, .string n] w fun e w' => e = .returned (.tuple #[.string v, .bool true]) ∧ Below w.heap.size w w' := by
  refine (get_any l n a cap w hin hsm hle hn).mono ?_
  rintro e w' ⟨hb, ⟨h, _⟩ | ⟨v', h, rfl⟩⟩
  · rw [hv] at h; cases h
  · rw [hv] at h; injection h with h; subst h; exact ⟨rfl, hb⟩
theorem get_not {l : Fs} {n : ByteArray} {a : Option Addr} {cap : Nat} {w : World} (hv : getF n l = none) (hin : FieldsIn w.heap.size w a l) (hsm : SmallF l) (hle : l.length ≤ 140737488351232) (hn : n.size ≤ 140737488351232) :
    Calls Tryz.prog 65 #[.slice a l.length cap, .string n] w fun e w' => e = .returned (.tuple #[.string { data := #[] }, .bool false]) ∧ Below w.heap.size w w' := by
  refine (get_any l n a cap w hin hsm hle hn).mono ?_
  rintro e w' ⟨hb, ⟨_, rfl⟩ | ⟨v', h, _⟩⟩
  · exact ⟨rfl, hb⟩
  · rw [hv] at h; cases h
def RLen (ls : Fs) (w : World) (e : Ending) (w' : World) : Prop := ∃ a c, e = .returned (.slice a ls.length c) ∧ FieldsIn w'.heap.size w' a ls ∧ (a = none → c = 0) ∧ Spares nowhere w w'
theorem rlen_one {w w1 : World} {v : ByteArray} {ls : Fs} (hl : ls = [(nCL, v)]) (hs : Spares nowhere w w1) : RLen ls w (.returned (.slice (some ⟨w1.heap.size, 0, none⟩) 1 1)) (w1.alloc (.cells #[.string ⟨#[67, 111, 110, 116, 101, 110, 116, 45, 76, 101, 110, 103, 116, 104]⟩, .string v] 59)) := by
  subst hl
  refine ⟨_, _, rfl, ?_, (fun e => by cases e), hs.alloc _⟩
  have := one_len w1 nCL v
  have hz : (w1.alloc (.cells #[.string ⟨#[67, 111, 110, 116, 101, 110, 116, 45, 76, 101, 110, 103, 116, 104]⟩, .string v] 59)).heap.size = w1.heap.size + 1 := by simp
  rw [hz]
  exact this
theorem rlen_none {w w1 : World} {ls : Fs} (hl : ls = []) (hs : Spares nowhere w w1) : RLen ls w (.returned (.slice none 0 0)) w1 := by
  subst hl
  exact ⟨none, 0, rfl, (fun j h => absurd h (Nat.not_lt_zero _)), (fun _ => rfl), hs⟩
set_option maxRecDepth 100000 in
set_option maxHeartbeats 8000000 in
theorem responseLength_any (st : Int) (r method : ByteArray) (fs : Fs) (fa ab : Option Addr) (fc cb n k : Nat) (w : World) (hn : fs.length = n) (hin : FieldsIn w.heap.size w fa fs) (hsm : SmallF fs) (hl : fs.length ≤ 1000) (hk : k ≤ 90000) (hT : TabH w) :
    Calls Tryz.prog 35 #[.agg #[.int .i64 st, .string r, .slice fa n fc, .slice ab k cb], .string method] w (RLen (rspLenG st fs k method) w) := by
  obtain ⟨w0, hw0⟩ : ∃ w0, w.alloc (.cells #[.int .i64 st, .string r, .slice fa n fc, .slice ab k cb] 27) = w0 := ⟨_, rfl⟩
  have hs0 : Spares nowhere w w0 := by rw [← hw0]; exact (Spares.refl _ _).alloc _
  obtain ⟨g, hg⟩ : ∃ g, w.heap.size = g := ⟨_, rfl⟩
  have hb0 : w0.heap[g]? = some (.cells #[.int .i64 st, .string r, .slice fa n fc, .slice ab k cb] 27 (0, 0)) := by rw [← hw0, ← hg]; exact heap_alloc_new _ _
  have y0 : w0.cell? ⟨g, 0, none⟩ = some (.int .i64 st) := (Lib.cell_of_heap hb0 0).trans rfl
  have y2 : w0.cell? ⟨g, 2, none⟩ = some (.slice fa n fc) := (Lib.cell_of_heap hb0 2).trans rfl
  have y3 : w0.cell? ⟨g, 3, none⟩ = some (.slice ab k cb) := (Lib.cell_of_heap hb0 3).trans rfl
  have CLN := lengthField_any k w0 (by omega) (hT.spares hs0 (fun h => h))
  unfold LenFPost nCL at CLN
  have hin0 := FieldsIn.quiet hin (Nat.le_refl _) hs0 hs0.size
  have HGET := Lib.hid (fun v (hv : getF nCL fs = some v) => get_yes (cap := fc) hv hin0 hsm (by omega) (by decide))
  have HNO := Lib.hid (fun (hv : getF nCL fs = none) => get_not (cap := fc) hv hin0 hsm (by omega) (by decide))
  rw [hn] at HGET HNO
  unfold nCL at HGET HNO
  have HG := Lib.hid hg
  have HW0 := Lib.hid hw0
  have HS0 := Lib.hid hs0
  obtain ⟨ls, hls⟩ : ∃ ls, rspLenG st fs k method = ls := ⟨_, rfl⟩
  have HLS := Lib.hid hls
  rw [hls]
  clear hs0 hb0 hg hin hin0 hsm hl hn hT hw0 hls
  cases e1 : (method.toList == [72, 69, 65, 68]) with
  | true =>
    have e2 : (method.toList != [72, 69, 65, 68]) = false := by unfold bne; rw [e1]; rfl
    have HE := Lib.hid e1
    cases hv : getF ⟨#[67, 111, 110, 116, 101, 110, 116, 45, 76, 101, 110, 103, 116, 104]⟩ fs with
    | some v =>
      have CG := HGET.out v hv
      have HL1 : Hid (ls = [(nCL, v)]) := Lib.hid (by
        have h := rspLenG_get (st := st) (fs := fs) (n := k) (method := method) (.inl HE.out)
        rw [show getF nCL fs = some v from hv] at h
        exact HLS.out.symm.trans h)
      clear hv HGET HNO CLN
      go_enter Tryz.func35, Tryz.ntmps35
      go_upto_region 1 with (fail)
      rw [HW0.out, HG.out]
      go_wp2_with fail
      refine CG.mono ?_
      rintro _ w1 ⟨rfl, hb1⟩
      have HS1 := Lib.hid (HS0.out.trans (Below.spares (F := nowhere) hb1 (fun k hk => .inr hk)))
      clear hb1 CG
      go_wp2
      go_ret
      exact rlen_one HL1.out HS1.out
    | none =>
      have CG := HNO.out hv
      have HL1 : Hid (ls = []) := Lib.hid (by
        have h := rspLenG_get (st := st) (fs := fs) (n := k) (method := method) (.inl HE.out)
        rw [show getF nCL fs = none from hv] at h
        exact HLS.out.symm.trans h)
      clear hv HGET HNO CLN
      go_enter Tryz.func35, Tryz.ntmps35
      go_upto_region 1 with (fail)
      rw [HW0.out, HG.out]
      go_wp2_with fail
      refine CG.mono ?_
      rintro _ w1 ⟨rfl, hb1⟩
      have HS1 := Lib.hid (HS0.out.trans (Below.spares (F := nowhere) hb1 (fun k hk => .inr hk)))
      clear hb1 CG
      go_wp2
      go_ret
      exact rlen_none HL1.out HS1.out
  | false =>
    have e2 : (method.toList != [72, 69, 65, 68]) = true := by unfold bne; rw [e1]; rfl
    have HE := Lib.hid e1
    by_cases h304 : st = 304
    · have d1 : (st == 304) = true := by rw [h304]; rfl
      have d2 : (st != 304) = false := by unfold bne; rw [d1]; rfl
      have H304 := Lib.hid h304
      clear h304
      cases hv : getF ⟨#[67, 111, 110, 116, 101, 110, 116, 45, 76, 101, 110, 103, 116, 104]⟩ fs with
      | some v =>
        have CG := HGET.out v hv
        have HL1 : Hid (ls = [(nCL, v)]) := Lib.hid (by
          have h := rspLenG_get (st := st) (fs := fs) (n := k) (method := method) (.inr H304.out)
          rw [show getF nCL fs = some v from hv] at h
          exact HLS.out.symm.trans h)
        clear hv HGET HNO CLN
        go_enter Tryz.func35, Tryz.ntmps35
        go_upto_region 1 with (fail)
        rw [HW0.out, HG.out]
        go_wp2_with fail
        refine CG.mono ?_
        rintro _ w1 ⟨rfl, hb1⟩
        have HS1 := Lib.hid (HS0.out.trans (Below.spares (F := nowhere) hb1 (fun k hk => .inr hk)))
        clear hb1 CG
        go_wp2
        go_ret
        exact rlen_one HL1.out HS1.out
      | none =>
        have CG := HNO.out hv
        have HL1 : Hid (ls = []) := Lib.hid (by
          have h := rspLenG_get (st := st) (fs := fs) (n := k) (method := method) (.inr H304.out)
          rw [show getF nCL fs = none from hv] at h
          exact HLS.out.symm.trans h)
        clear hv HGET HNO CLN
        go_enter Tryz.func35, Tryz.ntmps35
        go_upto_region 1 with (fail)
        rw [HW0.out, HG.out]
        go_wp2_with fail
        refine CG.mono ?_
        rintro _ w1 ⟨rfl, hb1⟩
        have HS1 := Lib.hid (HS0.out.trans (Below.spares (F := nowhere) hb1 (fun k hk => .inr hk)))
        clear hb1 CG
        go_wp2
        go_ret
        exact rlen_none HL1.out HS1.out
    · have d1 : (st == 304) = false := by rw [beq_eq_false_iff_ne]; exact h304
      have d2 : (st != 304) = true := by unfold bne; rw [d1]; rfl
      have HL1 : Hid (ls = [(nCL, itoB k)]) := Lib.hid (by rw [← HLS.out, rspLenG_len HE.out h304])
      clear HGET HNO
      go_enter Tryz.func35, Tryz.ntmps35
      go_upto_region 1 with (fail)
      rw [HW0.out, HG.out]
      go_wp2_with fail
      refine CLN.mono ?_
      rintro _ w1 ⟨rfl, hs1⟩
      have HS1 := Lib.hid (HS0.out.trans hs1)
      clear hs1 CLN
      go_wp2
      go_ret
      exact rlen_one HL1.out HS1.out
theorem lenG_one (st : Int) (fs : Fs) (n : Nat) (method : ByteArray) : (rspLenG st fs n method).length ≤ 1 := by
  unfold rspLenG
  split
  · cases getF nCL fs <;> simp [clOf]
  · simp
theorem lenG_shape (st : Int) (fs : Fs) (n : Nat) (method : ByteArray) : rspLenG st fs n method = [] ∨ rspLenG st fs n method = [(nCL, itoB n)] ∨ ∃ v, rspLenG st fs n method = [(nCL, v)] ∧ getF nCL fs = some v := by
  unfold rspLenG
  split
  · cases h : getF nCL fs with
    | none => exact .inl rfl
    | some v => exact .inr (.inr ⟨v, rfl, rfl⟩)
  · exact .inr (.inl rfl)
theorem getF_mem {n v : ByteArray} {fs : Fs} (h : getF n fs = some v) : ∃ f ∈ fs, f.2 = v := by
  unfold getF at h
  cases hf : fs.find? (isNamed n) with
  | none => rw [hf] at h; cases h
  | some f =>
    rw [hf] at h
    exact ⟨f, List.mem_of_find?_eq_some hf, by simpa using h⟩
theorem fit_one {fs : Fs} {body : Bs} {v : ByteArray} (h : FitM fs body) (hv : v.size ≤ 1000000) (hl : v.size ≤ 9000) : (unframedF fs ++ [(nCL, v)]).length ≤ 1000 ∧ (∀ j (h : j < (unframedF fs ++ [(nCL, v)]).length), (unframedF fs ++ [(nCL, v)])[j].1.size ≤ 1000000 ∧ (unframedF fs ++ [(nCL, v)])[j].2.size ≤ 1000000) ∧ (linesF (unframedF fs ++ [(nCL, v)])).length ≤ 100000 := by
  have h1 := unframed_len fs
  have h2 := unframed_lines fs
  have h3 := h.len
  have h4 := h.lin
  have hz : nCL.size = 14 := rfl
  refine ⟨by rw [List.length_append]; simp; omega, fun j hj => ?_, ?_⟩
  · rcases List.mem_append.1 (List.getElem_mem hj) with hm | hm
    · exact h.sz _ (unframed_mem _ hm)
    · have e : (unframedF fs ++ [(nCL, v)])[j] = (nCL, v) := by simpa using hm
      rw [e]
      exact ⟨by rw [hz]; omega, hv⟩
  · rw [linesF_app, linesF_one, List.length_append]
    have : (HeadS.lineF (nCL, v)).length = nCL.size + v.size + 4 := by
      unfold HeadS.lineF
      simp only [List.length_append, List.length_cons, List.length_nil, size_list]
      omega
    rw [this, hz]
    omega
theorem fit_rsp {fs : Fs} {body : Bs} {n : Nat} (h : FitM fs body) (hn : n ≤ 100000) (st : Int) (method : ByteArray) : (unframedF fs ++ rspLenF st fs n method).length ≤ 1000 ∧ (∀ j (h : j < (unframedF fs ++ rspLenF st fs n method).length), (unframedF fs ++ rspLenF st fs n method)[j].1.size ≤ 1000000 ∧ (unframedF fs ++ rspLenF st fs n method)[j].2.size ≤ 1000000) ∧ (linesF (unframedF fs ++ rspLenF st fs n method)).length ≤ 100000 := by
  have key : ∀ l : Fs, (l = [] ∨ l = [(nCL, itoB n)] ∨ ∃ v, l = [(nCL, v)] ∧ getF nCL fs = some v) → (unframedF fs ++ l).length ≤ 1000 ∧ (∀ j (h : j < (unframedF fs ++ l).length), (unframedF fs ++ l)[j].1.size ≤ 1000000 ∧ (unframedF fs ++ l)[j].2.size ≤ 1000000) ∧ (linesF (unframedF fs ++ l)).length ≤ 100000 := by
    intro l hl
    rcases hl with hl | hl | ⟨v, rfl, hv⟩
    · exact fit_len h hn l (.inl hl)
    · exact fit_len h hn l (.inr hl)
    · obtain ⟨f, hf, rfl⟩ := getF_mem hv
      have := h.val f hf
      exact fit_one h (by omega) this
  refine key _ ?_
  rw [rspLenF_eq]
  split
  · exact .inl rfl
  · exact lenG_shape _ _ _ _
set_option maxRecDepth 100000 in
set_option maxHeartbeats 16000000 in
theorem responseBytes_any (st : Int) (reason method : ByteArray) (fs : Fs) (body : Bs) (fa ab : Option Addr) (fc cb n k : Nat) (w : World) (h0 : -9223372036854775808 ≤ st) (h1 : st ≤ 9223372036854775807) (hn : fs.length = n) (hk : body.length = k) (hin : FieldsIn w.heap.size w fa fs) (hat : BytesAt w ab body) (hnil : ab = none → cb = 0) (hr : reason.size ≤ 4000) (hfit : FitM fs body) (hT : TabH w) :
    Calls Tryz.prog 15 #[.agg #[.int .i64 st, .string reason, .slice fa n fc, .slice ab k cb], .string method] w (MsgPost (rspTextF st reason fs body method) w) := by
  obtain ⟨w0, hw0⟩ : ∃ w0, w.alloc (.cells #[.int .i64 st, .string reason, .slice fa n fc, .slice ab k cb] 27) = w0 := ⟨_, rfl⟩
  have hs0 : Spares nowhere w w0 := by rw [← hw0]; exact (Spares.refl _ _).alloc _
  obtain ⟨g, hg⟩ : ∃ g, w.heap.size = g := ⟨_, rfl⟩
  have hb0 : w0.heap[g]? = some (.cells #[.int .i64 st, .string reason, .slice fa n fc, .slice ab k cb] 27 (0, 0)) := by rw [← hw0, ← hg]; exact heap_alloc_new _ _
  have hin0 := FieldsIn.quiet hin (Nat.le_refl _) hs0 hs0.size
  have CU := unframed_any fs fa fc n w0 hn.symm hin0 hfit.small (by have := hfit.len; omega)
  obtain ⟨us, hus⟩ : ∃ us, unframedF fs = us := ⟨_, rfl⟩
  rw [hus] at CU
  unfold FieldPost at CU
  have hkk : k ≤ 90000 := by have := hfit.bod; omega
  have CRL : Hid (∀ W, Spares nowhere w W → Calls Tryz.prog 35 #[.agg #[.int .i64 st, .string reason, .slice fa n fc, .slice ab k cb], .string method] W (RLen (rspLenG st fs k method) W)) := Lib.hid (fun W h => responseLength_any st reason method fs fa ab fc cb n k W hn (FieldsIn.quiet hin (Nat.le_refl _) h h.size) hfit.small (by have := hfit.len; omega) hkk (hT.spares h (fun h => h)))
  have CDG : Hid (∀ W, Spares nowhere w W → Calls Tryz.prog 36 #[.int .i64 st] W (DigPost (stat3 st) W)) := Lib.hid (fun W h => digits_any st W h0 h1 (hT.spares h (fun h => h)))
  unfold DigPost at CDG
  obtain ⟨DG, hDG⟩ : ∃ DG : ByteArray, (⟨(digs (stat3 st)).toArray⟩ : ByteArray) = DG := ⟨_, rfl⟩
  rw [hDG] at CDG
  have hDs : DG.size = 3 := by rw [← hDG]; rfl
  have zv : ({ data := #[72, 84, 84, 80, 47, 49, 46, 49, 32] } : ByteArray).size = 9 := rfl
  have z1 : ({ data := #[32] } : ByteArray).size = 1 := rfl
  obtain ⟨A1, hA1⟩ : ∃ A : ByteArray, ({ data := #[72, 84, 84, 80, 47, 49, 46, 49, 32] } : ByteArray) ++ DG = A := ⟨_, rfl⟩
  have zA1 : A1.size = 12 := by rw [← hA1, ByteArray.size_append, zv, hDs]
  obtain ⟨A2, hA2⟩ : ∃ A : ByteArray, A1 ++ ({ data := #[32] } : ByteArray) = A := ⟨_, rfl⟩
  have zA2 : A2.size = 13 := by rw [← hA2, ByteArray.size_append, zA1, z1]
  obtain ⟨A3, hA3⟩ : ∃ A : ByteArray, A2 ++ reason = A := ⟨_, rfl⟩
  have zA3 : A3.size ≤ 10000 := by rw [← hA3, ByteArray.size_append, zA2]; omega
  have r1 : ∀ w, (Op.stringOp .add ⟨#[72, 84, 84, 80, 47, 49, 46, 49, 32]⟩ DG).run Tryz.prog w = .ok (.string A1) w := fun w => hA1 ▸ run_string_add_sum w _ _ (by omega)
  have r2 : ∀ w, (Op.stringOp .add A1 ⟨#[32]⟩).run Tryz.prog w = .ok (.string A2) w := fun w => hA2 ▸ run_string_add_sum w _ _ (by omega)
  have r3 : ∀ w, (Op.stringOp .add A2 reason).run Tryz.prog w = .ok (.string A3) w := fun w => hA3 ▸ run_string_add_sum w _ _ (by omega)
  have HAD : Hid (A3.data.toList = respL (stat3 st) reason.data.toList) := Lib.hid (by
    rw [← hA3, ← hA2, ← hA1, ← hDG, ByteArray.data_append, ByteArray.data_append, ByteArray.data_append]
    unfold respL http11
    simp)
  have HR1 := Lib.hid r1
  have HR2 := Lib.hid r2
  have HR3 := Lib.hid r3
  have HZ3 : ¬ 9223372036854775807 < A2.size + reason.size := by omega
  obtain ⟨bb, hbb⟩ : ∃ bb, bodilessF st method = bb := ⟨_, rfl⟩
  have CB := fun W => bodiless_any st method W
  rw [hbb] at CB
  have HBB := Lib.hid hbb
  have HUS := Lib.hid hus
  have HB0 := Lib.hid hb0
  have HS0 := Lib.hid hs0
  have HG := Lib.hid hg
  have HW0 := Lib.hid hw0
  have HK := Lib.hid hk
  have HAT := Lib.hid hat
  have HNIL := Lib.hid hnil
  have HFIT := Lib.hid hfit
  have y0 : w0.cell? ⟨g, 0, none⟩ = some (.int .i64 st) := (Lib.cell_of_heap hb0 0).trans rfl
  have y2 : w0.cell? ⟨g, 2, none⟩ = some (.slice fa n fc) := (Lib.cell_of_heap hb0 2).trans rfl
  clear hin hin0 hat hnil hfit hT hb0 hs0 hg hus hk hn hw0 hbb r1 r2 r3 hDG hA1 hA2 hA3
  by_cases h204 : st = 204
  · have e204 : (st != 204) = false := by rw [h204]; rfl
    have e204' : (st == 204) = true := by rw [h204]; rfl
    have H204 := Lib.hid h204
    obtain rfl : bb = true := by rw [← HBB.out, h204]; unfold bodilessF; simp
    clear h204
    go_enter Tryz.func15, Tryz.ntmps15
    go_upto_region 1 with (fail)
    rw [HW0.out, HG.out]
    go_wp2_with fail
    refine CU.mono ?_
    rintro _ w1 ⟨v, rfl, hown, hb1⟩
    have hs1 : Spares nowhere w0 w1 := Below.spares hb1 (fun k hk => .inr hk)
    have HO := Lib.hid hown
    have HS1 := Lib.hid hs1
    have HB1 := Lib.hid (hs1.heap HB0.out (fun h => h))
    have u0 : w1.cell? ⟨g, 0, none⟩ = some (.int .i64 st) := (Lib.cell_of_heap HB1.out 0).trans rfl
    have u1 : w1.cell? ⟨g, 1, none⟩ = some (.string reason) := (Lib.cell_of_heap HB1.out 1).trans rfl
    have u2 : w1.cell? ⟨g, 2, none⟩ = some (.slice fa n fc) := (Lib.cell_of_heap HB1.out 2).trans rfl
    have u3 : w1.cell? ⟨g, 3, none⟩ = some (.slice ab k cb) := (Lib.cell_of_heap HB1.out 3).trans rfl
    clear hown hb1 hs1 CU
    obtain ⟨ls, hls⟩ : ∃ ls, us = ls := ⟨_, rfl⟩
    have HLS : Hid (ls = unframedF fs ++ rspLenF st fs k method) := Lib.hid (by rw [← hls, HUS.out, rspLenF_eq, if_pos (.inl H204.out)]; rw [List.append_nil])
    obtain ⟨f1, f2, f3⟩ : ls.length ≤ 1000 ∧ (∀ j (h : j < ls.length), ls[j].1.size ≤ 1000000 ∧ ls[j].2.size ≤ 1000000) ∧ (linesF ls).length ≤ 100000 := by
      rw [HLS.out]
      exact fit_rsp HFIT.out (by omega) st method
    have hown := HO.out
    rw [hls] at hown
    obtain ⟨fa4, fc4, hv4, hfi4⟩ := rowF_shape hown
    subst hv4
    have HWW : Hid (Spares nowhere w w1) := Lib.hid (HS0.out.trans HS1.out)
    have CMS : Hid (∀ x, Below w1.heap.size w1 x → Calls Tryz.prog 31 #[.string A3, .slice fa4 ls.length fc4, .slice none 0 0] x fun e w' => ∃ v, e = .returned v ∧ Hid (MsgPost (rspTextF st reason fs body method) w (.returned v) w') ∧ Below w1.heap.size w1 w') := Lib.hid (fun x hx => by
      have hsx : Spares nowhere w1 x := Below.spares hx (fun k hk => .inr hk)
      refine (message_any A3 ls [] fa4 none fc4 0 ls.length 0 x rfl rfl (FieldsIn.quiet hfi4 (Nat.le_refl _) hsx hsx.size) (fun j hj => absurd hj (Nat.not_lt_zero _)) (fun _ => rfl) zA3 (by omega) f2 f3 (by simp)).mono ?_
      intro e w' hM
      have hM2 := msg_up hM (HWW.out.trans hsx) (T' := rspTextF st reason fs body method) (by unfold rspTextF rspBody; rw [HAD.out, HLS.out, HK.out, HBB.out]; rfl)
      obtain ⟨v, rfl, hv⟩ := hM
      exact ⟨v, rfl, Lib.hid hM2, hx.trans (hv.2.below0.mono hx.size)⟩)
    have CDS : Hid (∀ x, Below w1.heap.size w1 x → Calls Tryz.prog 36 #[.int .i64 st] x fun e w' => e = .returned (.string DG) ∧ Below w1.heap.size w1 w') := Lib.hid (fun x hx => by
      have hsx : Spares nowhere w1 x := Below.spares hx (fun k hk => .inr hk)
      exact (CDG.out x (HWW.out.trans hsx)).mono fun e w' ⟨he, hs⟩ => ⟨he, hx.trans (hs.below0.mono hx.size)⟩)
    have HSEE : Hid (∀ x, Below w1.heap.size w1 x → x.cell? ⟨g, 0, none⟩ = some (.int .i64 st) ∧ x.cell? ⟨g, 1, none⟩ = some (.string reason)) := Lib.hid (fun x hx => by
      have hsx : Spares nowhere w1 x := Below.spares hx (fun k hk => .inr hk)
      have hbx := hsx.heap HB1.out (fun h => h)
      exact ⟨(Lib.cell_of_heap hbx 0).trans rfl, (Lib.cell_of_heap hbx 1).trans rfl⟩)
    have hbd : Below w1.heap.size w1 w1.drew := (Below.refl _ _).drew
    clear hown hfi4 hls f1 f2 f3 CDG
    have r1 := HR1.out
    have r2 := HR2.out
    have r3 := HR3.out
    go_wp2_with fail
    refine (CB _).mono ?_
    rintro _ wb ⟨rfl, hwb⟩
    subst hwb
    go_wp2
    go_region_held3 (fun x => x.cell? ⟨g, 0, none⟩ = some (.int .i64 st) ∧ x.cell? ⟨g, 1, none⟩ = some (.string reason))
      (first | exact HSEE.out _ (by assumption) | go_keep)
      (first
        | (go_simp
           go_at_call 36
           (with_reducible refine Calls.mono (CDS.out _ (by assumption)) ?_)
           rintro e wn ⟨rfl, hbn⟩)
        | (go_simp
           go_at_call 31
           (with_reducible refine Calls.mono (CMS.out _ (by assumption)) ?_)
           rintro e wm ⟨vm, rfl, hM, hbm⟩)
        | fail)
    go_wp2
    go_ret
    exact hM.out
  · have e204 : (st != 204) = true := by rw [bne_iff_ne]; exact h204
    have e204' : (st == 204) = false := by rw [beq_eq_false_iff_ne]; exact h204
    by_cases h200 : st < 200
    · have H200 := Lib.hid h200
      have d0 : ¬ (200 : Int) ≤ st := by omega
      obtain rfl : bb = true := by rw [← HBB.out]; unfold bodilessF; simp [h200]
      go_enter Tryz.func15, Tryz.ntmps15
      go_upto_region 1 with (fail)
      rw [HW0.out, HG.out]
      go_wp2_with fail
      refine CU.mono ?_
      rintro _ w1 ⟨v, rfl, hown, hb1⟩
      have hs1 : Spares nowhere w0 w1 := Below.spares hb1 (fun k hk => .inr hk)
      have HO := Lib.hid hown
      have HS1 := Lib.hid hs1
      have HB1 := Lib.hid (hs1.heap HB0.out (fun h => h))
      have u0 : w1.cell? ⟨g, 0, none⟩ = some (.int .i64 st) := (Lib.cell_of_heap HB1.out 0).trans rfl
      have u1 : w1.cell? ⟨g, 1, none⟩ = some (.string reason) := (Lib.cell_of_heap HB1.out 1).trans rfl
      have u2 : w1.cell? ⟨g, 2, none⟩ = some (.slice fa n fc) := (Lib.cell_of_heap HB1.out 2).trans rfl
      have u3 : w1.cell? ⟨g, 3, none⟩ = some (.slice ab k cb) := (Lib.cell_of_heap HB1.out 3).trans rfl
      clear hown hb1 hs1 CU
      obtain ⟨ls, hls⟩ : ∃ ls, us = ls := ⟨_, rfl⟩
      have HLS : Hid (ls = unframedF fs ++ rspLenF st fs k method) := Lib.hid (by rw [← hls, HUS.out, rspLenF_eq, if_pos (.inr H200.out)]; rw [List.append_nil])
      obtain ⟨f1, f2, f3⟩ : ls.length ≤ 1000 ∧ (∀ j (h : j < ls.length), ls[j].1.size ≤ 1000000 ∧ ls[j].2.size ≤ 1000000) ∧ (linesF ls).length ≤ 100000 := by
        rw [HLS.out]
        exact fit_rsp HFIT.out (by omega) st method
      have hown := HO.out
      rw [hls] at hown
      obtain ⟨fa4, fc4, hv4, hfi4⟩ := rowF_shape hown
      subst hv4
      have HWW : Hid (Spares nowhere w w1) := Lib.hid (HS0.out.trans HS1.out)
      have CMS : Hid (∀ x, Below w1.heap.size w1 x → Calls Tryz.prog 31 #[.string A3, .slice fa4 ls.length fc4, .slice none 0 0] x fun e w' => ∃ v, e = .returned v ∧ Hid (MsgPost (rspTextF st reason fs body method) w (.returned v) w') ∧ Below w1.heap.size w1 w') := Lib.hid (fun x hx => by
        have hsx : Spares nowhere w1 x := Below.spares hx (fun k hk => .inr hk)
        refine (message_any A3 ls [] fa4 none fc4 0 ls.length 0 x rfl rfl (FieldsIn.quiet hfi4 (Nat.le_refl _) hsx hsx.size) (fun j hj => absurd hj (Nat.not_lt_zero _)) (fun _ => rfl) zA3 (by omega) f2 f3 (by simp)).mono ?_
        intro e w' hM
        have hM2 := msg_up hM (HWW.out.trans hsx) (T' := rspTextF st reason fs body method) (by unfold rspTextF rspBody; rw [HAD.out, HLS.out, HK.out, HBB.out]; rfl)
        obtain ⟨v, rfl, hv⟩ := hM
        exact ⟨v, rfl, Lib.hid hM2, hx.trans (hv.2.below0.mono hx.size)⟩)
      have CDS : Hid (∀ x, Below w1.heap.size w1 x → Calls Tryz.prog 36 #[.int .i64 st] x fun e w' => e = .returned (.string DG) ∧ Below w1.heap.size w1 w') := Lib.hid (fun x hx => by
        have hsx : Spares nowhere w1 x := Below.spares hx (fun k hk => .inr hk)
        exact (CDG.out x (HWW.out.trans hsx)).mono fun e w' ⟨he, hs⟩ => ⟨he, hx.trans (hs.below0.mono hx.size)⟩)
      have HSEE : Hid (∀ x, Below w1.heap.size w1 x → x.cell? ⟨g, 0, none⟩ = some (.int .i64 st) ∧ x.cell? ⟨g, 1, none⟩ = some (.string reason)) := Lib.hid (fun x hx => by
        have hsx : Spares nowhere w1 x := Below.spares hx (fun k hk => .inr hk)
        have hbx := hsx.heap HB1.out (fun h => h)
        exact ⟨(Lib.cell_of_heap hbx 0).trans rfl, (Lib.cell_of_heap hbx 1).trans rfl⟩)
      have hbd : Below w1.heap.size w1 w1.drew := (Below.refl _ _).drew
      clear hown hfi4 hls f1 f2 f3 CDG
      have r1 := HR1.out
      have r2 := HR2.out
      have r3 := HR3.out
      go_wp2_with fail
      refine (CB _).mono ?_
      rintro _ wb ⟨rfl, hwb⟩
      subst hwb
      go_wp2
      go_region_held3 (fun x => x.cell? ⟨g, 0, none⟩ = some (.int .i64 st) ∧ x.cell? ⟨g, 1, none⟩ = some (.string reason))
        (first | exact HSEE.out _ (by assumption) | go_keep)
        (first
          | (go_simp
             go_at_call 36
             (with_reducible refine Calls.mono (CDS.out _ (by assumption)) ?_)
             rintro e wn ⟨rfl, hbn⟩)
          | (go_simp
             go_at_call 31
             (with_reducible refine Calls.mono (CMS.out _ (by assumption)) ?_)
             rintro e wm ⟨vm, rfl, hM, hbm⟩)
          | fail)
      go_wp2
      go_ret
      exact hM.out
    · have H200 := Lib.hid h200
      have H204 := Lib.hid h204
      have d0 : (200 : Int) ≤ st := by omega
      cases bb with
      | true =>
        go_enter Tryz.func15, Tryz.ntmps15
        go_upto_region 1 with (fail)
        rw [HW0.out, HG.out]
        go_wp2_with fail
        refine CU.mono ?_
        rintro _ w1 ⟨v, rfl, hown, hb1⟩
        have hs1 : Spares nowhere w0 w1 := Below.spares hb1 (fun k hk => .inr hk)
        have HO := Lib.hid hown
        have HS1 := Lib.hid hs1
        have HB1 := Lib.hid (hs1.heap HB0.out (fun h => h))
        have u0 : w1.cell? ⟨g, 0, none⟩ = some (.int .i64 st) := (Lib.cell_of_heap HB1.out 0).trans rfl
        have u1 : w1.cell? ⟨g, 1, none⟩ = some (.string reason) := (Lib.cell_of_heap HB1.out 1).trans rfl
        have u2 : w1.cell? ⟨g, 2, none⟩ = some (.slice fa n fc) := (Lib.cell_of_heap HB1.out 2).trans rfl
        have u3 : w1.cell? ⟨g, 3, none⟩ = some (.slice ab k cb) := (Lib.cell_of_heap HB1.out 3).trans rfl
        clear hown hb1 hs1 CU
        go_wp2_with fail
        refine (CRL.out w1 (HS0.out.trans HS1.out)).mono ?_
        rintro _ w2 ⟨a2, c2, rfl, hfi2, hnil2, hs2⟩
        have HFI2 := Lib.hid hfi2
        have HNIL2 := Lib.hid hnil2
        have HS2 := Lib.hid hs2
        have HO2 := Lib.hid (hs2.own HO.out (fun _ _ h => h))
        have HL2 : Hid (us.length + (rspLenG st fs k method).length ≤ 1000000000) := Lib.hid (by
          have h1 := unframed_len fs
          rw [HUS.out] at h1
          have := HFIT.out.len
          have h3 : (rspLenG st fs k method).length ≤ 1 := lenG_one _ _ _ _
          omega)
        obtain ⟨m2, hm2⟩ : ∃ m, (rspLenG st fs k method).length = m := ⟨_, rfl⟩
        rw [hm2]
        have HM2 := Lib.hid hm2
        clear hfi2 hnil2 hs2 hm2 CRL
        go_wp2_with (at_builtin; refine wpList_append_fields rfl _ _ rfl w0.heap.size _ v us rfl HO2.out (HS1.out.trans HS2.out).size a2 c2 m2 _ rfl HM2.out.symm HFI2.out HNIL2.out HL2.out ?_)
        intro v4 w4 hown4 hg4
        have hs4 : Spares nowhere w0 w4 := (HS1.out.trans HS2.out).grown hg4 (fun k hk => .inr (World.ownsRow.lt HO2.out k hk).1)
        have HB4 := Lib.hid (hs4.heap HB0.out (fun h => h))
        have u0 : w4.cell? ⟨g, 0, none⟩ = some (.int .i64 st) := (Lib.cell_of_heap HB4.out 0).trans rfl
        have u1 : w4.cell? ⟨g, 1, none⟩ = some (.string reason) := (Lib.cell_of_heap HB4.out 1).trans rfl
        have u3 : w4.cell? ⟨g, 3, none⟩ = some (.slice ab k cb) := (Lib.cell_of_heap HB4.out 3).trans rfl
        have HOW := Lib.hid hown4
        have HS4 := Lib.hid hs4
        clear hown4 hg4 hs4
        obtain ⟨ls, hls⟩ : ∃ ls, us ++ rspLenG st fs k method = ls := ⟨_, rfl⟩
        have HLS : Hid (ls = unframedF fs ++ rspLenF st fs k method) := Lib.hid (by rw [← hls, HUS.out, rspLenF_eq, if_neg (by rintro (h | h); exact H204.out h; have := H200.out; omega)])
        obtain ⟨f1, f2, f3⟩ : ls.length ≤ 1000 ∧ (∀ j (h : j < ls.length), ls[j].1.size ≤ 1000000 ∧ ls[j].2.size ≤ 1000000) ∧ (linesF ls).length ≤ 100000 := by
          rw [HLS.out]
          exact fit_rsp HFIT.out (by omega) st method
        have hown := HOW.out
        rw [hls] at hown
        rw [show us.length + (rspLenG st fs k method).length = ls.length from by rw [← hls]; simp] at hown
        obtain ⟨fa4, fc4, hv4, hfi4⟩ := rowF_shape hown
        subst hv4
        have HWW : Hid (Spares nowhere w w4) := Lib.hid (HS0.out.trans HS4.out)
        have CMS : Hid (∀ x, Below w4.heap.size w4 x → Calls Tryz.prog 31 #[.string A3, .slice fa4 ls.length fc4, .slice none 0 0] x fun e w' => ∃ v, e = .returned v ∧ Hid (MsgPost (rspTextF st reason fs body method) w (.returned v) w') ∧ Below w4.heap.size w4 w') := Lib.hid (fun x hx => by
          have hsx : Spares nowhere w4 x := Below.spares hx (fun k hk => .inr hk)
          refine (message_any A3 ls [] fa4 none fc4 0 ls.length 0 x rfl rfl (FieldsIn.quiet hfi4 (Nat.le_refl _) hsx hsx.size) (fun j hj => absurd hj (Nat.not_lt_zero _)) (fun _ => rfl) zA3 (by omega) f2 f3 (by simp)).mono ?_
          intro e w' hM
          have hM2 := msg_up hM (HWW.out.trans hsx) (T' := rspTextF st reason fs body method) (by unfold rspTextF rspBody; rw [HAD.out, HLS.out, HK.out, HBB.out]; rfl)
          obtain ⟨v, rfl, hv⟩ := hM
          exact ⟨v, rfl, Lib.hid hM2, hx.trans (hv.2.below0.mono hx.size)⟩)
        have CDS : Hid (∀ x, Below w4.heap.size w4 x → Calls Tryz.prog 36 #[.int .i64 st] x fun e w' => e = .returned (.string DG) ∧ Below w4.heap.size w4 w') := Lib.hid (fun x hx => by
          have hsx : Spares nowhere w4 x := Below.spares hx (fun k hk => .inr hk)
          exact (CDG.out x (HWW.out.trans hsx)).mono fun e w' ⟨he, hs⟩ => ⟨he, hx.trans (hs.below0.mono hx.size)⟩)
        have HSEE : Hid (∀ x, Below w4.heap.size w4 x → x.cell? ⟨g, 0, none⟩ = some (.int .i64 st) ∧ x.cell? ⟨g, 1, none⟩ = some (.string reason)) := Lib.hid (fun x hx => by
          have hsx : Spares nowhere w4 x := Below.spares hx (fun k hk => .inr hk)
          have hbx := hsx.heap HB4.out (fun h => h)
          exact ⟨(Lib.cell_of_heap hbx 0).trans rfl, (Lib.cell_of_heap hbx 1).trans rfl⟩)
        have hbd : Below w4.heap.size w4 w4.drew := (Below.refl _ _).drew
        clear hown hfi4 hls f1 f2 f3 CDG
        have r1 := HR1.out
        have r2 := HR2.out
        have r3 := HR3.out
        go_wp2_with fail
        refine (CB _).mono ?_
        rintro _ wb ⟨rfl, hwb⟩
        subst hwb
        go_wp2
        go_region_held3 (fun x => x.cell? ⟨g, 0, none⟩ = some (.int .i64 st) ∧ x.cell? ⟨g, 1, none⟩ = some (.string reason))
          (first | exact HSEE.out _ (by assumption) | go_keep)
          (first
            | (go_simp
               go_at_call 36
               (with_reducible refine Calls.mono (CDS.out _ (by assumption)) ?_)
               rintro e wn ⟨rfl, hbn⟩)
            | (go_simp
               go_at_call 31
               (with_reducible refine Calls.mono (CMS.out _ (by assumption)) ?_)
               rintro e wm ⟨vm, rfl, hM, hbm⟩)
            | fail)
        go_wp2
        go_ret
        exact hM.out
      | false =>
        go_enter Tryz.func15, Tryz.ntmps15
        go_upto_region 1 with (fail)
        rw [HW0.out, HG.out]
        go_wp2_with fail
        refine CU.mono ?_
        rintro _ w1 ⟨v, rfl, hown, hb1⟩
        have hs1 : Spares nowhere w0 w1 := Below.spares hb1 (fun k hk => .inr hk)
        have HO := Lib.hid hown
        have HS1 := Lib.hid hs1
        have HB1 := Lib.hid (hs1.heap HB0.out (fun h => h))
        have u0 : w1.cell? ⟨g, 0, none⟩ = some (.int .i64 st) := (Lib.cell_of_heap HB1.out 0).trans rfl
        have u1 : w1.cell? ⟨g, 1, none⟩ = some (.string reason) := (Lib.cell_of_heap HB1.out 1).trans rfl
        have u2 : w1.cell? ⟨g, 2, none⟩ = some (.slice fa n fc) := (Lib.cell_of_heap HB1.out 2).trans rfl
        have u3 : w1.cell? ⟨g, 3, none⟩ = some (.slice ab k cb) := (Lib.cell_of_heap HB1.out 3).trans rfl
        clear hown hb1 hs1 CU
        go_wp2_with fail
        refine (CRL.out w1 (HS0.out.trans HS1.out)).mono ?_
        rintro _ w2 ⟨a2, c2, rfl, hfi2, hnil2, hs2⟩
        have HFI2 := Lib.hid hfi2
        have HNIL2 := Lib.hid hnil2
        have HS2 := Lib.hid hs2
        have HO2 := Lib.hid (hs2.own HO.out (fun _ _ h => h))
        have HL2 : Hid (us.length + (rspLenG st fs k method).length ≤ 1000000000) := Lib.hid (by
          have h1 := unframed_len fs
          rw [HUS.out] at h1
          have := HFIT.out.len
          have h3 : (rspLenG st fs k method).length ≤ 1 := lenG_one _ _ _ _
          omega)
        obtain ⟨m2, hm2⟩ : ∃ m, (rspLenG st fs k method).length = m := ⟨_, rfl⟩
        rw [hm2]
        have HM2 := Lib.hid hm2
        clear hfi2 hnil2 hs2 hm2 CRL
        go_wp2_with (at_builtin; refine wpList_append_fields rfl _ _ rfl w0.heap.size _ v us rfl HO2.out (HS1.out.trans HS2.out).size a2 c2 m2 _ rfl HM2.out.symm HFI2.out HNIL2.out HL2.out ?_)
        intro v4 w4 hown4 hg4
        have hs4 : Spares nowhere w0 w4 := (HS1.out.trans HS2.out).grown hg4 (fun k hk => .inr (World.ownsRow.lt HO2.out k hk).1)
        have HB4 := Lib.hid (hs4.heap HB0.out (fun h => h))
        have u0 : w4.cell? ⟨g, 0, none⟩ = some (.int .i64 st) := (Lib.cell_of_heap HB4.out 0).trans rfl
        have u1 : w4.cell? ⟨g, 1, none⟩ = some (.string reason) := (Lib.cell_of_heap HB4.out 1).trans rfl
        have u3 : w4.cell? ⟨g, 3, none⟩ = some (.slice ab k cb) := (Lib.cell_of_heap HB4.out 3).trans rfl
        have HOW := Lib.hid hown4
        have HS4 := Lib.hid hs4
        clear hown4 hg4 hs4
        obtain ⟨ls, hls⟩ : ∃ ls, us ++ rspLenG st fs k method = ls := ⟨_, rfl⟩
        have HLS : Hid (ls = unframedF fs ++ rspLenF st fs k method) := Lib.hid (by rw [← hls, HUS.out, rspLenF_eq, if_neg (by rintro (h | h); exact H204.out h; have := H200.out; omega)])
        obtain ⟨f1, f2, f3⟩ : ls.length ≤ 1000 ∧ (∀ j (h : j < ls.length), ls[j].1.size ≤ 1000000 ∧ ls[j].2.size ≤ 1000000) ∧ (linesF ls).length ≤ 100000 := by
          rw [HLS.out]
          exact fit_rsp HFIT.out (by omega) st method
        have hown := HOW.out
        rw [hls] at hown
        rw [show us.length + (rspLenG st fs k method).length = ls.length from by rw [← hls]; simp] at hown
        obtain ⟨fa4, fc4, hv4, hfi4⟩ := rowF_shape hown
        subst hv4
        have HWW : Hid (Spares nowhere w w4) := Lib.hid (HS0.out.trans HS4.out)
        have CMS : Hid (∀ x, Below w4.heap.size w4 x → Calls Tryz.prog 31 #[.string A3, .slice fa4 ls.length fc4, .slice ab k cb] x fun e w' => ∃ v, e = .returned v ∧ Hid (MsgPost (rspTextF st reason fs body method) w (.returned v) w') ∧ Below w4.heap.size w4 w') := Lib.hid (fun x hx => by
          have hsx : Spares nowhere w4 x := Below.spares hx (fun k hk => .inr hk)
          refine (message_any A3 ls body fa4 ab fc4 cb ls.length k x rfl HK.out (FieldsIn.quiet hfi4 (Nat.le_refl _) hsx hsx.size) (HAT.out.spares' (HWW.out.trans hsx) (fun _ _ _ _ h => h)) HNIL.out zA3 (by omega) f2 f3 (by have := HFIT.out.bod; omega)).mono ?_
          intro e w' hM
          have hM2 := msg_up hM (HWW.out.trans hsx) (T' := rspTextF st reason fs body method) (by unfold rspTextF rspBody; rw [HAD.out, HLS.out, HK.out, HBB.out]; rfl)
          obtain ⟨v, rfl, hv⟩ := hM
          exact ⟨v, rfl, Lib.hid hM2, hx.trans (hv.2.below0.mono hx.size)⟩)
        have CDS : Hid (∀ x, Below w4.heap.size w4 x → Calls Tryz.prog 36 #[.int .i64 st] x fun e w' => e = .returned (.string DG) ∧ Below w4.heap.size w4 w') := Lib.hid (fun x hx => by
          have hsx : Spares nowhere w4 x := Below.spares hx (fun k hk => .inr hk)
          exact (CDG.out x (HWW.out.trans hsx)).mono fun e w' ⟨he, hs⟩ => ⟨he, hx.trans (hs.below0.mono hx.size)⟩)
        have HSEE : Hid (∀ x, Below w4.heap.size w4 x → x.cell? ⟨g, 0, none⟩ = some (.int .i64 st) ∧ x.cell? ⟨g, 1, none⟩ = some (.string reason)) := Lib.hid (fun x hx => by
          have hsx : Spares nowhere w4 x := Below.spares hx (fun k hk => .inr hk)
          have hbx := hsx.heap HB4.out (fun h => h)
          exact ⟨(Lib.cell_of_heap hbx 0).trans rfl, (Lib.cell_of_heap hbx 1).trans rfl⟩)
        have hbd : Below w4.heap.size w4 w4.drew := (Below.refl _ _).drew
        clear hown hfi4 hls f1 f2 f3 CDG
        have r1 := HR1.out
        have r2 := HR2.out
        have r3 := HR3.out
        go_wp2_with fail
        refine (CB _).mono ?_
        rintro _ wb ⟨rfl, hwb⟩
        subst hwb
        go_wp2
        go_region_held3 (fun x => x.cell? ⟨g, 0, none⟩ = some (.int .i64 st) ∧ x.cell? ⟨g, 1, none⟩ = some (.string reason))
          (first | exact HSEE.out _ (by assumption) | go_keep)
          (first
            | (go_simp
               go_at_call 36
               (with_reducible refine Calls.mono (CDS.out _ (by assumption)) ?_)
               rintro e wn ⟨rfl, hbn⟩)
            | (go_simp
               go_at_call 31
               (with_reducible refine Calls.mono (CMS.out _ (by assumption)) ?_)
               rintro e wm ⟨vm, rfl, hM, hbm⟩)
            | fail)
        go_wp2
        go_ret
        exact hM.out
end Go.Proofs.YtjpmofnnjdhamaaGreatDoor
namespace Go.Proofs.YtjpmofnnjdhamaaGreatDoor
open Go.RowKit HeadMath NormMath NormS HeadS ChunkMath HttpMath

theorem dec_facts (k : Nat) : Lib.decDigits k ≠ [] ∧ (∀ c ∈ Lib.decDigits k, DateMath.digitD c = true) ∧ DateMath.valD (Lib.decDigits k) = k := by
  induction k using Nat.strongRecOn with
  | _ k ih =>
    have dg1 : ∀ j, j < 10 → (UInt8.ofNat (48 + j)).toNat = 48 + j := fun j hj => by simp; omega
    have dd : ∀ j, j < 10 → DateMath.digitD (UInt8.ofNat (48 + j)) = true := fun j hj => by
      unfold DateMath.digitD; rw [dg1 j hj, decide_eq_true_iff]; omega
    by_cases h : k < 10
    · rw [Lib.decDigits_one h]
      refine ⟨by simp, fun c hc => ?_, ?_⟩
      · obtain rfl : c = UInt8.ofNat (48 + k) := by simpa using hc
        exact dd k h
      · have := DateMath.valD
        show DateMath.valD ([] ++ [UInt8.ofNat (48 + k)]) = k
        rw [valD_snoc, dg1 k h]
        have : DateMath.valD [] = 0 := rfl
        omega
    · rw [dec_step (by omega)]
      obtain ⟨h1, h2, h3⟩ := ih (k / 10) (by omega)
      refine ⟨by simp, fun c hc => ?_, ?_⟩
      · rcases List.mem_append.1 hc with hc | hc
        · exact h2 c hc
        · obtain rfl : c = UInt8.ofNat (48 + k % 10) := by simpa using hc
          exact dd _ (by omega)
      · rw [valD_snoc, h3, dg1 _ (by omega)]
        omega
theorem dec_short : ∀ (j k : Nat), k < 10 ^ (j + 1) → (Lib.decDigits k).length ≤ j + 1
  | 0, k, h => by rw [Lib.decDigits_one (by simpa using h)]; simp
  | j + 1, k, h => by
    by_cases hk : k < 10
    · rw [Lib.decDigits_one hk]; simp
    · rw [dec_step (by omega), List.length_append]
      have := dec_short j (k / 10) (by rw [Nat.pow_succ] at h; omega)
      simp only [List.length_cons, List.length_nil]
      omega
theorem dec_num {k : Nat} (h : k ≤ 65536) : DateMath.numF (Lib.decDigits k) 18 = some k := by
  obtain ⟨h1, h2, h3⟩ := dec_facts k
  have h4 := dec_short 4 k (by omega)
  unfold DateMath.numF
  rw [if_pos ⟨fun e => h1 (List.eq_nil_of_length_eq_zero e), by omega, List.all_eq_true.2 h2⟩, h3]
def totL (L : List Bs) : Nat := (L.map fun l => l.length + 2).sum
theorem totL_cons (l : Bs) (L : List Bs) : totL (l :: L) = l.length + 2 + totL L := by unfold totL; simp
theorem cuts_tot : ∀ (n : Nat) (s : Bs), s.length ≤ n → totL (cuts crlf2 s) = s.length + 2
  | _, [], _ => by rw [cuts_nil]; rfl
  | 0, c :: t, hn => absurd hn (by simp)
  | n + 1, c :: t, hn => by
    have hn' : t.length ≤ n := by simpa using hn
    have hne : crlf2 ≠ [] := by decide
    cases hp : crlf2.isPrefixOf (c :: t) with
    | true =>
      rw [cuts_hit hne hp]
      have hl : 2 ≤ (c :: t).length := by
        have := List.IsPrefix.length_le (List.isPrefixOf_iff_prefix.1 hp)
        simpa [crlf2] using this
      have e2 : crlf2.length = 2 := rfl
      have := cuts_tot n ((c :: t).drop crlf2.length) (by rw [e2, List.length_drop]; simp only [List.length_cons] at hn hl ⊢; omega)
      rw [totL_cons, this, e2, List.length_drop]
      simp only [List.length_nil]
      omega
    | false =>
      rw [cuts_step hp]
      have := cuts_tot n t hn'
      cases hc : cuts crlf2 t with
      | nil => exact absurd hc (cuts_ne crlf2 t)
      | cons x r =>
        rw [hc, totL_cons] at this
        show totL ((c :: x) :: r) = _
        rw [totL_cons]
        simp only [List.length_cons]
        omega
theorem head_tot {b rest : Bs} {ls : List Bs} (h : headF b = .ok (ls, rest)) : totL ls ≤ b.length := by
  unfold headF at h
  by_cases hm : headAt b < 0
  · rw [if_pos hm] at h; cases h
  · rw [if_neg hm] at h
    obtain ⟨e, he⟩ : ∃ e : Nat, headAt b = e := ⟨(headAt b).toNat, by omega⟩
    rw [he] at h
    have hr := headAt_room he
    simp only [Int.toNat_natCast] at h
    by_cases hb : (cuts crlf2 (b.take e)).all bareL = true
    · rw [if_pos hb] at h
      injection h with h
      injection h with h1 h2
      rw [← h1, cuts_tot _ _ (Nat.le_refl _), List.length_take]
      omega
    · rw [if_neg hb] at h; cases h
theorem field_good {s : ByteArray} {f : ByteArray × ByteArray} (h : fieldOf s = some f) : goodF f ∧ f.1.size + f.2.size ≤ s.size := by
  unfold fieldOf at h
  split at h
  · cases h
  · split at h
    · rename_i h2
      injection h with h
      subst h
      refine ⟨h2, ?_⟩
      unfold fieldAt
      have h3 := trimF_len (s.extract ((colonAt s).toNat + 1) s.size).data.toList
      have e3 : (⟨(trimF (s.extract ((colonAt s).toNat + 1) s.size).data.toList).toArray⟩ : ByteArray).size = (trimF (s.extract ((colonAt s).toNat + 1) s.size).data.toList).length := ba_size _
      rw [size_list, ByteArray.size_extract] at h3
      simp only [ByteArray.size_extract, e3]
      omega
    · cases h
theorem lineT_len (f : ByteArray × ByteArray) : (lineT f).length = f.1.size + f.2.size + 4 := by
  unfold lineT
  rw [textOf_list]
  simp only [List.length_append, List.length_cons, List.length_nil, size_list]
  rw [show crlf2.length = 2 from rfl]
  omega
theorem flatT_cons (f : ByteArray × ByteArray) (l : Fs) : flatT (f :: l) = lineT f ++ flatT l := by unfold flatT; rw [List.map_cons, List.flatten_cons]
theorem parse_flat : ∀ (L : List Bs) (fs : Fs), parseF (L.map ba) = some fs → (flatT fs).length ≤ totL L + 2 * L.length ∧ ∀ f ∈ fs, goodF f
  | [], fs, h => by
    have : fs = [] := by simpa [parseF] using h.symm
    subst this
    exact ⟨by simp [flatT], fun f hf => by cases hf⟩
  | l :: L, fs, h => by
    rw [List.map_cons] at h
    unfold parseF at h
    cases h1 : fieldOf (ba l) with
    | none => rw [h1] at h; cases h
    | some f =>
      rw [h1] at h
      cases h2 : parseF (L.map ba) with
      | none => rw [h2] at h; cases h
      | some gs =>
        rw [h2] at h
        injection h with h
        subst h
        obtain ⟨i1, i2⟩ := parse_flat L gs h2
        obtain ⟨g1, g2⟩ := field_good h1
        rw [ba_size] at g2
        refine ⟨?_, fun x hx => ?_⟩
        · rw [flatT_cons, totL_cons, List.length_append, lineT_len, List.length_cons]; omega
        · rcases List.mem_cons.1 hx with rfl | hx
          · exact g1
          · exact i2 x hx
theorem fields_flat {ls : List Bs} {fs : Fs} (h : fieldsF ls = .ok fs) : (flatT fs).length ≤ totL ls + 200 ∧ (∀ f ∈ fs, goodF f) ∧ fs.length ≤ 100 := by
  unfold fieldsF at h
  by_cases h1 : 100 < ls.length
  · rw [if_pos h1] at h; cases h
  · rw [if_neg h1] at h
    cases h2 : parseF (ls.map ba) with
    | none => rw [h2] at h; cases h
    | some gs =>
      rw [h2] at h
      injection h with h
      subst h
      obtain ⟨i1, i2⟩ := parse_flat ls gs h2
      have := parseF_len h2
      rw [List.length_map] at this
      exact ⟨by omega, i2, by omega⟩
theorem lines_flat (fs : Fs) : linesF fs = flatT fs := by
  unfold linesF flatT
  rw [List.flatMap_def]
  congr 2
  funext f
  unfold HeadS.lineF lineT
  rw [textOf_list]
  simp [crlf2]
end Go.Proofs.YtjpmofnnjdhamaaGreatDoor
namespace Go.Proofs.YtjpmofnnjdhamaaGreatDoor
open Go.RowKit HeadMath NormMath NormS HeadS ChunkMath HttpMath

theorem drop_one (n : ByteArray) (l : Fs) : dropF [n] l = l.filter (fun f => !isNamed n f) := by
  unfold dropF
  congr 1
  funext f
  unfold inNames isNamed
  simp
theorem same_trans {a b c : Bs} (h1 : sameF a b = true) (h2 : sameF a c = true) : sameF b c = true := by
  unfold sameF at *
  rw [beq_iff_eq] at *
  rw [← h1, h2]
theorem allF_keep {n x : ByteArray} (h : sameF n.data.toList x.data.toList = false) : ∀ l : Fs, allF n (dropF [x] l) = allF n l
  | [] => rfl
  | f :: l => by
    have ih := allF_keep h l
    rw [drop_one] at ih ⊢
    rw [List.filter_cons]
    by_cases hx : isNamed x f = true
    · have hn : ¬ isNamed n f = true := fun hn => by
        have := same_trans hn hx
        rw [h] at this; cases this
      rw [if_neg (by rw [hx]; decide), allF_cons, if_neg hn]
      exact ih
    · rw [if_pos (by simp [hx]), allF_cons, allF_cons, ih]
theorem allF_drop (x : ByteArray) : ∀ l : Fs, allF x (dropF [x] l) = []
  | [] => rfl
  | f :: l => by
    have ih := allF_drop x l
    rw [drop_one] at ih ⊢
    rw [List.filter_cons]
    by_cases hx : isNamed x f = true
    · rw [if_neg (by rw [hx]; decide)]; exact ih
    · rw [if_pos (by simp [hx]), allF_cons, if_neg hx]; exact ih
theorem allF_app (n : ByteArray) (a b : Fs) : allF n (a ++ b) = allF n a ++ allF n b := by unfold allF; rw [List.filter_append, List.map_append]
theorem te_cl : sameF nTE.data.toList nCL.data.toList = false := by kernel_rfl
theorem cl_te : sameF nCL.data.toList nTE.data.toList = false := by kernel_rfl
theorem host_cl : sameF nHost.data.toList nCL.data.toList = false := by kernel_rfl
theorem host_te : sameF nHost.data.toList nTE.data.toList = false := by kernel_rfl
theorem cl_host : sameF nCL.data.toList nHost.data.toList = false := by kernel_rfl
theorem unf_host (l : Fs) : allF nHost (unframedF l) = allF nHost l := by
  unfold unframedF
  rw [allF_keep host_te, allF_keep host_cl]
theorem unf_te (l : Fs) : allF nTE (unframedF l) = [] := by unfold unframedF; rw [allF_drop]
theorem unf_cl (l : Fs) : allF nCL (unframedF l) = [] := by unfold unframedF; rw [allF_keep cl_te, allF_drop]
theorem one_host (v : ByteArray) : allF nHost [(nCL, v)] = [] := by rw [allF_cons, if_neg (by show ¬ sameF nCL.data.toList nHost.data.toList = true; rw [cl_host]; decide)]; rfl
theorem one_te (v : ByteArray) : allF nTE [(nCL, v)] = [] := by rw [allF_cons, if_neg (by show ¬ sameF nCL.data.toList nTE.data.toList = true; rw [cl_te]; decide)]; rfl
theorem one_cl (v : ByteArray) : allF nCL [(nCL, v)] = [v] := by rw [allF_cons, if_pos (by kernel_rfl)]; rfl
theorem framed_no (fs : Fs) (x : Bs) : framedF (unframedF fs ++ []) x = .ok ([], 0) := by
  unfold framedF sizeF listF
  rw [List.append_nil, unf_te, unf_cl]
  rfl
theorem framed_len (fs : Fs) (body x : Bs) {k : Nat} (hk : body.length = k) (h : k ≤ 65536) : framedF (unframedF fs ++ [(nCL, itoB k)]) (body ++ x) = .ok (body, k) := by
  obtain ⟨h1, h2, _⟩ := dec_facts k
  unfold framedF
  rw [allF_app, unf_te, one_te]
  rw [if_pos (by rfl)]
  have hs : sizeF (unframedF fs ++ [(nCL, itoB k)]) = .ok k := by
    unfold sizeF listF
    rw [allF_app, unf_cl, one_cl]
    have hp := parts_num (v := itoB k) (by simpa [itoB] using h1) (by simpa [itoB] using h2)
    rw [List.nil_append, List.flatMap_cons, List.flatMap_nil, hp]
    show (match DateMath.numF (Lib.decDigits k) 18 with
      | none => Except.error 94
      | some n => .ok n) = _
    rw [dec_num h]
  rw [hs]
  unfold lengthR
  simp only
  rw [if_neg (by omega), if_neg (by rw [List.length_append]; omega), ← hk, List.take_left]
theorem getF_two (fs : Fs) (v : ByteArray) : getF nCL (unframedF fs ++ [(nCL, v)]) ≠ none := by
  intro h
  unfold getF at h
  rw [Option.map_eq_none_iff, List.find?_eq_none] at h
  exact h (nCL, v) (by simp) (by kernel_rfl)
/-- What is unframed stays so. -/
theorem unf_mem {fs : Fs} : ∀ f ∈ unframedF fs, isNamed nCL f = false ∧ isNamed nTE f = false := fun f hf => by
  unfold unframedF at hf
  rw [drop_one, drop_one] at hf
  have h1 := (List.mem_filter.1 hf).2
  have h2 := (List.mem_filter.1 (List.mem_filter.1 hf).1).2
  exact ⟨by simpa using h2, by simpa using h1⟩
theorem unf_again (fs : Fs) (l : Fs) (hl : l = [] ∨ ∃ v, l = [(nCL, v)]) : unframedF (unframedF fs ++ l) = unframedF fs := by
  have h1 : dropF [nCL] (unframedF fs ++ l) = unframedF fs := by
    rw [drop_one, List.filter_append]
    have a : (unframedF fs).filter (fun f => !isNamed nCL f) = unframedF fs := by
      rw [List.filter_eq_self]
      intro f hf
      rw [(unf_mem f hf).1]; rfl
    have b : l.filter (fun f => !isNamed nCL f) = [] := by
      rcases hl with rfl | ⟨v, rfl⟩
      · rfl
      · rw [List.filter_cons, if_neg (by rw [show isNamed nCL (nCL, v) = true from by kernel_rfl]; decide)]; rfl
    rw [a, b, List.append_nil]
  have h2 : dropF [nTE] (unframedF fs) = unframedF fs := by
    rw [drop_one, List.filter_eq_self]
    intro f hf
    rw [(unf_mem f hf).2]; rfl
  have e : ∀ L : Fs, unframedF L = dropF [nTE] (dropF [nCL] L) := fun _ => rfl
  rw [e (unframedF fs ++ l), h1, h2]
theorem good_cl {v : ByteArray} (hv : valueF v.data.toList = true) : goodF (nCL, v) := ⟨by kernel_rfl, hv⟩
theorem good_dec (k : Nat) : goodF (nCL, itoB k) := good_cl (by
  obtain ⟨_, h2, _⟩ := dec_facts k
  exact digits_value h2)
theorem good_all {fs l : Fs} (hg : ∀ f ∈ fs, goodF f) (hl : ∀ f ∈ l, goodF f) : ∀ f ∈ unframedF fs ++ l, goodF f := fun f hf => by
  rcases List.mem_append.1 hf with hf | hf
  · exact hg f (unframed_mem f hf)
  · exact hl f hf
theorem flat_all {fs l : Fs} (hl : l = [] ∨ ∃ v : ByteArray, l = [(nCL, v)] ∧ v.size ≤ 3200) : (flatT (unframedF fs ++ l)).length ≤ (flatT fs).length + 3218 := by
  rw [← lines_flat, ← lines_flat, linesF_app, List.length_append]
  have h1 := unframed_lines fs
  rcases hl with rfl | ⟨v, rfl, hv⟩
  · have : (linesF []).length = 0 := rfl
    omega
  · have : (linesF [(nCL, v)]).length = nCL.size + v.size + 4 := by
      rw [linesF_one]
      unfold HeadS.lineF
      simp only [List.length_append, List.length_cons, List.length_nil, size_list]
      omega
    have hz : nCL.size = 14 := rfl
    omega
theorem msg_head {first : Bs} {fs l : Fs} (body : Bs) (h0 : bareL first = true) (hg : ∀ f ∈ unframedF fs ++ l, goodF f) (hn : first.length + (flatT (unframedF fs ++ l)).length ≤ 8000) (x : Bs) : headF (msgT first (unframedF fs ++ l) body ++ x) = .ok (first :: ((unframedF fs ++ l).map fun f => (textOf f).data.toList), body ++ x) := by
  have h := head_flat first (unframedF fs ++ l) (body ++ x) h0 hg hn
  rw [← h]
  unfold msgT
  rw [lines_flat]
  simp
end Go.Proofs.YtjpmofnnjdhamaaGreatDoor
namespace Go.Proofs.YtjpmofnnjdhamaaGreatDoor
open Go.RowKit HeadMath NormMath NormS HeadS ChunkMath HttpMath

theorem fit_msg {body : Bs} (hb : body.length ≤ 1000) : ∀ (l : Fs), (∀ f ∈ l, f.1.size ≤ 300 ∧ f.2.size ≤ 300) → (10 :: (linesF l ++ (13 :: 10 :: body))).length ≤ 60000 → FitL (10 :: (linesF l ++ (13 :: 10 :: body)))
  | [], _, h => by
    have e : linesF [] = [] := rfl
    rw [e, List.nil_append] at h ⊢
    exact fitL_seg [10] (by simp) (fitL_short (by simp; omega)) h
  | f :: l, hs, h => by
    have e : linesF (f :: l) = HeadS.lineF f ++ linesF l := by unfold linesF; rw [List.flatMap_cons]
    have e2 : (10 : UInt8) :: (linesF (f :: l) ++ (13 :: 10 :: body)) = (10 :: (f.1.data.toList ++ ([58, 32] ++ f.2.data.toList))) ++ 13 :: (10 :: (linesF l ++ (13 :: 10 :: body))) := by
      rw [e]
      unfold HeadS.lineF
      simp
    have h1 := hs f (by simp)
    rw [e2] at h ⊢
    refine fitL_seg _ ?_ (fit_msg hb l (fun g hg => hs g (by simp [hg])) ?_) h
    · simp only [List.length_append, List.length_cons, List.length_nil, size_list]; omega
    · rw [List.length_append, List.length_cons (a := (13 : UInt8))] at h
      omega
theorem fit_rest {T : Bs} (h : FitL T) : ∀ ls rest, headF T = .ok (ls, rest) → FitL rest := fun ls rest hH => by
  obtain ⟨p, hb, _⟩ := headF_split hH
  have := fitL_drop h p.length
  rw [hb, List.drop_left] at this
  exact this
/-- Few fields of few bytes. -/
theorem few_fit {fs : Fs} {body : Bs} (h : fewF fs) (hb : body.length ≤ 1000) : FitM fs body := by
  have hz : ∀ f ∈ fs, f.1.size ≤ 300 ∧ f.2.size ≤ 300 := fun f hf => by
    obtain ⟨j, hj, rfl⟩ := List.getElem_of_mem hf
    exact h.2 j hj
  have h15 := h.1
  have hl := lines_of (a := 15) (c := 600) h15 (fun f hf => by have := hz f hf; omega)
  exact ⟨by omega, fun f hf => by have := hz f hf; omega, fun f hf => by have := hz f hf; omega, by omega, by omega⟩
theorem few_all {fs : Fs} (h : fewF fs) {l : Fs} (hl : ∀ f ∈ l, f.2.size ≤ 300 ∧ f.1 = nCL) : ∀ f ∈ unframedF fs ++ l, f.1.size ≤ 300 ∧ f.2.size ≤ 300 := fun f hf => by
  rcases List.mem_append.1 hf with hf | hf
  · obtain ⟨j, hj, rfl⟩ := List.getElem_of_mem (unframed_mem f hf)
    exact h.2 j hj
  · obtain ⟨h1, h2⟩ := hl f hf
    have hz : nCL.size = 14 := rfl
    rw [h2, hz]; omega
theorem msgT_len (first : Bs) (l : Fs) (body : Bs) : (msgT first l body).length = first.length + (linesF l).length + body.length + 4 := by
  unfold msgT
  simp only [List.length_append]
  rw [show crlf2.length = 2 from rfl]
  omega
theorem msgT_fit {first body : Bs} {l : Fs} (h1 : first.length ≤ 1000) (hb : body.length ≤ 1000) (hl : ∀ f ∈ l, f.1.size ≤ 300 ∧ f.2.size ≤ 300) (hT : (msgT first l body).length ≤ 60000) : FitL (msgT first l body) := by
  have e : msgT first l body = first ++ 13 :: (10 :: (linesF l ++ (13 :: 10 :: body))) := by unfold msgT crlf2; rfl
  rw [e] at hT ⊢
  refine fitL_seg first (by omega) (fit_msg hb l hl ?_) hT
  rw [List.length_append, List.length_cons (a := (13 : UInt8))] at hT
  omega
theorem reqLen_cl {m : ByteArray} {n : Nat} (hn : n ≤ 100000) : ∀ f ∈ reqLenF m n, f.2.size ≤ 300 ∧ f.1 = nCL := fun f hf => by
  unfold reqLenF at hf
  split at hf
  · obtain rfl : f = (nCL, itoB n) := by simpa using hf
    have := itoB_size n (by omega)
    exact ⟨by show (itoB n).size ≤ _; omega, rfl⟩
  · cases hf
theorem reqText_fit {m t : ByteArray} {fs : Fs} {body : Bs} (hm : m.size ≤ 100) (ht : t.size ≤ 300) (hf : fewF fs) (hb : body.length ≤ 1000) : FitL (reqTextF m t fs body) ∧ (reqTextF m t fs body).length ≤ 20000 ∧ 4 ≤ (reqTextF m t fs body).length := by
  have h1 : (firstT m t).length ≤ 420 := by
    unfold firstT http11
    simp only [List.length_append, List.length_cons, List.length_nil, size_list]
    omega
  have hall := few_all hf (reqLen_cl (m := m) (n := body.length) (by omega))
  have h15 : (unframedF fs ++ reqLenF m body.length).length ≤ 16 := by
    have a := unframed_len fs
    have b := hf.1
    have c : (reqLenF m body.length).length ≤ 1 := by unfold reqLenF; split <;> simp
    rw [List.length_append]; omega
  have hl := lines_of (a := 16) (c := 600) h15 (fun f hf => by have := hall f hf; omega)
  have hlen := msgT_len (firstT m t) (unframedF fs ++ reqLenF m body.length) body
  unfold reqTextF
  exact ⟨msgT_fit (by omega) hb hall (by omega), by omega, by omega⟩
theorem MsgPost.slice {T : Bs} {w w' : World} {e : Ending} (h : MsgPost T w e w') : ∃ g c, e = .returned (.slice (some ⟨g, 0, none⟩) T.length c) ∧ BytesAt w' (some ⟨g, 0, none⟩) T ∧ T.length ≤ c ∧ w.heap.size ≤ g ∧ Spares nowhere w w' := by
  obtain ⟨v, he, hr, hs⟩ := h
  obtain ⟨g, c, rfl, hB, hat, hc⟩ := hr.shape
  exact ⟨g, c, he, hat, hc, hB, hs⟩
/-- What the sizes of a light request are. -/
structure LightM (m t : ByteArray) (fs : Fs) (body : Bs) : Prop where
  m : m.size ≤ 100
  t : t.size ≤ 300
  few : fewF fs
  body : body.length ≤ 1000
end Go.Proofs.YtjpmofnnjdhamaaGreatDoor
namespace Go.Proofs.YtjpmofnnjdhamaaGreatDoor
open Go.RowKit HeadMath NormMath NormS HeadS ChunkMath HttpMath

theorem first_parts {l0 m t : Bs} (h : firstF l0 = some (m, t)) : tokenF m = true ∧ targetF t = true ∧ m.length ≤ l0.length ∧ t.length ≤ l0.length := by
  unfold firstF at h
  cases hc : cuts [32] l0 with
  | nil => rw [hc] at h; cases h
  | cons a r =>
    cases r with
    | nil => rw [hc] at h; cases h
    | cons b r =>
      cases r with
      | nil => rw [hc] at h; cases h
      | cons c r =>
        cases r with
        | cons d r => rw [hc] at h; cases h
        | nil =>
          rw [hc] at h
          replace h : (if (tokenF a && targetF b && c == http11) = true then some (a, b) else none) = some (m, t) := h
          split at h
          · rename_i h2
            injection h with h
            injection h with h3 h4
            subst h3; subst h4
            simp only [Bool.and_eq_true] at h2
            have hm := cuts_mem [32] (by decide) l0.length l0 (Nat.le_refl _)
            rw [hc] at hm
            exact ⟨h2.1.1, h2.1.2, hm a (by simp), hm b (by simp)⟩
          · cases h
theorem token_bare {m : Bs} (h : tokenF m = true) : (∀ c ∈ m, bareC c = true) ∧ ∀ c ∈ m, c ≠ 32 := by
  unfold tokenF at h
  simp only [Bool.and_eq_true, List.all_eq_true] at h
  constructor
  · intro c hc
    have hs := h.1 c hc
    unfold bareC
    simp only [Bool.and_eq_true, bne_iff_ne]
    constructor
    · intro e; subst e; exact absurd hs (by decide)
    · intro e; subst e; exact absurd hs (by decide)
  · intro c hc e
    have hs := h.1 c hc
    subst e; exact absurd hs (by decide)
theorem target_bare {t : Bs} (h : targetF t = true) : (∀ c ∈ t, bareC c = true) ∧ ∀ c ∈ t, c ≠ 32 := by
  unfold targetF at h
  simp only [Bool.and_eq_true, List.all_eq_true] at h
  constructor
  · intro c hc
    have hs := h.1 c hc
    unfold bareC
    simp only [Bool.and_eq_true, bne_iff_ne]
    constructor
    · intro e; subst e; exact absurd hs (by decide)
    · intro e; subst e; exact absurd hs (by decide)
  · intro c hc e
    have hs := h.1 c hc
    subst e; exact absurd hs (by decide)
theorem first_back {m t : Bs} (hm : tokenF m = true) (ht : targetF t = true) : firstF (firstT (ba m) (ba t)) = some (m, t) ∧ bareL (firstT (ba m) (ba t)) = true ∧ (firstT (ba m) (ba t)).length = m.length + t.length + 10 := by
  obtain ⟨m1, m2⟩ := token_bare hm
  obtain ⟨t1, t2⟩ := target_bare ht
  have e : firstT (ba m) (ba t) = m ++ ([32] ++ (t ++ ([32] ++ http11))) := rfl
  refine ⟨?_, ?_, ?_⟩
  · rw [e]
    unfold firstF
    rw [cuts_app m _ m2, cuts_app t _ t2, cuts_one http11 (by decide)]
    show (if (tokenF m && targetF t && http11 == http11) = true then some (m, t) else none) = _
    rw [hm, ht]
    rfl
  · rw [e]
    unfold bareL
    rw [List.all_append, List.all_append, List.all_append, List.all_append, List.all_eq_true.2 m1, List.all_eq_true.2 t1]
    rfl
  · rw [e]
    simp only [List.length_append, List.length_cons, List.length_nil]
    rw [show http11.length = 8 from rfl]
    omega
theorem chunkG_body {F : Bs → Bool} : ∀ (f : Nat) (body s b r : Bs), body.length ≤ 65536 → chunkG F f body s = .ok (b, r) → b.length ≤ 65536
  | 0, body, s, b, r, _, h => by rw [chunkG] at h; cases h
  | f + 1, body, s, b, r, hb, h => by
    cases hl : lineF s with
    | error e => rw [chunkG_line hl] at h; cases h
    | ok tr =>
      obtain ⟨t, r1⟩ := tr
      cases hn : lengthF t with
      | none => rw [chunkG_none hl hn] at h; cases h
      | some n =>
        by_cases h0 : n = 0
        · subst h0
          rw [chunkG_zero hl hn] at h
          cases ht : trailG F (r1.length + 1) 0 r1 with
          | error e => rw [ht] at h; cases h
          | ok r2 =>
            rw [ht] at h
            injection h with h
            injection h with h1 h2
            rw [← h1]; exact hb
        · by_cases hbig : 65536 < body.length + n
          · rw [chunkG_long hl hn h0 hbig] at h; cases h
          · by_cases hsh : r1.length < n
            · rw [chunkG_short hl hn h0 hbig hsh] at h; cases h
            · rw [chunkG_more hl hn h0 hbig hsh] at h
              cases h13 : wantF 13 (r1.drop n) with
              | error e => rw [restG_one h13] at h; cases h
              | ok r2 =>
                cases h10 : wantF 10 r2 with
                | error e => rw [restG_two h13 h10] at h; cases h
                | ok r3 =>
                  rw [restG_ok h13 h10] at h
                  exact chunkG_body f _ _ _ _ (by rw [List.length_append, List.length_take]; omega) h
theorem framed_body {fs : Fs} {rest body : Bs} {sz : Nat} (h : framedF fs rest = .ok (body, sz)) : body.length ≤ 65536 := by
  unfold framedF at h
  by_cases h1 : (allF nTE fs).length = 0
  · rw [if_pos h1] at h
    obtain ⟨a1, a2, a3, a4⟩ := lengthR_ok h
    rw [a4, List.length_take]; omega
  · rw [if_neg h1] at h
    by_cases h2 : onlyF (allF nTE fs) = true ∧ getF nCL fs = none
    · rw [if_pos h2] at h
      obtain ⟨s, ho, _⟩ := chunkF_ok h
      exact chunkG_body _ _ _ _ _ (by simp) ho
    · rw [if_neg h2] at h; cases h
theorem host_app {fs l : Fs} (hl : l = [] ∨ ∃ v : ByteArray, l = [(nCL, v)] ∧ v.size ≤ 3200) : allF nHost (unframedF fs ++ l) = allF nHost fs := by
  rw [allF_app, unf_host]
  rcases hl with rfl | ⟨v, rfl, _⟩
  · rw [show allF nHost [] = [] from rfl, List.append_nil]
  · rw [one_host, List.append_nil]
theorem fits_back {fs : Fs} (_hg : ∀ f ∈ fs, goodF f) (hs : (flatT fs).length ≤ 3300) (hl : fs.length ≤ 100) {body : Bs} (hb : body.length ≤ 65536) : FitM fs body := by
  have hz : ∀ f ∈ fs, f.1.size + f.2.size ≤ 3300 := by
    intro f hf
    have key : ∀ l : Fs, f ∈ l → f.1.size + f.2.size ≤ (flatT l).length := by
      intro l
      induction l with
      | nil => intro h; cases h
      | cons g l ih =>
        intro h
        rw [flatT_cons, List.length_append]
        rcases List.mem_cons.1 h with rfl | h
        · rw [lineT_len]; omega
        · have := ih h; omega
    have := key fs hf
    omega
  exact ⟨by omega, fun f hf => by have := hz f hf; omega, fun f hf => by have := hz f hf; omega, by rw [lines_flat]; omega, by omega⟩
/-- A request that was read is written so that it is read again as it was. -/
theorem request_back {b m t body : Bs} {fs : Fs} {n0 : Nat} (h : requestF b = .ok (m, t, fs, body, n0)) (hb : b.length ≤ 3000) (hfew : fs.length < 100) : FitM fs body ∧ m.length ≤ 3000 ∧ t.length ≤ 3000 ∧ ∀ x, requestF (reqTextF (ba m) (ba t) fs body ++ x) = .ok (m, t, unframedF fs ++ reqLenF (ba m) body.length, body, (reqTextF (ba m) (ba t) fs body).length) := by
  obtain ⟨l0, ls, rest, sz, hH, h1, h2, h3, h4, _⟩ := request_parts h
  have htot := head_tot hH
  rw [totL_cons] at htot
  obtain ⟨f1, f2, f3⟩ := fields_flat h2
  obtain ⟨p1, p2, p3, p4⟩ := first_parts h1
  obtain ⟨q1, q2, q3⟩ := first_back p1 p2
  have hbody := framed_body h4
  obtain ⟨k, hk⟩ : ∃ k, body.length = k := ⟨_, rfl⟩
  rw [hk]
  have hi := itoB_size k (by omega)
  have hl : reqLenF (ba m) k = [] ∨ ∃ v : ByteArray, reqLenF (ba m) k = [(nCL, v)] ∧ v.size ≤ 3200 := by
    unfold reqLenF
    split
    · exact .inr ⟨_, rfl, by omega⟩
    · exact .inl rfl
  have hg := good_all (fs := fs) (l := reqLenF (ba m) k) f2 (fun f hf => by
    unfold reqLenF at hf
    split at hf
    · obtain rfl : f = (nCL, itoB k) := by simpa using hf
      exact good_dec k
    · cases hf)
  refine ⟨fits_back f2 (by omega) f3 (by omega), by omega, by omega, fun x => ?_⟩
  have hfl : (flatT (unframedF fs ++ reqLenF (ba m) k)).length ≤ (flatT fs).length + 39 := by
    rw [← lines_flat, ← lines_flat, linesF_app, List.length_append]
    have u1 := unframed_lines fs
    have u2 : (linesF (reqLenF (ba m) k)).length ≤ 39 := by
      unfold reqLenF
      split
      · rw [linesF_one]
        unfold HeadS.lineF
        simp only [List.length_append, List.length_cons, List.length_nil, size_list]
        have hz : nCL.size = 14 := rfl
        omega
      · simp [linesF]
    omega
  have hh := msg_head (first := firstT (ba m) (ba t)) (fs := fs) (l := reqLenF (ba m) k) body q2 hg (by omega) x
  have hT : reqTextF (ba m) (ba t) fs body = msgT (firstT (ba m) (ba t)) (unframedF fs ++ reqLenF (ba m) k) body := by unfold reqTextF; rw [hk]
  rw [hT]
  have hfields := fieldsF_text hg
  have hlen : (unframedF fs ++ reqLenF (ba m) k).length ≤ 100 := by
    have := unframed_len fs
    rw [List.length_append]
    have : (reqLenF (ba m) k).length ≤ 1 := by unfold reqLenF; split <;> simp
    omega
  rw [if_neg (by omega)] at hfields
  rw [request_of hh q1 hfields (by rw [host_app hl]; exact h3)]
  have hfr : framedF (unframedF fs ++ reqLenF (ba m) k) (body ++ x) = .ok (body, k) := by
    by_cases hc : putM (ba m) = true ∨ 0 < k
    · rw [show reqLenF (ba m) k = [(nCL, itoB k)] from by unfold reqLenF; rw [if_pos hc]]
      exact framed_len fs body x hk (by omega)
    · rw [show reqLenF (ba m) k = [] from by unfold reqLenF; rw [if_neg hc]]
      have hk0 : k = 0 := by omega
      have hb0 : body = [] := List.eq_nil_of_length_eq_zero (by omega)
      rw [hb0, hk0]
      exact framed_no fs _
  rw [hfr]
  unfold reqB
  simp only [List.length_append]
  have hml := msgT_len (firstT (ba m) (ba t)) (unframedF fs ++ reqLenF (ba m) k) body
  congr 5
  omega
end Go.Proofs.YtjpmofnnjdhamaaGreatDoor
namespace Go.Proofs.YtjpmofnnjdhamaaGreatDoor
open Go.RowKit HeadMath NormMath NormS HeadS ChunkMath HttpMath

theorem status_parts {l0 reason : Bs} {n : Nat} (h : statusF l0 = some (n, reason)) : 200 ≤ n ∧ n ≤ 599 ∧ reason.all textB = true ∧ reason.length ≤ l0.length := by
  unfold statusF at h
  split at h
  · unfold codeF at h
    cases hn : DateMath.numF (codeOf (l0.drop 9)) 3 with
    | none => rw [hn] at h; cases h
    | some k =>
      rw [hn] at h
      replace h : (if (codeOf (l0.drop 9)).length = 3 ∧ 200 ≤ k ∧ k ≤ 599 ∧ (reasonOf (l0.drop 9)).all textB = true then some (k, reasonOf (l0.drop 9)) else none) = some (n, reason) := h
      split at h
      · rename_i h2
        injection h with h
        injection h with h3 h4
        subst h3; subst h4
        refine ⟨h2.2.1, h2.2.2.1, h2.2.2.2, ?_⟩
        unfold reasonOf
        split
        · exact Nat.zero_le _
        · rw [List.length_drop, List.length_drop]; omega
      · cases h
  · cases h
/-- What a response that was read is made of. -/
theorem response_parts {b reason body : Bs} {fs : Fs} {n : Nat} {method : ByteArray} (h : responseF b method = .ok (n, reason, fs, body)) : ∃ l0 ls rest, headF b = .ok (l0 :: ls, rest) ∧ statusF l0 = some (n, reason) ∧ fieldsF ls = .ok fs ∧ ((bodilessF n method = true ∧ body = []) ∨ (bodilessF n method = false ∧ ∃ sz, rspW fs rest = .ok (body, sz))) := by
  unfold responseF at h
  cases hH : headF b with
  | error e => rw [hH] at h; cases h
  | ok lr =>
    obtain ⟨ls, rest⟩ := lr
    rw [hH] at h
    cases ls with
    | nil => cases h
    | cons l0 ls =>
      replace h : rspL method l0 ls rest = .ok (n, reason, fs, body) := h
      unfold rspL at h
      cases h1 : statusF l0 with
      | none => rw [h1] at h; cases h
      | some mt =>
        obtain ⟨n', r'⟩ := mt
        rw [h1] at h
        replace h : rspH n' r' method rest (fieldsF ls) = .ok (n, reason, fs, body) := h
        cases h2 : fieldsF ls with
        | error e => rw [h2] at h; cases h
        | ok fs' =>
          rw [h2] at h
          replace h : (if bodilessF n' method = true then (.ok (n', r', fs', []) : Except Nat Rsp) else rspB n' r' fs' (rspW fs' rest)) = .ok (n, reason, fs, body) := h
          cases hbl : bodilessF n' method with
          | true =>
            rw [hbl, if_pos rfl] at h
            injection h with h
            injection h with e1 h
            injection h with e2 h
            injection h with e3 e4
            subst e1; subst e2; subst e3
            exact ⟨l0, ls, rest, rfl, h1, h2, .inl ⟨hbl, e4.symm⟩⟩
          | false =>
            rw [hbl, if_neg (by decide)] at h
            cases h4 : rspW fs' rest with
            | error e => rw [h4] at h; cases h
            | ok bz =>
              obtain ⟨body', sz⟩ := bz
              rw [h4] at h
              injection h with h
              injection h with e1 h
              injection h with e2 h
              injection h with e3 e4
              subst e1; subst e2; subst e3; subst e4
              exact ⟨l0, ls, rest, rfl, h1, h2, .inr ⟨hbl, sz, h4⟩⟩
theorem response_of {b reason rest : Bs} {l0 : Bs} {ls : List Bs} {fs : Fs} {n : Nat} {method : ByteArray} (hH : headF b = .ok (l0 :: ls, rest)) (h1 : statusF l0 = some (n, reason)) (h2 : fieldsF ls = .ok fs) : responseF b method = if bodilessF n method = true then .ok (n, reason, fs, []) else rspB n reason fs (rspW fs rest) := by
  unfold responseF
  rw [hH]
  show rspL method l0 ls rest = _
  unfold rspL
  rw [h1, h2]
  rfl
theorem rspW_body {fs : Fs} {rest body : Bs} {sz : Nat} (h : rspW fs rest = .ok (body, sz)) : body.length ≤ 65536 := by
  unfold rspW at h
  split at h
  · split at h
    · cases h
    · injection h with h
      injection h with h1 h2
      rw [← h1]; omega
  · exact framed_body h
theorem val_mem {f : ByteArray × ByteArray} : ∀ l : Fs, f ∈ l → f.1.size + f.2.size ≤ (flatT l).length
  | [], h => by cases h
  | g :: l, h => by
    rw [flatT_cons, List.length_append]
    rcases List.mem_cons.1 h with rfl | h
    · rw [lineT_len]; omega
    · have := val_mem l h; omega
theorem response_back {b reason body : Bs} {fs : Fs} {n : Nat} {method : ByteArray} (h : responseF b method = .ok (n, reason, fs, body)) (hb : b.length ≤ 3000) (hfew : fs.length < 100) : FitM fs body ∧ reason.length ≤ 3000 ∧ n ≤ 599 ∧ ∃ l : Fs, (l = [] ∨ ∃ v, l = [(nCL, v)]) ∧ ∀ x, responseF (rspTextF n (ba reason) fs body method ++ x) method = .ok (n, reason, unframedF fs ++ l, body) := by
  obtain ⟨l0, ls, rest, hH, h1, h2, h4⟩ := response_parts h
  have htot := head_tot hH
  rw [totL_cons] at htot
  obtain ⟨f1, f2, f3⟩ := fields_flat h2
  obtain ⟨p1, p2, p3, p4⟩ := status_parts h1
  have hbody : body.length ≤ 65536 := by
    rcases h4 with ⟨_, rfl⟩ | ⟨_, sz, h5⟩
    · simp
    · exact rspW_body h5
  obtain ⟨k, hk⟩ : ∃ k, body.length = k := ⟨_, rfl⟩
  have hi := itoB_size k (by omega)
  have hst : stat3 (n : Int) = n := by unfold stat3; omega
  have hn1000 : n < 1000 := by omega
  have hshape : (rspLenF n fs k method = [] ∨ ∃ v : ByteArray, rspLenF n fs k method = [(nCL, v)] ∧ v.size ≤ 3200) ∧ (∀ f ∈ rspLenF n fs k method, goodF f) := by
    rw [rspLenF_eq]
    split
    · exact ⟨.inl rfl, fun f hf => by cases hf⟩
    · rcases lenG_shape (n : Int) fs k method with e | e | ⟨v, e, hv⟩
      · rw [e]; exact ⟨.inl rfl, fun f hf => by cases hf⟩
      · rw [e]
        refine ⟨.inr ⟨_, rfl, by omega⟩, fun f hf => ?_⟩
        obtain rfl : f = (nCL, itoB k) := by simpa using hf
        exact good_dec k
      · rw [e]
        obtain ⟨g, hg, rfl⟩ := getF_mem hv
        have hgs := val_mem fs hg
        refine ⟨.inr ⟨_, rfl, ?_⟩, fun f hf => ?_⟩
        · omega
        · obtain rfl : f = (nCL, g.2) := by simpa using hf
          exact good_cl (f2 g hg).2
  obtain ⟨hl, hgl⟩ := hshape
  have hg := good_all (fs := fs) (l := rspLenF n fs k method) f2 hgl
  have hfl := flat_all (fs := fs) hl
  refine ⟨fits_back f2 (by omega) f3 (by omega), by omega, p2, rspLenF n fs k method, ?_, fun x => ?_⟩
  · rcases hl with e | ⟨v, e, _⟩
    · exact .inl e
    · exact .inr ⟨v, e⟩
  have hrl : (respL n reason).length = reason.length + 13 := by
    unfold respL digs
    simp only [List.length_append, List.length_cons, List.length_nil]
    rw [show http11.length = 8 from rfl]
    omega
  have hh := msg_head (first := respL n reason) (fs := fs) (l := rspLenF n fs k method) (rspBody n method body) (respL_bare hn1000 p3) hg (by omega) x
  have hT : rspTextF n (ba reason) fs body method = msgT (respL n reason) (unframedF fs ++ rspLenF n fs k method) (rspBody n method body) := by unfold rspTextF; rw [hk, hst, ba_data]
  rw [hT]
  have hfields := fieldsF_text hg
  have hlen : (unframedF fs ++ rspLenF n fs k method).length ≤ 100 := by
    have := unframed_len fs
    rw [List.length_append]
    rcases hl with e | ⟨v, e, _⟩
    · rw [e]; simp; omega
    · rw [e]; simp; omega
  rw [if_neg (by omega)] at hfields
  have hs := status_line hn1000 p3
  rw [if_pos ⟨p1, p2⟩] at hs
  rw [response_of hh hs hfields]
  rcases h4 with ⟨hbl, rfl⟩ | ⟨hbl, sz, h5⟩
  · rw [if_pos hbl]
  · rw [if_neg (by rw [hbl]; decide)]
    have hlen2 : rspLenF n fs k method = [(nCL, itoB k)] := by
      unfold bodilessF at hbl
      simp only [Bool.or_eq_false_iff] at hbl
      obtain ⟨⟨⟨b1, b2⟩, b3⟩, b4⟩ := hbl
      rw [rspLenF_eq, if_neg, rspLenG_len (by rw [headIs_eq]; exact b1) (by simpa using b3)]
      rintro (e | e)
      · rw [e] at b2; simp at b2
      · simp at b4; omega
    have hrb : rspBody n method body = body := by unfold rspBody; rw [hbl]; rfl
    rw [hlen2, hrb]
    have hw : rspW (unframedF fs ++ [(nCL, itoB k)]) (body ++ x) = .ok (body, k) := by
      unfold rspW
      rw [if_neg (fun h => getF_two fs _ h.2)]
      exact framed_len fs body x hk (by omega)
    rw [hw]
    rfl
end Go.Proofs.YtjpmofnnjdhamaaGreatDoor
namespace Go.Proofs.YtjpmofnnjdhamaaGreatDoor
open Go.RowKit HeadMath NormMath NormS HeadS ChunkMath HttpMath

theorem lineG_num : ∀ (s acc : Bs) (x : Nat), lineG acc s = .error x → x ≠ 0
  | [], acc, x, h => by rw [lineG] at h; injection h with h; omega
  | c :: r, acc, x, h => by
    rw [lineG] at h
    split at h
    · cases r with
      | nil => unfold crF at h; injection h with h; omega
      | cons d r =>
        replace h : (if d = 10 then (.ok (acc, r) : Except Nat (Bs × Bs)) else .error 94) = .error x := h
        split at h
        · cases h
        · injection h with h; omega
    · split at h
      · injection h with h; omega
      · exact lineG_num r _ x h
theorem trailG_num {F : Bs → Bool} : ∀ (f n : Nat) (s : Bs) (x : Nat), trailG F f n s = .error x → x ≠ 0
  | 0, n, s, x, h => by rw [trailG] at h; injection h with h; omega
  | f + 1, n, s, x, h => by
    cases hl : lineF s with
    | error e => rw [trailG_line hl] at h; injection h with h; subst h; exact lineG_num _ _ _ hl
    | ok tr =>
      obtain ⟨t, r1⟩ := tr
      by_cases ht : t = []
      · subst ht; rw [trailG_end hl] at h; cases h
      · by_cases hb : F t = false ∨ n = 100
        · rw [trailG_bad hl ht hb] at h; injection h with h; omega
        · rw [trailG_on hl ht hb] at h; exact trailG_num f _ _ x h
theorem wantF_num {c : UInt8} {s : Bs} {x : Nat} (h : wantF c s = .error x) : x ≠ 0 := by
  cases s with
  | nil => unfold wantF at h; injection h with h; omega
  | cons d r =>
    replace h : (if d = c then (.ok r : Except Nat Bs) else .error 94) = .error x := h
    split at h
    · cases h
    · injection h with h; omega
theorem chunkG_num {F : Bs → Bool} : ∀ (f : Nat) (body s : Bs) (x : Nat), chunkG F f body s = .error x → x ≠ 0
  | 0, body, s, x, h => by rw [chunkG] at h; injection h with h; omega
  | f + 1, body, s, x, h => by
    cases hl : lineF s with
    | error e => rw [chunkG_line hl] at h; injection h with h; subst h; exact lineG_num _ _ _ hl
    | ok tr =>
      obtain ⟨t, r1⟩ := tr
      cases hn : lengthF t with
      | none => rw [chunkG_none hl hn] at h; injection h with h; omega
      | some n =>
        by_cases h0 : n = 0
        · subst h0
          rw [chunkG_zero hl hn] at h
          cases ht : trailG F (r1.length + 1) 0 r1 with
          | error e => rw [ht] at h; injection h with h; subst h; exact trailG_num _ _ _ _ ht
          | ok r2 => rw [ht] at h; cases h
        · by_cases hbig : 65536 < body.length + n
          · rw [chunkG_long hl hn h0 hbig] at h; injection h with h; omega
          · by_cases hsh : r1.length < n
            · rw [chunkG_short hl hn h0 hbig hsh] at h; injection h with h; omega
            · rw [chunkG_more hl hn h0 hbig hsh] at h
              cases h13 : wantF 13 (r1.drop n) with
              | error e => rw [restG_one h13] at h; injection h with h; subst h; exact wantF_num h13
              | ok r2 =>
                cases h10 : wantF 10 r2 with
                | error e => rw [restG_two h13 h10] at h; injection h with h; subst h; exact wantF_num h10
                | ok r3 =>
                  rw [restG_ok h13 h10] at h
                  exact chunkG_num f _ _ _ h
theorem size_num {L : List ByteArray} {x : Nat} (h : sizeL L = .error x) : x ≠ 0 := by
  unfold sizeL at h
  split at h
  · cases h
  · split at h
    · split at h
      · injection h with h; omega
      · cases h
    · injection h with h; omega
theorem framed_num {fs : Fs} {rest : Bs} {x : Nat} (h : framedF fs rest = .error x) : x ≠ 0 := by
  unfold framedF at h
  split at h
  · cases hs : sizeF fs with
    | error e =>
      rw [hs] at h
      unfold lengthR at h
      injection h with h
      subst h
      exact size_num hs
    | ok n =>
      rw [hs] at h
      unfold lengthR at h
      simp only at h
      split at h
      · injection h with h; omega
      · split at h
        · injection h with h; omega
        · cases h
  · split at h
    · unfold chunkF at h
      cases ho : openF fieldB rest with
      | error e => rw [ho] at h; injection h with h; subst h; exact chunkG_num _ _ _ _ ho
      | ok bs => rw [ho] at h; cases h
    · injection h with h; omega
theorem head_num {b : Bs} {x : Nat} (h : headF b = .error x) : x ≠ 0 := by
  unfold headF at h
  split at h
  · injection h with h; subst h; split <;> decide
  · split at h
    · cases h
    · injection h with h; omega
theorem fields_num {ls : List Bs} {x : Nat} (h : fieldsF ls = .error x) : x ≠ 0 := by
  unfold fieldsF at h
  split at h
  · injection h with h; omega
  · split at h
    · injection h with h; omega
    · cases h
theorem request_num {b : Bs} {x : Nat} (h : requestF b = .error x) : x ≠ 0 := by
  unfold requestF at h
  cases hH : headF b with
  | error e => rw [hH] at h; injection h with h; subst h; exact head_num hH
  | ok lr =>
    obtain ⟨ls, rest⟩ := lr
    rw [hH] at h
    cases ls with
    | nil => exact absurd rfl (cuts_lines hH).1
    | cons l0 ls =>
      replace h : reqL b l0 ls rest = .error x := h
      unfold reqL at h
      cases h1 : firstF l0 with
      | none => rw [h1] at h; injection h with h; omega
      | some mt =>
        obtain ⟨m', t'⟩ := mt
        rw [h1] at h
        replace h : reqH m' t' b rest (fieldsF ls) = .error x := h
        cases h2 : fieldsF ls with
        | error e => rw [h2] at h; injection h with h; subst h; exact fields_num h2
        | ok fs' =>
          rw [h2] at h
          replace h : (if (allF nHost fs').length = 1 then reqB m' t' fs' b rest (framedF fs' rest) else .error 90) = .error x := h
          split at h
          · cases h4 : framedF fs' rest with
            | error e => rw [h4] at h; injection h with h; subst h; exact framed_num h4
            | ok bz => rw [h4] at h; cases h
          · injection h with h; omega
theorem response_num {b : Bs} {method : ByteArray} {x : Nat} (h : responseF b method = .error x) : x ≠ 0 := by
  unfold responseF at h
  cases hH : headF b with
  | error e => rw [hH] at h; injection h with h; subst h; exact head_num hH
  | ok lr =>
    obtain ⟨ls, rest⟩ := lr
    rw [hH] at h
    cases ls with
    | nil => exact absurd rfl (cuts_lines hH).1
    | cons l0 ls =>
      replace h : rspL method l0 ls rest = .error x := h
      unfold rspL at h
      cases h1 : statusF l0 with
      | none => rw [h1] at h; injection h with h; omega
      | some mt =>
        obtain ⟨n', r'⟩ := mt
        rw [h1] at h
        replace h : rspH n' r' method rest (fieldsF ls) = .error x := h
        cases h2 : fieldsF ls with
        | error e => rw [h2] at h; injection h with h; subst h; exact fields_num h2
        | ok fs' =>
          rw [h2] at h
          replace h : (if bodilessF n' method = true then (.ok (n', r', fs', []) : Except Nat Rsp) else rspB n' r' fs' (rspW fs' rest)) = .error x := h
          split at h
          · cases h
          · cases h4 : rspW fs' rest with
            | error e =>
              rw [h4] at h
              injection h with h
              subst h
              unfold rspW at h4
              split at h4
              · split at h4
                · injection h4 with h4; omega
                · cases h4
              · exact framed_num h4
            | ok bz => rw [h4] at h; cases h
end Go.Proofs.YtjpmofnnjdhamaaGreatDoor
namespace Go.Proofs.YtjpmofnnjdhamaaGreatDoor
open Go.RowKit HeadMath NormMath NormS HeadS ChunkMath HttpMath

set_option maxRecDepth 100000 in
set_option maxHeartbeats 4000000 in
theorem framedH_any (l : Fs) (a : Option Addr) (c n : Nat) (w : World) (hn : n = l.length) (hin : FieldsIn w.heap.size w a l) (hsm : SmallF l) (hle : l.length ≤ 1000000) :
    Calls Tryz.prog 20 #[.slice a n c] w (FieldPost w (unframedF l)) := by
  have C1 := (HeadS.refDrop_any l nCL a c n w hin hn hsm hle (by decide))
  obtain ⟨l2, hl2⟩ : ∃ l2, dropF [nCL] l = l2 := ⟨_, rfl⟩
  have hd := dropF_len [nCL] l
  have hsm2 : SmallF l2 := by
    rw [← hl2]
    intro j hj
    have hm := List.getElem_mem hj
    unfold dropF at hm
    have hm2 := (List.mem_filter.1 hm).1
    obtain ⟨i, hi, he⟩ := List.getElem_of_mem hm2
    have := hsm i hi
    rw [he] at this
    exact this
  rw [hl2] at hd
  have C2 : Hid (∀ W a2 c2, FieldsIn W.heap.size W a2 l2 → Calls Tryz.prog 33 #[.slice a2 l2.length c2, .string nTE] W (FieldPost W (dropF [nTE] l2))) := Lib.hid (fun W a2 c2 h => HeadS.refDrop_any l2 nTE a2 c2 l2.length W h rfl hsm2 (by omega) (by decide))
  unfold unframedF
  rw [hl2] at C1 ⊢
  unfold nCL at C1
  unfold nTE at C2 ⊢
  unfold FieldPost at C1 C2 ⊢
  clear hsm hsm2 hin hd hl2 hn hle
  go_enter Tryz.func20, Tryz.ntmps20
  go_wp2_with fail
  refine C1.mono ?_
  rintro _ w1 ⟨v, rfl, hown, hb1⟩
  obtain ⟨a2, c2, rfl, hfi⟩ := rowF_shape hown
  have HB1 := Lib.hid hb1
  have CC := C2.out w1 a2 c2 hfi
  clear hown hfi hb1 C1
  go_wp2_with fail
  refine CC.mono ?_
  rintro _ w2 ⟨v2, rfl, hown2, hb2⟩
  have HO2 := Lib.hid hown2
  have HB2 := Lib.hid hb2
  obtain ⟨a3, c3, hv3, _⟩ := rowF_shape hown2
  subst hv3
  clear hown2 hb2 CC
  go_wp2
  go_ret
  exact ⟨_, rfl, ownsRow_base HO2.out HB1.out.size, HB1.out.trans (HB2.out.mono HB1.out.size)⟩
end Go.Proofs.YtjpmofnnjdhamaaGreatDoor
namespace Go.Proofs.YtjpmofnnjdhamaaGreatDoor
open Go.RowKit HeadMath NormMath NormS HeadS ChunkMath HttpMath

theorem response_fits {R t body : Bs} {st : Nat} {U : Fs} {method : ByteArray} (RB : ∀ x, responseF (R ++ x) method = .ok (st, t, U, body)) (hR : R.length ≤ 200000) : U.length ≤ 100 ∧ SmallF U := by
  have h := RB []
  rw [List.append_nil] at h
  obtain ⟨l0, ls, rest, hH, _, h2, _⟩ := response_parts h
  obtain ⟨_, _, f3⟩ := fields_flat h2
  have hl := (cuts_lines hH).2.2.1
  have hw := fieldsF_few h2 (fun l hl' => by have := hl l (by simp [hl']); omega)
  exact ⟨f3, fun j hj => by have := hw.2 j hj; omega⟩
theorem fcells {u : World} {b : Nat} {x y z v : Value} {t : TypeId} {fz : Nat × Nat} (h : u.heap[b]? = some (.cells #[x, y, z, v] t fz)) : u.cell? ⟨b, 0, none⟩ = some x ∧ u.cell? ⟨b, 1, none⟩ = some y ∧ u.cell? ⟨b, 2, none⟩ = some z ∧ u.cell? ⟨b, 3, none⟩ = some v :=
  ⟨(Lib.cell_of_heap h 0).trans rfl, (Lib.cell_of_heap h 1).trans rfl, (Lib.cell_of_heap h 2).trans rfl, (Lib.cell_of_heap h 3).trans rfl⟩
theorem atLeast_no {w w1 w2 : World} (h : Spares (atLeast w1.heap.size) w1 w2) (hl : w.heap.size ≤ w1.heap.size) (h1 : Spares nowhere w w1) : Spares nowhere w w2 := h1.trans' h (fun _ hk => .inr (Nat.le_trans hl hk))
/-- A row of fields that stands, whatever is written into two blocks. -/
def StaysF (p q : Nat) (z : World) (a : Option Addr) (U : Fs) : Prop := ∀ y, Spares (fun k => k = p ∨ k = q) z y → FieldsIn y.heap.size y a U
theorem framed_stays {p q : Nat} {x : World} {l : Fs} {a : Option Addr} {c n : Nat} (hn : l.length = n) (hin : FieldsIn x.heap.size x a l) (hsm : SmallF l) (hle : l.length ≤ 1000) (hp : p < x.heap.size) (hq : q < x.heap.size) :
    Calls Tryz.prog 20 #[.slice a n c] x fun e w' => ∃ a2 c2, e = .returned (.slice a2 (unframedF l).length c2) ∧ Hid (StaysF p q w' a2 (unframedF l)) ∧ Hid (Spares nowhere x w') := by
  refine (framedH_any l a c n x hn.symm hin hsm (by omega)).mono ?_
  rintro e w' ⟨v2, he, hown, hb⟩
  obtain ⟨a2, c2, rfl, _⟩ := rowF_shape hown
  refine ⟨a2, c2, he, Lib.hid (fun y hy => ?_), Lib.hid (Below.spares (F := nowhere) hb (fun k hk => .inr hk))⟩
  have h2 := hy.own hown (fun g hg => by
    have := (World.ownsRow.lt hown g hg).1
    rintro (e | e) <;> omega)
  obtain ⟨a3, c3, h3, h4⟩ := rowF_shape h2
  injection h3 with h3
  rw [h3]
  exact h4
set_option maxRecDepth 100000 in
set_option maxHeartbeats 32000000 in
theorem backLaw_any (b x : Bs) (method : ByteArray) (aB aX : Option Addr) (nB cB nX cX : Nat) (w : World) (hb : BytesAt w aB b) (hx : BytesAt w aX x) (hnB : b.length = nB) (hnX : x.length = nX) (hnilB : aB = none → cB = 0) (hnilX : aX = none → cX = 0) (hcB : nB ≤ cB) (hmB : nB ≤ maxLen) (hmX : nX ≤ maxLen) (hm : method.size ≤ 140737488351232) (hM : MaxL w) (hT : TabH w) :
    Calls Tryz.prog 4 #[.slice aB nB cB, .slice aX nX cX, .string method] w (KnowsH w) := by
  have K := knownH_any w hM
  unfold maxLen at hmB hmX
  unfold KnowsH at K ⊢
  by_cases h1 : 3000 < nB
  · have d0 : (3000 : Int) < (nB : Int) := by omega
    go_enter Tryz.func4, Tryz.ntmps4
    go_wp2_with fail
    refine K.mono ?_
    rintro _ w1 ⟨rfl, hs1⟩
    go_wp2
    go_ret
    exact ⟨rfl, hs1⟩
  have d0 : ¬ (3000 : Int) < (nB : Int) := by omega
  by_cases h2 : 100 < nX
  · have d1 : (100 : Int) < (nX : Int) := by omega
    go_enter Tryz.func4, Tryz.ntmps4
    go_wp2_with fail
    refine K.mono ?_
    rintro _ w1 ⟨rfl, hs1⟩
    go_wp2
    go_ret
    exact ⟨rfl, hs1⟩
  have d1 : ¬ (100 : Int) < (nX : Int) := by omega
  by_cases h3 : 50 < method.size
  · have d2 : (50 : Int) < (method.size : Int) := by omega
    go_enter Tryz.func4, Tryz.ntmps4
    go_wp2_with fail
    refine K.mono ?_
    rintro _ w1 ⟨rfl, hs1⟩
    go_wp2
    go_ret
    exact ⟨rfl, hs1⟩
  have d2 : ¬ (50 : Int) < (method.size : Int) := by omega
  have hb3 : b.length ≤ 3000 := by omega
  have hx3 : x.length ≤ 100 := by omega
  have HM := Lib.hid hM
  have HT := Lib.hid hT
  have HBA := Lib.hid hb
  have HXA := Lib.hid hx
  have HNB := Lib.hid hnB
  have HNX := Lib.hid hnX
  have HNILB := Lib.hid hnilB
  have HNILX := Lib.hid hnilX
  obtain ⟨rq, hrq⟩ : ∃ r, requestF b = r := ⟨_, rfl⟩
  obtain ⟨rp, hrp⟩ : ∃ r, responseF b method = r := ⟨_, rfl⟩
  have HRQ := Lib.hid hrq
  have HRP := Lib.hid hrp
  have CQ : Hid (∀ W, Spares nowhere w W → Calls Tryz.prog 19 #[.slice aB nB cB] W (ReqPost rq W)) := Lib.hid (fun W h => by
    rw [← HRQ.out]
    exact request_any b aB cB nB W HNB.out.symm (HBA.out.spares' h (fun _ _ _ _ h => h)) (by rw [HNB.out]; exact hcB) HNILB.out (by omega) (HM.out.spares h))
  have CP : Hid (∀ W, Spares nowhere w W → Calls Tryz.prog 22 #[.slice aB nB cB, .string method] W (RspPost rp W)) := Lib.hid (fun W h => by
    rw [← HRP.out]
    exact response_any b method aB cB nB W HNB.out.symm (HBA.out.spares' h (fun _ _ _ _ h => h)) (by rw [HNB.out]; exact hcB) HNILB.out (by omega) (HM.out.spares h))
  have HB3 := Lib.hid hb3
  have HX3 := Lib.hid hx3
  clear hM hT hb hx hnB hnX hnilB hnilX hrq hrp hb3 hx3 hcB
  go_enter Tryz.func4, Tryz.ntmps4
  go_wp2_with fail
  refine K.mono ?_
  rintro _ w1 ⟨rfl, hs1⟩
  have HS1 := Lib.hid hs1
  clear hs1 K
  go_wp2_with fail
  refine (CQ.out w1 HS1.out).mono ?_
  rintro e2 w2 h2
  cases rq with
  | error y =>
    obtain ⟨rfl, hs2⟩ := h2
    have hy := request_num HRQ.out
    unfold zeroQ
    have q1 : ((y : Int) == 0) = false := by rw [beq_eq_false_iff_ne]; omega
    obtain ⟨V, hV⟩ : ∃ V, w2.alloc (.cells #[.string ⟨#[]⟩, .string ⟨#[]⟩, .slice none 0 0, .slice none 0 0] 25) = V := ⟨_, rfl⟩
    have HSV : Hid (Spares nowhere w V) := Lib.hid (by rw [← hV]; exact (HS1.out.trans hs2).alloc _)
    have HV := Lib.hid hV
    clear hs2 hy CQ hV
    have HS1 := Lib.hid HSV.out
    go_wp2_with fail
    rw [HV.out]
    refine (CP.out V HS1.out).mono ?_
    rintro e2 w2 h2
    cases rp with
    | error y =>
      obtain ⟨rfl, hs2⟩ := h2
      have hy := response_num HRP.out
      unfold zeroR
      have q1 : ((y : Int) == 0) = false := by rw [beq_eq_false_iff_ne]; omega
      obtain ⟨VV, hV⟩ : ∃ VV, w2.alloc (.cells #[.int .i64 0, .string ⟨#[]⟩, .slice none 0 0, .slice none 0 0] 27) = VV := ⟨_, rfl⟩
      have HSV : Hid (Spares nowhere w VV) := Lib.hid (by rw [← hV]; exact (HS1.out.trans hs2).alloc _)
      have HV := Lib.hid hV
      clear hs2 hy CP hV
      go_wp2
      go_ret
      exact ⟨rfl, by rw [HV.out]; exact HSV.out⟩
    | ok rr =>
      obtain ⟨st, t, fs, body⟩ := rr
      obtain ⟨⟨vf, vb, rfl, hf2, hb2⟩, hs2⟩ := h2
      unfold rspV
      obtain ⟨fa, fc, rfl, hfi2⟩ := rowF_shape hf2
      obtain ⟨ab, cb, rfl, hbt2, hbn2, _⟩ := hb2.shape
      obtain ⟨n, hn⟩ : ∃ n, fs.length = n := ⟨_, rfl⟩
      obtain ⟨k, hk⟩ : ∃ k, body.length = k := ⟨_, rfl⟩
      rw [hn, hk]
      obtain ⟨T, hT⟩ : ∃ T, ba t = T := ⟨_, rfl⟩
      rw [hT]
      obtain ⟨g, hg⟩ : ∃ g, w2.heap.size = g := ⟨_, rfl⟩
      obtain ⟨VV, hV⟩ : ∃ VV, w2.alloc (.cells #[.int .i64 st, .string T, .slice fa n fc, .slice ab k cb] 27) = VV := ⟨_, rfl⟩
      have hs2V : Spares nowhere w2 VV := by rw [← hV]; exact (Spares.refl _ _).alloc _
      have HSV : Hid (Spares nowhere w VV) := Lib.hid ((HS1.out.trans hs2).trans hs2V)
      have hBV : VV.heap[g]? = some (.cells #[.int .i64 st, .string T, .slice fa n fc, .slice ab k cb] 27 (0, 0)) := by rw [← hV, ← hg]; exact heap_alloc_new _ _
      have hgw : w.heap.size ≤ g := by rw [← hg]; exact (HS1.out.trans hs2).size
      rw [hk] at hb2
      have HRB2 : Hid (Row8 V.heap.size w2 (.slice ab k cb) body) := Lib.hid hb2
      have HS2V := Lib.hid hs2V
      have HFI := Lib.hid (FieldsIn.quiet hfi2 (Nat.le_refl _) hs2V hs2V.size)
      have HBT := Lib.hid (hbt2.spares' hs2V (fun _ _ _ _ h => h))
      have HBN := Lib.hid hbn2
      have HN := Lib.hid hn
      have HK := Lib.hid hk
      have HBV := Lib.hid hBV
      have HV := Lib.hid hV
      have HG := Lib.hid hg
      have HMT := Lib.hid hT
      clear hT
      obtain ⟨x0, x1, x2, x3⟩ := fcells hBV
      clear hs2 hs2V hBV hf2 hb2 hfi2 hbt2 hbn2 hn hk hV hg CP
      by_cases h100 : n < 100
      · have q2 : (n : Int) < 100 := by omega
        obtain ⟨FM, lt, ls, l, hl, RB⟩ := response_back HRP.out HB3.out (by rw [HN.out]; exact h100)
        rw [HMT.out] at RB
        have zT : T.size ≤ 4000 := by rw [← HMT.out, ba_size]; omega
        obtain ⟨R, hR⟩ : ∃ R, rspTextF (st : Int) T fs body method = R := ⟨_, rfl⟩
        obtain ⟨U, hU⟩ : ∃ U, unframedF fs ++ l = U := ⟨_, rfl⟩
        have CR := responseBytes_any (st : Int) T method fs body fa ab fc cb n k VV (by omega) (by omega) HN.out HK.out HFI.out HBT.out HBN.out zT FM (HT.out.spares HSV.out (fun h => h))
        rw [hR] at RB CR
        rw [hU] at RB
        have hfl := fit_rsp (n := body.length) FM (by have := FM.bod; omega) (st : Int) method
        have hRl : R.length ≤ 200000 := by
          rw [← hR]
          unfold rspTextF
          rw [msgT_len]
          have := FM.bod
          have : (rspBody (st : Int) method body).length ≤ body.length := by unfold rspBody; split <;> simp
          have : (respL (stat3 (st : Int)) T.data.toList).length = T.size + 13 := by
            unfold respL digs http11
            simp only [List.length_append, List.length_cons, List.length_nil, size_list]
            omega
          omega
        have hUU : unframedF U = unframedF fs := by
          rw [← hU]
          exact unf_again fs l hl
        have hfu := response_fits RB hRl
        have hUl : U.length ≤ 1000 := by have := hfu.1; omega
        have hUs : SmallF U := hfu.2
        have HFM := Lib.hid FM
        have HRB := Lib.hid RB
        have HUU := Lib.hid hUU
        have HUS := Lib.hid hUs
        obtain ⟨rl, hrl⟩ : ∃ r, R.length = r := ⟨_, rfl⟩
        have HRL := Lib.hid hrl
        rw [hrl] at hRl
        clear RB FM hR hUU hUs hrl h100 lt hU hfl hfu hl
        go_wp2_with fail
        rw [HV.out, HG.out]
        go_wp2_with fail
        refine CR.mono ?_
        rintro e5 w5 hm5
        obtain ⟨g5, c5, rfl, hat5, hc5, _, hs5⟩ := hm5.slice
        rw [HRL.out] at hc5 ⊢
        have HAT5 := Lib.hid hat5
        have HS5 := Lib.hid hs5
        have HSW5 := Lib.hid (HSV.out.trans hs5)
        clear hm5 hat5 hs5 CR
        go_wp2_with (at_builtin; refine wpList_row_bytes rfl _ _ rfl w5.heap.size _ [] rfl (row8_nil _ _) (some ⟨g5, 0, none⟩) c5 rl R rfl HRL.out.symm HAT5.out (fun e => by cases e) (by simp; omega) (Nat.le_refl _) ?_)
        intro v6 w6 hr6 hs6
        have hr6' : Row8 w5.heap.size w6 v6 R := hr6
        have HR6 := Lib.hid hr6'
        have HS6 : Hid (Spares nowhere w5 w6) := Lib.hid (atLeast_no hs6 (Nat.le_refl _) (Spares.refl _ _))
        have HX6 := Lib.hid (HXA.out.spares' (HSW5.out.trans HS6.out) (fun _ _ _ _ h => h))
        clear hr6 hs6 hr6'
        go_wp2_with (at_builtin; refine wpList_row_bytes rfl _ _ rfl w5.heap.size v6 R rfl HR6.out aX cX nX x rfl HNX.out.symm HX6.out HNILX.out (by rw [HRL.out]; omega) HS6.out.size ?_)
        intro v7 w7 hr7 hs7
        have HS7 : Hid (Spares nowhere w5 w7) := Lib.hid (HS6.out.trans' hs7 (fun k hk => .inr hk))
        obtain ⟨a7, c7, rfl, hat7, hnil7, hcap7⟩ := hr7.shape
        obtain ⟨n7, hn7⟩ : ∃ n, (R ++ x).length = n := ⟨_, rfl⟩
        have hn7' : n7 ≤ 300000 := by rw [← hn7, List.length_append, HRL.out]; have := HX3.out; omega
        have CQ2 := response_any (R ++ x) method a7 c7 n7 w7 hn7.symm hat7 hcap7 hnil7 (by omega) (HM.out.spares (HSW5.out.trans HS7.out))
        rw [HRB.out x] at CQ2
        unfold RspPost rspV at CQ2
        simp only at CQ2
        rw [HMT.out] at CQ2
        rw [hn7]
        clear hr7 hs7 hat7 hnil7 hcap7 hn7
        go_wp2_with fail
        refine CQ2.mono ?_
        rintro e8 w8 ⟨⟨vf8, vb8, rfl, hf8, hb8⟩, hs8⟩
        obtain ⟨fa8, fc8, rfl, hfi8⟩ := rowF_shape hf8
        obtain ⟨ab8, cb8, rfl, hbt8, _, _⟩ := hb8.shape
        rw [HK.out] at hb8 ⊢
        obtain ⟨u, hu⟩ : ∃ u, U.length = u := ⟨_, rfl⟩
        rw [hu]
        obtain ⟨g8, hg8⟩ : ∃ g, w8.heap.size = g := ⟨_, rfl⟩
        have hs58 : Spares nowhere VV w8 := (HS5.out.trans HS7.out).trans hs8
        obtain ⟨v9, hv9⟩ : ∃ VV, w8.alloc (.cells #[.int .i64 st, .string T, .slice fa8 u fc8, .slice ab8 k cb8] 27) = VV := ⟨_, rfl⟩
        have hs89 : Spares nowhere w8 v9 := by rw [← hv9]; exact (Spares.refl _ _).alloc _
        have hB9 : v9.heap[g8]? = some (.cells #[.int .i64 st, .string T, .slice fa8 u fc8, .slice ab8 k cb8] 27 (0, 0)) := by rw [← hv9, ← hg8]; exact heap_alloc_new _ _
        have hA9 := (hs58.trans hs89).heap HBV.out (fun h => h)
        have HSW9 := Lib.hid (HSV.out.trans (hs58.trans hs89))
        have HSV9 := Lib.hid (hs58.trans hs89)
        have HS89 := Lib.hid hs89
        have HRB8 : Hid (Row8 w7.heap.size w8 (.slice ab8 k cb8) body) := Lib.hid hb8
        have HG7 : Hid (g < w7.heap.size) := Lib.hid (by
          have h1 := (Array.getElem?_eq_some_iff.1 ((HS5.out.trans HS7.out).heap HBV.out (fun h => h))).1
          exact h1)
        have HFI9 := Lib.hid (FieldsIn.quiet HFI.out (Nat.le_refl _) (hs58.trans hs89) (hs58.trans hs89).size)
        have HFI8 := Lib.hid (FieldsIn.quiet hfi8 (Nat.le_refl _) hs89 hs89.size)
        have hgl : g < g8 := by
          have h1 := (Array.getElem?_eq_some_iff.1 (hs58.heap HBV.out (fun h => h))).1
          omega
        have hg9 : g8 < v9.heap.size := (Array.getElem?_eq_some_iff.1 hB9).1
        have HU := Lib.hid hu
        have HV9 := Lib.hid hv9
        have HG8 := Lib.hid hg8
        have HA9 := Lib.hid hA9
        have HB9 := Lib.hid hB9
        clear hf8 hb8 hs8 hfi8 hbt8 hu hg8 hs58 hv9 hs89 hB9 hA9 CQ2
        go_upto_region 16 with (fail)
        rw [HV9.out, HG8.out]
        obtain ⟨UN, hUN⟩ : ∃ U, unframedF fs = U := ⟨_, rfl⟩
        obtain ⟨q, hq⟩ : ∃ q, UN.length = q := ⟨_, rfl⟩
        have CF1 : Hid (∀ y, Spares nowhere v9 y → Calls Tryz.prog 20 #[.slice fa n fc] y fun e w' => ∃ a2 c2, e = .returned (.slice a2 q c2) ∧ Hid (StaysF g g8 w' a2 UN) ∧ Hid (Spares nowhere y w') ∧ Spares nowhere v9 w' ∧ w'.cell? ⟨g, 2, none⟩ = some (.slice fa n fc) ∧ w'.frozen? ⟨g, 2, none⟩ = false ∧ w'.cell? ⟨g8, 2, none⟩ = some (.slice fa8 u fc8) ∧ w'.frozen? ⟨g8, 2, none⟩ = false) := Lib.hid (fun y hy => by
          have hA := hy.heap HA9.out (fun h => h)
          have hB := hy.heap HB9.out (fun h => h)
          have h := framed_stays (p := g) (q := g8) (c := fc) HN.out (FieldsIn.quiet HFI9.out (Nat.le_refl _) hy hy.size) HFM.out.small (by have := HFM.out.len; omega) (Array.getElem?_eq_some_iff.1 hA).1 (Array.getElem?_eq_some_iff.1 hB).1
          rw [hUN, hq] at h
          refine h.mono ?_
          rintro e w' ⟨a2, c2, he, hs, hsp⟩
          have hA' := hsp.out.heap hA (fun h => h)
          have hB' := hsp.out.heap hB (fun h => h)
          exact ⟨a2, c2, he, hs, hsp, hy.trans hsp.out, (Lib.cell_of_heap hA' 2).trans rfl, Lib.frozen_of_heap hA' 2, (Lib.cell_of_heap hB' 2).trans rfl, Lib.frozen_of_heap hB' 2⟩)
        have CF2 : Hid (∀ y, Spares nowhere v9 y → Calls Tryz.prog 20 #[.slice fa8 u fc8] y fun e w' => ∃ a2 c2, e = .returned (.slice a2 q c2) ∧ Hid (StaysF g g8 w' a2 UN) ∧ Hid (Spares nowhere y w') ∧ Spares nowhere v9 w' ∧ w'.cell? ⟨g, 2, none⟩ = some (.slice fa n fc) ∧ w'.frozen? ⟨g, 2, none⟩ = false ∧ w'.cell? ⟨g8, 2, none⟩ = some (.slice fa8 u fc8) ∧ w'.frozen? ⟨g8, 2, none⟩ = false) := Lib.hid (fun y hy => by
          have hA := hy.heap HA9.out (fun h => h)
          have hB := hy.heap HB9.out (fun h => h)
          have h := framed_stays (p := g) (q := g8) (c := fc8) HU.out (FieldsIn.quiet HFI8.out (Nat.le_refl _) hy hy.size) HUS.out (by rw [HU.out]; rw [HU.out] at hUl; exact hUl) (Array.getElem?_eq_some_iff.1 hA).1 (Array.getElem?_eq_some_iff.1 hB).1
          rw [HUU.out, hUN, hq] at h
          refine h.mono ?_
          rintro e w' ⟨a2, c2, he, hs, hsp⟩
          have hA' := hsp.out.heap hA (fun h => h)
          have hB' := hsp.out.heap hB (fun h => h)
          exact ⟨a2, c2, he, hs, hsp, hy.trans hsp.out, (Lib.cell_of_heap hA' 2).trans rfl, Lib.frozen_of_heap hA' 2, (Lib.cell_of_heap hB' 2).trans rfl, Lib.frozen_of_heap hB' 2⟩)
        have HQU := Lib.hid hq
        have HUN := Lib.hid hUN
        have hdr : Spares nowhere v9 v9.drew := (Spares.refl _ _).drew
        have y0 : v9.cell? ⟨g, 2, none⟩ = some (.slice fa n fc) := (Lib.cell_of_heap HA9.out 2).trans rfl
        have y1 : v9.cell? ⟨g8, 2, none⟩ = some (.slice fa8 u fc8) := (Lib.cell_of_heap HB9.out 2).trans rfl
        have ne1 : ¬ g = g8 := by omega
        have ne2 : ¬ g8 = g := by omega
        clear hUN hq x0 x1 x2 x3 hUl
        go_region_law (first
          | (go_simp
             go_at_call 20
             (with_reducible refine Calls.mono (CF1.out _ (by assumption)) ?_)
             rintro e wn ⟨an, cn, rfl, hst, hsx, hsn, z0, z1, z2, z3⟩)
          | (go_simp
             go_at_call 20
             (with_reducible refine Calls.mono (CF2.out _ (by assumption)) ?_)
             rintro e wo ⟨ao, co, rfl, hso, hsy, hsn2, u0, u1, u2, u3⟩)
          | fail)
        all_goals
          obtain ⟨W, hW⟩ : ∃ W, (wo.setCell ⟨g, 2, none⟩ (.slice an q cn)).setCell ⟨g8, 2, none⟩ (.slice ao q co) = W := ⟨_, rfl⟩
          have hspW : Spares (fun k => k = g ∨ k = g8) wo W := by
            rw [← hW]
            exact ((Spares.refl (fun k => k = g ∨ k = g8) wo).setCell (p := ⟨g, 2, none⟩) (.inl (.inl rfl)) _).setCell (p := ⟨g8, 2, none⟩) (.inl (.inr rfl)) _
          have hAo := hsn2.heap HA9.out (fun h => h)
          have hBo := hsn2.heap HB9.out (fun h => h)
          have hAW : W.heap[g]? = some (.cells #[.int .i64 st, .string T, .slice an q cn, .slice ab k cb] 27 (0, 0)) := by
            have h1 := (set_at (i := 2) hAo (.slice an q cn)).trans rfl
            rw [← hW]
            exact ((Spares.refl (fun k => k = g8) (wo.setCell ⟨g, 2, none⟩ (.slice an q cn))).setCell (p := ⟨g8, 2, none⟩) (.inl rfl) _).heap h1 (fun h => ne1 h)
          have hBW : W.heap[g8]? = some (.cells #[.int .i64 st, .string T, .slice ao q co, .slice ab8 k cb8] 27 (0, 0)) := by
            have h1 := ((Spares.refl (fun k => k = g) wo).setCell (p := ⟨g, 2, none⟩) (.inl rfl) (.slice an q cn)).heap hBo (fun h => ne2 h)
            rw [← hW]
            exact (set_at (i := 2) h1 (.slice ao q co)).trans rfl
          have hw0 : Spares (fun k => k = g ∨ k = g8) v9 W := (hsn2.mono (fun _ h => by cases h)).trans hspW
          have HSVW : Hid (Spares nowhere w W) := Lib.hid (HSW9.out.trans' hw0 (fun k hk => .inr (by rcases hk with e | e <;> omega)))
          have hFn := hst.out W ((hsy.out.mono (fun _ h => by cases h)).trans hspW)
          have hFo := hso.out W hspW
          have hBb : BytesAt W ab body := by
            have h1 : Spares (fun k => k = g ∨ k = g8) w2 W := ((HS2V.out.trans HSV9.out).mono (fun _ h => by cases h)).trans hw0
            have hlt : ∀ z, (Value.slice ab k cb).ownBlock = some z → z < w2.heap.size := fun z hz => (World.ownsRow.lt HRB2.out z hz).2
            have h2 : Row8 V.heap.size W (.slice ab k cb) body := h1.own HRB2.out (fun z hz e => by
              have := hlt z hz
              rw [HG.out] at this
              rcases e with e | e <;> omega)
            obtain ⟨a', c', e', hbt', _, _⟩ := h2.shape
            injection e' with e1 e2 e3
            rw [e1]; exact hbt'
          have hB8 : BytesAt W ab8 body := by
            have h1 : Spares (fun k => k = g ∨ k = g8) w8 W := (HS89.out.mono (fun _ h => by cases h)).trans hw0
            have h2 : Row8 w7.heap.size W (.slice ab8 k cb8) body := h1.own HRB8.out (fun z hz e => by
              have h3 := World.ownsRow.lt HRB8.out z hz
              have h4 := HG7.out
              rw [HG8.out] at h3
              rcases e with e | e <;> omega)
            obtain ⟨a', c', e', hbt', _, _⟩ := h2.shape
            injection e' with e1 e2 e3
            rw [e1]; exact hbt'
          have CE := helpRsp_same st T UN body ao an ab8 ab co cn cb8 cb q k W HQU.out HK.out hFo hFn hB8 hBb (by rw [HQU.out]; rw [← HUN.out] at HQU; have := unframed_len fs; have := HQU.out; have := HFM.out.len; omega)
          unfold YesH at CE
          have HW := Lib.hid hW
          obtain ⟨p0, p1, p2, p3⟩ := fcells hAW
          obtain ⟨o0, o1, o2, o3⟩ := fcells hBW
          rw [HW.out]
          clear hW hspW hAo hBo hAW hBW hw0 hFn hFo hBb hB8 hst hsx hsn hso hsy hsn2 z0 z1 z2 z3 u0 u1 u2 u3 y0 y1 CF1 CF2
          skip
          go_wp2_with fail
          refine CE.mono ?_
          rintro e10 V10 ⟨rfl, hs10⟩
          have HSV10 : Hid (Spares nowhere w V10) := Lib.hid (HSVW.out.trans hs10)
          clear hs10 CE
          go_wp2
          go_ret
          exact ⟨rfl, HSV10.out⟩
      · have q2 : ¬ (n : Int) < 100 := by omega
        go_wp2
        go_ret
        exact ⟨rfl, by rw [HV.out]; exact HSV.out⟩
  | ok rr =>
    obtain ⟨m, t, fs, body, n0⟩ := rr
    obtain ⟨⟨vf, vb, rfl, hf2, hb2⟩, hs2⟩ := h2
    unfold reqV
    obtain ⟨fa, fc, rfl, hfi2⟩ := rowF_shape hf2
    obtain ⟨ab, cb, rfl, hbt2, hbn2, _⟩ := hb2.shape
    obtain ⟨n, hn⟩ : ∃ n, fs.length = n := ⟨_, rfl⟩
    obtain ⟨k, hk⟩ : ∃ k, body.length = k := ⟨_, rfl⟩
    rw [hn, hk]
    obtain ⟨M, hM⟩ : ∃ M, ba m = M := ⟨_, rfl⟩
    obtain ⟨T, hT⟩ : ∃ T, ba t = T := ⟨_, rfl⟩
    rw [hM, hT]
    obtain ⟨g, hg⟩ : ∃ g, w2.heap.size = g := ⟨_, rfl⟩
    obtain ⟨V, hV⟩ : ∃ V, w2.alloc (.cells #[.string M, .string T, .slice fa n fc, .slice ab k cb] 25) = V := ⟨_, rfl⟩
    have hs2V : Spares nowhere w2 V := by rw [← hV]; exact (Spares.refl _ _).alloc _
    have HSV : Hid (Spares nowhere w V) := Lib.hid ((HS1.out.trans hs2).trans hs2V)
    have hBV : V.heap[g]? = some (.cells #[.string M, .string T, .slice fa n fc, .slice ab k cb] 25 (0, 0)) := by rw [← hV, ← hg]; exact heap_alloc_new _ _
    have hgw : w.heap.size ≤ g := by rw [← hg]; exact (HS1.out.trans hs2).size
    rw [hk] at hb2
    have HRB2 : Hid (Row8 w1.heap.size w2 (.slice ab k cb) body) := Lib.hid hb2
    have HS2V := Lib.hid hs2V
    have HFI := Lib.hid (FieldsIn.quiet hfi2 (Nat.le_refl _) hs2V hs2V.size)
    have HBT := Lib.hid (hbt2.spares' hs2V (fun _ _ _ _ h => h))
    have HBN := Lib.hid hbn2
    have HN := Lib.hid hn
    have HK := Lib.hid hk
    have HBV := Lib.hid hBV
    have HV := Lib.hid hV
    have HG := Lib.hid hg
    have HMT := Lib.hid (And.intro hM hT)
    clear hM hT
    obtain ⟨x0, x1, x2, x3⟩ := fcells hBV
    clear hs2 hs2V hBV hf2 hb2 hfi2 hbt2 hbn2 hn hk hV hg CQ
    by_cases h100 : n < 100
    · have q2 : (n : Int) < 100 := by omega
      obtain ⟨FM, lm, lt, RB⟩ := request_back HRQ.out HB3.out (by rw [HN.out]; exact h100)
      rw [HMT.out.1, HMT.out.2] at RB
      have zM : M.size ≤ 4000 := by rw [← HMT.out.1, ba_size]; omega
      have zT : T.size ≤ 4000 := by rw [← HMT.out.2, ba_size]; omega
      obtain ⟨R, hR⟩ : ∃ R, reqTextF M T fs body = R := ⟨_, rfl⟩
      obtain ⟨U, hU⟩ : ∃ U, unframedF fs ++ reqLenF M body.length = U := ⟨_, rfl⟩
      have CR := requestBytes_any M T fs body fa ab fc cb n k V HN.out HK.out HFI.out HBT.out HBN.out zM zT FM (HT.out.spares HSV.out (fun h => h))
      rw [hR] at RB CR
      rw [hU] at RB
      have hfl := fit_len (n := body.length) FM (by have := FM.bod; omega) (reqLenF M body.length) (by unfold reqLenF; split; exact .inr rfl; exact .inl rfl)
      have hRl : R.length ≤ 200000 := by
        rw [← hR]
        unfold reqTextF
        rw [msgT_len]
        have := FM.bod
        have : (firstT M T).length = M.size + T.size + 10 := by
          unfold firstT http11
          simp only [List.length_append, List.length_cons, List.length_nil, size_list]
          omega
        omega
      have hUU : unframedF U = unframedF fs := by
        rw [← hU]
        refine unf_again fs _ ?_
        unfold reqLenF
        split
        · exact .inr ⟨_, rfl⟩
        · exact .inl rfl
      rw [hU] at hfl
      have hUl : U.length ≤ 1000 := hfl.1
      have hUs : SmallF U := fun j hj => by have := hfl.2.1 j hj; omega
      have HFM := Lib.hid FM
      have HRB := Lib.hid RB
      have HUU := Lib.hid hUU
      have HUS := Lib.hid hUs
      obtain ⟨rl, hrl⟩ : ∃ r, R.length = r := ⟨_, rfl⟩
      have HRL := Lib.hid hrl
      rw [hrl] at hRl
      clear RB FM hR hUU hUs hrl h100 lm lt hU hfl
      go_wp2_with fail
      rw [HV.out, HG.out]
      go_wp2_with fail
      refine CR.mono ?_
      rintro e5 w5 hm5
      obtain ⟨g5, c5, rfl, hat5, hc5, _, hs5⟩ := hm5.slice
      rw [HRL.out] at hc5 ⊢
      have HAT5 := Lib.hid hat5
      have HS5 := Lib.hid hs5
      have HSW5 := Lib.hid (HSV.out.trans hs5)
      clear hm5 hat5 hs5 CR
      go_wp2_with (at_builtin; refine wpList_row_bytes rfl _ _ rfl w5.heap.size _ [] rfl (row8_nil _ _) (some ⟨g5, 0, none⟩) c5 rl R rfl HRL.out.symm HAT5.out (fun e => by cases e) (by simp; omega) (Nat.le_refl _) ?_)
      intro v6 w6 hr6 hs6
      have hr6' : Row8 w5.heap.size w6 v6 R := hr6
      have HR6 := Lib.hid hr6'
      have HS6 : Hid (Spares nowhere w5 w6) := Lib.hid (atLeast_no hs6 (Nat.le_refl _) (Spares.refl _ _))
      have HX6 := Lib.hid (HXA.out.spares' (HSW5.out.trans HS6.out) (fun _ _ _ _ h => h))
      clear hr6 hs6 hr6'
      go_wp2_with (at_builtin; refine wpList_row_bytes rfl _ _ rfl w5.heap.size v6 R rfl HR6.out aX cX nX x rfl HNX.out.symm HX6.out HNILX.out (by rw [HRL.out]; omega) HS6.out.size ?_)
      intro v7 w7 hr7 hs7
      have HS7 : Hid (Spares nowhere w5 w7) := Lib.hid (HS6.out.trans' hs7 (fun k hk => .inr hk))
      obtain ⟨a7, c7, rfl, hat7, hnil7, hcap7⟩ := hr7.shape
      obtain ⟨n7, hn7⟩ : ∃ n, (R ++ x).length = n := ⟨_, rfl⟩
      have hn7' : n7 ≤ 300000 := by rw [← hn7, List.length_append, HRL.out]; have := HX3.out; omega
      have CQ2 := request_any (R ++ x) a7 c7 n7 w7 hn7.symm hat7 hcap7 hnil7 (by omega) (HM.out.spares (HSW5.out.trans HS7.out))
      rw [HRB.out x] at CQ2
      unfold ReqPost reqV at CQ2
      simp only at CQ2
      rw [HMT.out.1, HMT.out.2, HRL.out] at CQ2
      rw [hn7]
      clear hr7 hs7 hat7 hnil7 hcap7 hn7
      go_wp2_with fail
      refine CQ2.mono ?_
      rintro e8 w8 ⟨⟨vf8, vb8, rfl, hf8, hb8⟩, hs8⟩
      obtain ⟨fa8, fc8, rfl, hfi8⟩ := rowF_shape hf8
      obtain ⟨ab8, cb8, rfl, hbt8, _, _⟩ := hb8.shape
      rw [HK.out] at hb8 ⊢
      obtain ⟨u, hu⟩ : ∃ u, U.length = u := ⟨_, rfl⟩
      rw [hu]
      obtain ⟨g8, hg8⟩ : ∃ g, w8.heap.size = g := ⟨_, rfl⟩
      have hs58 : Spares nowhere V w8 := (HS5.out.trans HS7.out).trans hs8
      obtain ⟨v9, hv9⟩ : ∃ V, w8.alloc (.cells #[.string M, .string T, .slice fa8 u fc8, .slice ab8 k cb8] 25) = V := ⟨_, rfl⟩
      have hs89 : Spares nowhere w8 v9 := by rw [← hv9]; exact (Spares.refl _ _).alloc _
      have hB9 : v9.heap[g8]? = some (.cells #[.string M, .string T, .slice fa8 u fc8, .slice ab8 k cb8] 25 (0, 0)) := by rw [← hv9, ← hg8]; exact heap_alloc_new _ _
      have hA9 := (hs58.trans hs89).heap HBV.out (fun h => h)
      have HSW9 := Lib.hid (HSV.out.trans (hs58.trans hs89))
      have HSV9 := Lib.hid (hs58.trans hs89)
      have HS89 := Lib.hid hs89
      have HRB8 : Hid (Row8 w7.heap.size w8 (.slice ab8 k cb8) body) := Lib.hid hb8
      have HG7 : Hid (g < w7.heap.size) := Lib.hid (by
        have h1 := (Array.getElem?_eq_some_iff.1 ((HS5.out.trans HS7.out).heap HBV.out (fun h => h))).1
        exact h1)
      have HFI9 := Lib.hid (FieldsIn.quiet HFI.out (Nat.le_refl _) (hs58.trans hs89) (hs58.trans hs89).size)
      have HFI8 := Lib.hid (FieldsIn.quiet hfi8 (Nat.le_refl _) hs89 hs89.size)
      have hgl : g < g8 := by
        have h1 := (Array.getElem?_eq_some_iff.1 (hs58.heap HBV.out (fun h => h))).1
        omega
      have hg9 : g8 < v9.heap.size := (Array.getElem?_eq_some_iff.1 hB9).1
      have HU := Lib.hid hu
      have HV9 := Lib.hid hv9
      have HG8 := Lib.hid hg8
      have HA9 := Lib.hid hA9
      have HB9 := Lib.hid hB9
      clear hf8 hb8 hs8 hfi8 hbt8 hu hg8 hs58 hv9 hs89 hB9 hA9 CQ2
      go_upto_region 9 with (fail)
      rw [HV9.out, HG8.out]
      obtain ⟨UN, hUN⟩ : ∃ U, unframedF fs = U := ⟨_, rfl⟩
      obtain ⟨q, hq⟩ : ∃ q, UN.length = q := ⟨_, rfl⟩
      have CF1 : Hid (∀ y, Spares nowhere v9 y → Calls Tryz.prog 20 #[.slice fa n fc] y fun e w' => ∃ a2 c2, e = .returned (.slice a2 q c2) ∧ Hid (StaysF g g8 w' a2 UN) ∧ Hid (Spares nowhere y w') ∧ Spares nowhere v9 w' ∧ w'.cell? ⟨g, 2, none⟩ = some (.slice fa n fc) ∧ w'.frozen? ⟨g, 2, none⟩ = false ∧ w'.cell? ⟨g8, 2, none⟩ = some (.slice fa8 u fc8) ∧ w'.frozen? ⟨g8, 2, none⟩ = false) := Lib.hid (fun y hy => by
        have hA := hy.heap HA9.out (fun h => h)
        have hB := hy.heap HB9.out (fun h => h)
        have h := framed_stays (p := g) (q := g8) (c := fc) HN.out (FieldsIn.quiet HFI9.out (Nat.le_refl _) hy hy.size) HFM.out.small (by have := HFM.out.len; omega) (Array.getElem?_eq_some_iff.1 hA).1 (Array.getElem?_eq_some_iff.1 hB).1
        rw [hUN, hq] at h
        refine h.mono ?_
        rintro e w' ⟨a2, c2, he, hs, hsp⟩
        have hA' := hsp.out.heap hA (fun h => h)
        have hB' := hsp.out.heap hB (fun h => h)
        exact ⟨a2, c2, he, hs, hsp, hy.trans hsp.out, (Lib.cell_of_heap hA' 2).trans rfl, Lib.frozen_of_heap hA' 2, (Lib.cell_of_heap hB' 2).trans rfl, Lib.frozen_of_heap hB' 2⟩)
      have CF2 : Hid (∀ y, Spares nowhere v9 y → Calls Tryz.prog 20 #[.slice fa8 u fc8] y fun e w' => ∃ a2 c2, e = .returned (.slice a2 q c2) ∧ Hid (StaysF g g8 w' a2 UN) ∧ Hid (Spares nowhere y w') ∧ Spares nowhere v9 w' ∧ w'.cell? ⟨g, 2, none⟩ = some (.slice fa n fc) ∧ w'.frozen? ⟨g, 2, none⟩ = false ∧ w'.cell? ⟨g8, 2, none⟩ = some (.slice fa8 u fc8) ∧ w'.frozen? ⟨g8, 2, none⟩ = false) := Lib.hid (fun y hy => by
        have hA := hy.heap HA9.out (fun h => h)
        have hB := hy.heap HB9.out (fun h => h)
        have h := framed_stays (p := g) (q := g8) (c := fc8) HU.out (FieldsIn.quiet HFI8.out (Nat.le_refl _) hy hy.size) HUS.out (by rw [HU.out]; rw [HU.out] at hUl; exact hUl) (Array.getElem?_eq_some_iff.1 hA).1 (Array.getElem?_eq_some_iff.1 hB).1
        rw [HUU.out, hUN, hq] at h
        refine h.mono ?_
        rintro e w' ⟨a2, c2, he, hs, hsp⟩
        have hA' := hsp.out.heap hA (fun h => h)
        have hB' := hsp.out.heap hB (fun h => h)
        exact ⟨a2, c2, he, hs, hsp, hy.trans hsp.out, (Lib.cell_of_heap hA' 2).trans rfl, Lib.frozen_of_heap hA' 2, (Lib.cell_of_heap hB' 2).trans rfl, Lib.frozen_of_heap hB' 2⟩)
      have HQU := Lib.hid hq
      have HUN := Lib.hid hUN
      have hdr : Spares nowhere v9 v9.drew := (Spares.refl _ _).drew
      have y0 : v9.cell? ⟨g, 2, none⟩ = some (.slice fa n fc) := (Lib.cell_of_heap HA9.out 2).trans rfl
      have y1 : v9.cell? ⟨g8, 2, none⟩ = some (.slice fa8 u fc8) := (Lib.cell_of_heap HB9.out 2).trans rfl
      have ne1 : ¬ g = g8 := by omega
      have ne2 : ¬ g8 = g := by omega
      clear hUN hq x0 x1 x2 x3 hUl
      go_region_law (first
        | (go_simp
           go_at_call 20
           (with_reducible refine Calls.mono (CF1.out _ (by assumption)) ?_)
           rintro e wn ⟨an, cn, rfl, hst, hsx, hsn, z0, z1, z2, z3⟩)
        | (go_simp
           go_at_call 20
           (with_reducible refine Calls.mono (CF2.out _ (by assumption)) ?_)
           rintro e wo ⟨ao, co, rfl, hso, hsy, hsn2, u0, u1, u2, u3⟩)
        | fail)
      all_goals
        obtain ⟨W, hW⟩ : ∃ W, (wo.setCell ⟨g, 2, none⟩ (.slice an q cn)).setCell ⟨g8, 2, none⟩ (.slice ao q co) = W := ⟨_, rfl⟩
        have hspW : Spares (fun k => k = g ∨ k = g8) wo W := by
          rw [← hW]
          exact ((Spares.refl (fun k => k = g ∨ k = g8) wo).setCell (p := ⟨g, 2, none⟩) (.inl (.inl rfl)) _).setCell (p := ⟨g8, 2, none⟩) (.inl (.inr rfl)) _
        have hAo := hsn2.heap HA9.out (fun h => h)
        have hBo := hsn2.heap HB9.out (fun h => h)
        have hAW : W.heap[g]? = some (.cells #[.string M, .string T, .slice an q cn, .slice ab k cb] 25 (0, 0)) := by
          have h1 := (set_at (i := 2) hAo (.slice an q cn)).trans rfl
          rw [← hW]
          exact ((Spares.refl (fun k => k = g8) (wo.setCell ⟨g, 2, none⟩ (.slice an q cn))).setCell (p := ⟨g8, 2, none⟩) (.inl rfl) _).heap h1 (fun h => ne1 h)
        have hBW : W.heap[g8]? = some (.cells #[.string M, .string T, .slice ao q co, .slice ab8 k cb8] 25 (0, 0)) := by
          have h1 := ((Spares.refl (fun k => k = g) wo).setCell (p := ⟨g, 2, none⟩) (.inl rfl) (.slice an q cn)).heap hBo (fun h => ne2 h)
          rw [← hW]
          exact (set_at (i := 2) h1 (.slice ao q co)).trans rfl
        have hw0 : Spares (fun k => k = g ∨ k = g8) v9 W := (hsn2.mono (fun _ h => by cases h)).trans hspW
        have HSVW : Hid (Spares nowhere w W) := Lib.hid (HSW9.out.trans' hw0 (fun k hk => .inr (by rcases hk with e | e <;> omega)))
        have hFn := hst.out W ((hsy.out.mono (fun _ h => by cases h)).trans hspW)
        have hFo := hso.out W hspW
        have hBb : BytesAt W ab body := by
          have h1 : Spares (fun k => k = g ∨ k = g8) w2 W := ((HS2V.out.trans HSV9.out).mono (fun _ h => by cases h)).trans hw0
          have hlt : ∀ z, (Value.slice ab k cb).ownBlock = some z → z < w2.heap.size := fun z hz => (World.ownsRow.lt HRB2.out z hz).2
          have h2 : Row8 w1.heap.size W (.slice ab k cb) body := h1.own HRB2.out (fun z hz e => by
            have := hlt z hz
            rw [HG.out] at this
            rcases e with e | e <;> omega)
          obtain ⟨a', c', e', hbt', _, _⟩ := h2.shape
          injection e' with e1 e2 e3
          rw [e1]; exact hbt'
        have hB8 : BytesAt W ab8 body := by
          have h1 : Spares (fun k => k = g ∨ k = g8) w8 W := (HS89.out.mono (fun _ h => by cases h)).trans hw0
          have h2 : Row8 w7.heap.size W (.slice ab8 k cb8) body := h1.own HRB8.out (fun z hz e => by
            have h3 := World.ownsRow.lt HRB8.out z hz
            have h4 := HG7.out
            rw [HG8.out] at h3
            rcases e with e | e <;> omega)
          obtain ⟨a', c', e', hbt', _, _⟩ := h2.shape
          injection e' with e1 e2 e3
          rw [e1]; exact hbt'
        have CE := helpReq_same M T UN body ao an ab8 ab co cn cb8 cb q k W HQU.out HK.out hFo hFn hB8 hBb (by rw [HQU.out]; rw [← HUN.out] at HQU; have := unframed_len fs; have := HQU.out; have := HFM.out.len; omega)
        unfold YesH at CE
        have HW := Lib.hid hW
        obtain ⟨p0, p1, p2, p3⟩ := fcells hAW
        obtain ⟨o0, o1, o2, o3⟩ := fcells hBW
        rw [HW.out]
        clear hW hspW hAo hBo hAW hBW hw0 hFn hFo hBb hB8 hst hsx hsn hso hsy hsn2 z0 z1 z2 z3 u0 u1 u2 u3 y0 y1 CF1 CF2
        have f1 : ((rl : Int) == (rl : Int)) = true := by simp
        have f2 : ((rl : Int) != (rl : Int)) = false := by unfold bne; rw [f1]; rfl
        go_wp2_with fail
        refine CE.mono ?_
        rintro e10 V10 ⟨rfl, hs10⟩
        have HSV10 : Hid (Spares nowhere w V10) := Lib.hid (HSVW.out.trans hs10)
        clear hs10 CE
        have HS1 := Lib.hid HSV10.out
        go_wp2_with fail
        refine (CP.out V10 HS1.out).mono ?_
        rintro e2 w2 h2
        cases rp with
        | error y =>
          obtain ⟨rfl, hs2⟩ := h2
          have hy := response_num HRP.out
          unfold zeroR
          have q1 : ((y : Int) == 0) = false := by rw [beq_eq_false_iff_ne]; omega
          obtain ⟨VV, hV⟩ : ∃ VV, w2.alloc (.cells #[.int .i64 0, .string ⟨#[]⟩, .slice none 0 0, .slice none 0 0] 27) = VV := ⟨_, rfl⟩
          have HSV : Hid (Spares nowhere w VV) := Lib.hid (by rw [← hV]; exact (HS1.out.trans hs2).alloc _)
          have HV := Lib.hid hV
          clear hs2 hy CP hV
          go_wp2
          go_ret
          exact ⟨rfl, by rw [HV.out]; exact HSV.out⟩
        | ok rr =>
          obtain ⟨st, t, fs, body⟩ := rr
          obtain ⟨⟨vf, vb, rfl, hf2, hb2⟩, hs2⟩ := h2
          unfold rspV
          obtain ⟨fa, fc, rfl, hfi2⟩ := rowF_shape hf2
          obtain ⟨ab, cb, rfl, hbt2, hbn2, _⟩ := hb2.shape
          obtain ⟨n, hn⟩ : ∃ n, fs.length = n := ⟨_, rfl⟩
          obtain ⟨k, hk⟩ : ∃ k, body.length = k := ⟨_, rfl⟩
          rw [hn, hk]
          obtain ⟨T, hT⟩ : ∃ T, ba t = T := ⟨_, rfl⟩
          rw [hT]
          obtain ⟨g, hg⟩ : ∃ g, w2.heap.size = g := ⟨_, rfl⟩
          obtain ⟨VV, hV⟩ : ∃ VV, w2.alloc (.cells #[.int .i64 st, .string T, .slice fa n fc, .slice ab k cb] 27) = VV := ⟨_, rfl⟩
          have hs2V : Spares nowhere w2 VV := by rw [← hV]; exact (Spares.refl _ _).alloc _
          have HSV : Hid (Spares nowhere w VV) := Lib.hid ((HS1.out.trans hs2).trans hs2V)
          have hBV : VV.heap[g]? = some (.cells #[.int .i64 st, .string T, .slice fa n fc, .slice ab k cb] 27 (0, 0)) := by rw [← hV, ← hg]; exact heap_alloc_new _ _
          have hgw : w.heap.size ≤ g := by rw [← hg]; exact (HS1.out.trans hs2).size
          rw [hk] at hb2
          have HRB2 : Hid (Row8 V10.heap.size w2 (.slice ab k cb) body) := Lib.hid hb2
          have HS2V := Lib.hid hs2V
          have HFI := Lib.hid (FieldsIn.quiet hfi2 (Nat.le_refl _) hs2V hs2V.size)
          have HBT := Lib.hid (hbt2.spares' hs2V (fun _ _ _ _ h => h))
          have HBN := Lib.hid hbn2
          have HN := Lib.hid hn
          have HK := Lib.hid hk
          have HBV := Lib.hid hBV
          have HV := Lib.hid hV
          have HG := Lib.hid hg
          have HMT := Lib.hid hT
          clear hT
          obtain ⟨x0, x1, x2, x3⟩ := fcells hBV
          clear hs2 hs2V hBV hf2 hb2 hfi2 hbt2 hbn2 hn hk hV hg CP
          by_cases h100 : n < 100
          · have q2 : (n : Int) < 100 := by omega
            obtain ⟨FM, lt, ls, l, hl, RB⟩ := response_back HRP.out HB3.out (by rw [HN.out]; exact h100)
            rw [HMT.out] at RB
            have zT : T.size ≤ 4000 := by rw [← HMT.out, ba_size]; omega
            obtain ⟨R, hR⟩ : ∃ R, rspTextF (st : Int) T fs body method = R := ⟨_, rfl⟩
            obtain ⟨U, hU⟩ : ∃ U, unframedF fs ++ l = U := ⟨_, rfl⟩
            have CR := responseBytes_any (st : Int) T method fs body fa ab fc cb n k VV (by omega) (by omega) HN.out HK.out HFI.out HBT.out HBN.out zT FM (HT.out.spares HSV.out (fun h => h))
            rw [hR] at RB CR
            rw [hU] at RB
            have hfl := fit_rsp (n := body.length) FM (by have := FM.bod; omega) (st : Int) method
            have hRl : R.length ≤ 200000 := by
              rw [← hR]
              unfold rspTextF
              rw [msgT_len]
              have := FM.bod
              have : (rspBody (st : Int) method body).length ≤ body.length := by unfold rspBody; split <;> simp
              have : (respL (stat3 (st : Int)) T.data.toList).length = T.size + 13 := by
                unfold respL digs http11
                simp only [List.length_append, List.length_cons, List.length_nil, size_list]
                omega
              omega
            have hUU : unframedF U = unframedF fs := by
              rw [← hU]
              exact unf_again fs l hl
            have hfu := response_fits RB hRl
            have hUl : U.length ≤ 1000 := by have := hfu.1; omega
            have hUs : SmallF U := hfu.2
            have HFM := Lib.hid FM
            have HRB := Lib.hid RB
            have HUU := Lib.hid hUU
            have HUS := Lib.hid hUs
            obtain ⟨rl, hrl⟩ : ∃ r, R.length = r := ⟨_, rfl⟩
            have HRL := Lib.hid hrl
            rw [hrl] at hRl
            clear RB FM hR hUU hUs hrl h100 lt hU hfl hfu hl
            go_wp2_with fail
            rw [HV.out, HG.out]
            go_wp2_with fail
            refine CR.mono ?_
            rintro e5 w5 hm5
            obtain ⟨g5, c5, rfl, hat5, hc5, _, hs5⟩ := hm5.slice
            rw [HRL.out] at hc5 ⊢
            have HAT5 := Lib.hid hat5
            have HS5 := Lib.hid hs5
            have HSW5 := Lib.hid (HSV.out.trans hs5)
            clear hm5 hat5 hs5 CR
            go_wp2_with (at_builtin; refine wpList_row_bytes rfl _ _ rfl w5.heap.size _ [] rfl (row8_nil _ _) (some ⟨g5, 0, none⟩) c5 rl R rfl HRL.out.symm HAT5.out (fun e => by cases e) (by simp; omega) (Nat.le_refl _) ?_)
            intro v6 w6 hr6 hs6
            have hr6' : Row8 w5.heap.size w6 v6 R := hr6
            have HR6 := Lib.hid hr6'
            have HS6 : Hid (Spares nowhere w5 w6) := Lib.hid (atLeast_no hs6 (Nat.le_refl _) (Spares.refl _ _))
            have HX6 := Lib.hid (HXA.out.spares' (HSW5.out.trans HS6.out) (fun _ _ _ _ h => h))
            clear hr6 hs6 hr6'
            go_wp2_with (at_builtin; refine wpList_row_bytes rfl _ _ rfl w5.heap.size v6 R rfl HR6.out aX cX nX x rfl HNX.out.symm HX6.out HNILX.out (by rw [HRL.out]; omega) HS6.out.size ?_)
            intro v7 w7 hr7 hs7
            have HS7 : Hid (Spares nowhere w5 w7) := Lib.hid (HS6.out.trans' hs7 (fun k hk => .inr hk))
            obtain ⟨a7, c7, rfl, hat7, hnil7, hcap7⟩ := hr7.shape
            obtain ⟨n7, hn7⟩ : ∃ n, (R ++ x).length = n := ⟨_, rfl⟩
            have hn7' : n7 ≤ 300000 := by rw [← hn7, List.length_append, HRL.out]; have := HX3.out; omega
            have CQ2 := response_any (R ++ x) method a7 c7 n7 w7 hn7.symm hat7 hcap7 hnil7 (by omega) (HM.out.spares (HSW5.out.trans HS7.out))
            rw [HRB.out x] at CQ2
            unfold RspPost rspV at CQ2
            simp only at CQ2
            rw [HMT.out] at CQ2
            rw [hn7]
            clear hr7 hs7 hat7 hnil7 hcap7 hn7
            go_wp2_with fail
            refine CQ2.mono ?_
            rintro e8 w8 ⟨⟨vf8, vb8, rfl, hf8, hb8⟩, hs8⟩
            obtain ⟨fa8, fc8, rfl, hfi8⟩ := rowF_shape hf8
            obtain ⟨ab8, cb8, rfl, hbt8, _, _⟩ := hb8.shape
            rw [HK.out] at hb8 ⊢
            obtain ⟨u, hu⟩ : ∃ u, U.length = u := ⟨_, rfl⟩
            rw [hu]
            obtain ⟨g8, hg8⟩ : ∃ g, w8.heap.size = g := ⟨_, rfl⟩
            have hs58 : Spares nowhere VV w8 := (HS5.out.trans HS7.out).trans hs8
            obtain ⟨v9, hv9⟩ : ∃ VV, w8.alloc (.cells #[.int .i64 st, .string T, .slice fa8 u fc8, .slice ab8 k cb8] 27) = VV := ⟨_, rfl⟩
            have hs89 : Spares nowhere w8 v9 := by rw [← hv9]; exact (Spares.refl _ _).alloc _
            have hB9 : v9.heap[g8]? = some (.cells #[.int .i64 st, .string T, .slice fa8 u fc8, .slice ab8 k cb8] 27 (0, 0)) := by rw [← hv9, ← hg8]; exact heap_alloc_new _ _
            have hA9 := (hs58.trans hs89).heap HBV.out (fun h => h)
            have HSW9 := Lib.hid (HSV.out.trans (hs58.trans hs89))
            have HSV9 := Lib.hid (hs58.trans hs89)
            have HS89 := Lib.hid hs89
            have HRB8 : Hid (Row8 w7.heap.size w8 (.slice ab8 k cb8) body) := Lib.hid hb8
            have HG7 : Hid (g < w7.heap.size) := Lib.hid (by
              have h1 := (Array.getElem?_eq_some_iff.1 ((HS5.out.trans HS7.out).heap HBV.out (fun h => h))).1
              exact h1)
            have HFI9 := Lib.hid (FieldsIn.quiet HFI.out (Nat.le_refl _) (hs58.trans hs89) (hs58.trans hs89).size)
            have HFI8 := Lib.hid (FieldsIn.quiet hfi8 (Nat.le_refl _) hs89 hs89.size)
            have hgl : g < g8 := by
              have h1 := (Array.getElem?_eq_some_iff.1 (hs58.heap HBV.out (fun h => h))).1
              omega
            have hg9 : g8 < v9.heap.size := (Array.getElem?_eq_some_iff.1 hB9).1
            have HU := Lib.hid hu
            have HV9 := Lib.hid hv9
            have HG8 := Lib.hid hg8
            have HA9 := Lib.hid hA9
            have HB9 := Lib.hid hB9
            clear hf8 hb8 hs8 hfi8 hbt8 hu hg8 hs58 hv9 hs89 hB9 hA9 CQ2
            go_upto_region 16 with (fail)
            rw [HV9.out, HG8.out]
            obtain ⟨UN, hUN⟩ : ∃ U, unframedF fs = U := ⟨_, rfl⟩
            obtain ⟨q, hq⟩ : ∃ q, UN.length = q := ⟨_, rfl⟩
            have CF1 : Hid (∀ y, Spares nowhere v9 y → Calls Tryz.prog 20 #[.slice fa n fc] y fun e w' => ∃ a2 c2, e = .returned (.slice a2 q c2) ∧ Hid (StaysF g g8 w' a2 UN) ∧ Hid (Spares nowhere y w') ∧ Spares nowhere v9 w' ∧ w'.cell? ⟨g, 2, none⟩ = some (.slice fa n fc) ∧ w'.frozen? ⟨g, 2, none⟩ = false ∧ w'.cell? ⟨g8, 2, none⟩ = some (.slice fa8 u fc8) ∧ w'.frozen? ⟨g8, 2, none⟩ = false) := Lib.hid (fun y hy => by
              have hA := hy.heap HA9.out (fun h => h)
              have hB := hy.heap HB9.out (fun h => h)
              have h := framed_stays (p := g) (q := g8) (c := fc) HN.out (FieldsIn.quiet HFI9.out (Nat.le_refl _) hy hy.size) HFM.out.small (by have := HFM.out.len; omega) (Array.getElem?_eq_some_iff.1 hA).1 (Array.getElem?_eq_some_iff.1 hB).1
              rw [hUN, hq] at h
              refine h.mono ?_
              rintro e w' ⟨a2, c2, he, hs, hsp⟩
              have hA' := hsp.out.heap hA (fun h => h)
              have hB' := hsp.out.heap hB (fun h => h)
              exact ⟨a2, c2, he, hs, hsp, hy.trans hsp.out, (Lib.cell_of_heap hA' 2).trans rfl, Lib.frozen_of_heap hA' 2, (Lib.cell_of_heap hB' 2).trans rfl, Lib.frozen_of_heap hB' 2⟩)
            have CF2 : Hid (∀ y, Spares nowhere v9 y → Calls Tryz.prog 20 #[.slice fa8 u fc8] y fun e w' => ∃ a2 c2, e = .returned (.slice a2 q c2) ∧ Hid (StaysF g g8 w' a2 UN) ∧ Hid (Spares nowhere y w') ∧ Spares nowhere v9 w' ∧ w'.cell? ⟨g, 2, none⟩ = some (.slice fa n fc) ∧ w'.frozen? ⟨g, 2, none⟩ = false ∧ w'.cell? ⟨g8, 2, none⟩ = some (.slice fa8 u fc8) ∧ w'.frozen? ⟨g8, 2, none⟩ = false) := Lib.hid (fun y hy => by
              have hA := hy.heap HA9.out (fun h => h)
              have hB := hy.heap HB9.out (fun h => h)
              have h := framed_stays (p := g) (q := g8) (c := fc8) HU.out (FieldsIn.quiet HFI8.out (Nat.le_refl _) hy hy.size) HUS.out (by rw [HU.out]; rw [HU.out] at hUl; exact hUl) (Array.getElem?_eq_some_iff.1 hA).1 (Array.getElem?_eq_some_iff.1 hB).1
              rw [HUU.out, hUN, hq] at h
              refine h.mono ?_
              rintro e w' ⟨a2, c2, he, hs, hsp⟩
              have hA' := hsp.out.heap hA (fun h => h)
              have hB' := hsp.out.heap hB (fun h => h)
              exact ⟨a2, c2, he, hs, hsp, hy.trans hsp.out, (Lib.cell_of_heap hA' 2).trans rfl, Lib.frozen_of_heap hA' 2, (Lib.cell_of_heap hB' 2).trans rfl, Lib.frozen_of_heap hB' 2⟩)
            have HQU := Lib.hid hq
            have HUN := Lib.hid hUN
            have hdr : Spares nowhere v9 v9.drew := (Spares.refl _ _).drew
            have y0 : v9.cell? ⟨g, 2, none⟩ = some (.slice fa n fc) := (Lib.cell_of_heap HA9.out 2).trans rfl
            have y1 : v9.cell? ⟨g8, 2, none⟩ = some (.slice fa8 u fc8) := (Lib.cell_of_heap HB9.out 2).trans rfl
            have ne1 : ¬ g = g8 := by omega
            have ne2 : ¬ g8 = g := by omega
            clear hUN hq x0 x1 x2 x3 hUl
            go_region_law (first
              | (go_simp
                 go_at_call 20
                 (with_reducible refine Calls.mono (CF1.out _ (by assumption)) ?_)
                 rintro e wn ⟨an, cn, rfl, hst, hsx, hsn, z0, z1, z2, z3⟩)
              | (go_simp
                 go_at_call 20
                 (with_reducible refine Calls.mono (CF2.out _ (by assumption)) ?_)
                 rintro e wo ⟨ao, co, rfl, hso, hsy, hsn2, u0, u1, u2, u3⟩)
              | fail)
            all_goals
              obtain ⟨W, hW⟩ : ∃ W, (wo.setCell ⟨g, 2, none⟩ (.slice an q cn)).setCell ⟨g8, 2, none⟩ (.slice ao q co) = W := ⟨_, rfl⟩
              have hspW : Spares (fun k => k = g ∨ k = g8) wo W := by
                rw [← hW]
                exact ((Spares.refl (fun k => k = g ∨ k = g8) wo).setCell (p := ⟨g, 2, none⟩) (.inl (.inl rfl)) _).setCell (p := ⟨g8, 2, none⟩) (.inl (.inr rfl)) _
              have hAo := hsn2.heap HA9.out (fun h => h)
              have hBo := hsn2.heap HB9.out (fun h => h)
              have hAW : W.heap[g]? = some (.cells #[.int .i64 st, .string T, .slice an q cn, .slice ab k cb] 27 (0, 0)) := by
                have h1 := (set_at (i := 2) hAo (.slice an q cn)).trans rfl
                rw [← hW]
                exact ((Spares.refl (fun k => k = g8) (wo.setCell ⟨g, 2, none⟩ (.slice an q cn))).setCell (p := ⟨g8, 2, none⟩) (.inl rfl) _).heap h1 (fun h => ne1 h)
              have hBW : W.heap[g8]? = some (.cells #[.int .i64 st, .string T, .slice ao q co, .slice ab8 k cb8] 27 (0, 0)) := by
                have h1 := ((Spares.refl (fun k => k = g) wo).setCell (p := ⟨g, 2, none⟩) (.inl rfl) (.slice an q cn)).heap hBo (fun h => ne2 h)
                rw [← hW]
                exact (set_at (i := 2) h1 (.slice ao q co)).trans rfl
              have hw0 : Spares (fun k => k = g ∨ k = g8) v9 W := (hsn2.mono (fun _ h => by cases h)).trans hspW
              have HSVW : Hid (Spares nowhere w W) := Lib.hid (HSW9.out.trans' hw0 (fun k hk => .inr (by rcases hk with e | e <;> omega)))
              have hFn := hst.out W ((hsy.out.mono (fun _ h => by cases h)).trans hspW)
              have hFo := hso.out W hspW
              have hBb : BytesAt W ab body := by
                have h1 : Spares (fun k => k = g ∨ k = g8) w2 W := ((HS2V.out.trans HSV9.out).mono (fun _ h => by cases h)).trans hw0
                have hlt : ∀ z, (Value.slice ab k cb).ownBlock = some z → z < w2.heap.size := fun z hz => (World.ownsRow.lt HRB2.out z hz).2
                have h2 : Row8 V10.heap.size W (.slice ab k cb) body := h1.own HRB2.out (fun z hz e => by
                  have := hlt z hz
                  rw [HG.out] at this
                  rcases e with e | e <;> omega)
                obtain ⟨a', c', e', hbt', _, _⟩ := h2.shape
                injection e' with e1 e2 e3
                rw [e1]; exact hbt'
              have hB8 : BytesAt W ab8 body := by
                have h1 : Spares (fun k => k = g ∨ k = g8) w8 W := (HS89.out.mono (fun _ h => by cases h)).trans hw0
                have h2 : Row8 w7.heap.size W (.slice ab8 k cb8) body := h1.own HRB8.out (fun z hz e => by
                  have h3 := World.ownsRow.lt HRB8.out z hz
                  have h4 := HG7.out
                  rw [HG8.out] at h3
                  rcases e with e | e <;> omega)
                obtain ⟨a', c', e', hbt', _, _⟩ := h2.shape
                injection e' with e1 e2 e3
                rw [e1]; exact hbt'
              have CE := helpRsp_same st T UN body ao an ab8 ab co cn cb8 cb q k W HQU.out HK.out hFo hFn hB8 hBb (by rw [HQU.out]; rw [← HUN.out] at HQU; have := unframed_len fs; have := HQU.out; have := HFM.out.len; omega)
              unfold YesH at CE
              have HW := Lib.hid hW
              obtain ⟨p0, p1, p2, p3⟩ := fcells hAW
              obtain ⟨o0, o1, o2, o3⟩ := fcells hBW
              rw [HW.out]
              clear hW hspW hAo hBo hAW hBW hw0 hFn hFo hBb hB8 hst hsx hsn hso hsy hsn2 z0 z1 z2 z3 u0 u1 u2 u3 y0 y1 CF1 CF2
              skip
              go_wp2_with fail
              refine CE.mono ?_
              rintro e10 V10 ⟨rfl, hs10⟩
              have HSV10 : Hid (Spares nowhere w V10) := Lib.hid (HSVW.out.trans hs10)
              clear hs10 CE
              go_wp2
              go_ret
              exact ⟨rfl, HSV10.out⟩
          · have q2 : ¬ (n : Int) < 100 := by omega
            go_wp2
            go_ret
            exact ⟨rfl, by rw [HV.out]; exact HSV.out⟩
    · have q2 : ¬ (n : Int) < 100 := by omega
      have HS1 := Lib.hid HSV.out
      go_wp2_with fail
      rw [HV.out]
      refine (CP.out V HS1.out).mono ?_
      rintro e2 w2 h2
      cases rp with
      | error y =>
        obtain ⟨rfl, hs2⟩ := h2
        have hy := response_num HRP.out
        unfold zeroR
        have q1 : ((y : Int) == 0) = false := by rw [beq_eq_false_iff_ne]; omega
        obtain ⟨VV, hV⟩ : ∃ VV, w2.alloc (.cells #[.int .i64 0, .string ⟨#[]⟩, .slice none 0 0, .slice none 0 0] 27) = VV := ⟨_, rfl⟩
        have HSV : Hid (Spares nowhere w VV) := Lib.hid (by rw [← hV]; exact (HS1.out.trans hs2).alloc _)
        have HV := Lib.hid hV
        clear hs2 hy CP hV
        go_wp2
        go_ret
        exact ⟨rfl, by rw [HV.out]; exact HSV.out⟩
      | ok rr =>
        obtain ⟨st, t, fs, body⟩ := rr
        obtain ⟨⟨vf, vb, rfl, hf2, hb2⟩, hs2⟩ := h2
        unfold rspV
        obtain ⟨fa, fc, rfl, hfi2⟩ := rowF_shape hf2
        obtain ⟨ab, cb, rfl, hbt2, hbn2, _⟩ := hb2.shape
        obtain ⟨n, hn⟩ : ∃ n, fs.length = n := ⟨_, rfl⟩
        obtain ⟨k, hk⟩ : ∃ k, body.length = k := ⟨_, rfl⟩
        rw [hn, hk]
        obtain ⟨T, hT⟩ : ∃ T, ba t = T := ⟨_, rfl⟩
        rw [hT]
        obtain ⟨g, hg⟩ : ∃ g, w2.heap.size = g := ⟨_, rfl⟩
        obtain ⟨VV, hV⟩ : ∃ VV, w2.alloc (.cells #[.int .i64 st, .string T, .slice fa n fc, .slice ab k cb] 27) = VV := ⟨_, rfl⟩
        have hs2V : Spares nowhere w2 VV := by rw [← hV]; exact (Spares.refl _ _).alloc _
        have HSV : Hid (Spares nowhere w VV) := Lib.hid ((HS1.out.trans hs2).trans hs2V)
        have hBV : VV.heap[g]? = some (.cells #[.int .i64 st, .string T, .slice fa n fc, .slice ab k cb] 27 (0, 0)) := by rw [← hV, ← hg]; exact heap_alloc_new _ _
        have hgw : w.heap.size ≤ g := by rw [← hg]; exact (HS1.out.trans hs2).size
        rw [hk] at hb2
        have HRB2 : Hid (Row8 V.heap.size w2 (.slice ab k cb) body) := Lib.hid hb2
        have HS2V := Lib.hid hs2V
        have HFI := Lib.hid (FieldsIn.quiet hfi2 (Nat.le_refl _) hs2V hs2V.size)
        have HBT := Lib.hid (hbt2.spares' hs2V (fun _ _ _ _ h => h))
        have HBN := Lib.hid hbn2
        have HN := Lib.hid hn
        have HK := Lib.hid hk
        have HBV := Lib.hid hBV
        have HV := Lib.hid hV
        have HG := Lib.hid hg
        have HMT := Lib.hid hT
        clear hT
        obtain ⟨x0, x1, x2, x3⟩ := fcells hBV
        clear hs2 hs2V hBV hf2 hb2 hfi2 hbt2 hbn2 hn hk hV hg CP
        by_cases h100 : n < 100
        · have q2 : (n : Int) < 100 := by omega
          obtain ⟨FM, lt, ls, l, hl, RB⟩ := response_back HRP.out HB3.out (by rw [HN.out]; exact h100)
          rw [HMT.out] at RB
          have zT : T.size ≤ 4000 := by rw [← HMT.out, ba_size]; omega
          obtain ⟨R, hR⟩ : ∃ R, rspTextF (st : Int) T fs body method = R := ⟨_, rfl⟩
          obtain ⟨U, hU⟩ : ∃ U, unframedF fs ++ l = U := ⟨_, rfl⟩
          have CR := responseBytes_any (st : Int) T method fs body fa ab fc cb n k VV (by omega) (by omega) HN.out HK.out HFI.out HBT.out HBN.out zT FM (HT.out.spares HSV.out (fun h => h))
          rw [hR] at RB CR
          rw [hU] at RB
          have hfl := fit_rsp (n := body.length) FM (by have := FM.bod; omega) (st : Int) method
          have hRl : R.length ≤ 200000 := by
            rw [← hR]
            unfold rspTextF
            rw [msgT_len]
            have := FM.bod
            have : (rspBody (st : Int) method body).length ≤ body.length := by unfold rspBody; split <;> simp
            have : (respL (stat3 (st : Int)) T.data.toList).length = T.size + 13 := by
              unfold respL digs http11
              simp only [List.length_append, List.length_cons, List.length_nil, size_list]
              omega
            omega
          have hUU : unframedF U = unframedF fs := by
            rw [← hU]
            exact unf_again fs l hl
          have hfu := response_fits RB hRl
          have hUl : U.length ≤ 1000 := by have := hfu.1; omega
          have hUs : SmallF U := hfu.2
          have HFM := Lib.hid FM
          have HRB := Lib.hid RB
          have HUU := Lib.hid hUU
          have HUS := Lib.hid hUs
          obtain ⟨rl, hrl⟩ : ∃ r, R.length = r := ⟨_, rfl⟩
          have HRL := Lib.hid hrl
          rw [hrl] at hRl
          clear RB FM hR hUU hUs hrl h100 lt hU hfl hfu hl
          go_wp2_with fail
          rw [HV.out, HG.out]
          go_wp2_with fail
          refine CR.mono ?_
          rintro e5 w5 hm5
          obtain ⟨g5, c5, rfl, hat5, hc5, _, hs5⟩ := hm5.slice
          rw [HRL.out] at hc5 ⊢
          have HAT5 := Lib.hid hat5
          have HS5 := Lib.hid hs5
          have HSW5 := Lib.hid (HSV.out.trans hs5)
          clear hm5 hat5 hs5 CR
          go_wp2_with (at_builtin; refine wpList_row_bytes rfl _ _ rfl w5.heap.size _ [] rfl (row8_nil _ _) (some ⟨g5, 0, none⟩) c5 rl R rfl HRL.out.symm HAT5.out (fun e => by cases e) (by simp; omega) (Nat.le_refl _) ?_)
          intro v6 w6 hr6 hs6
          have hr6' : Row8 w5.heap.size w6 v6 R := hr6
          have HR6 := Lib.hid hr6'
          have HS6 : Hid (Spares nowhere w5 w6) := Lib.hid (atLeast_no hs6 (Nat.le_refl _) (Spares.refl _ _))
          have HX6 := Lib.hid (HXA.out.spares' (HSW5.out.trans HS6.out) (fun _ _ _ _ h => h))
          clear hr6 hs6 hr6'
          go_wp2_with (at_builtin; refine wpList_row_bytes rfl _ _ rfl w5.heap.size v6 R rfl HR6.out aX cX nX x rfl HNX.out.symm HX6.out HNILX.out (by rw [HRL.out]; omega) HS6.out.size ?_)
          intro v7 w7 hr7 hs7
          have HS7 : Hid (Spares nowhere w5 w7) := Lib.hid (HS6.out.trans' hs7 (fun k hk => .inr hk))
          obtain ⟨a7, c7, rfl, hat7, hnil7, hcap7⟩ := hr7.shape
          obtain ⟨n7, hn7⟩ : ∃ n, (R ++ x).length = n := ⟨_, rfl⟩
          have hn7' : n7 ≤ 300000 := by rw [← hn7, List.length_append, HRL.out]; have := HX3.out; omega
          have CQ2 := response_any (R ++ x) method a7 c7 n7 w7 hn7.symm hat7 hcap7 hnil7 (by omega) (HM.out.spares (HSW5.out.trans HS7.out))
          rw [HRB.out x] at CQ2
          unfold RspPost rspV at CQ2
          simp only at CQ2
          rw [HMT.out] at CQ2
          rw [hn7]
          clear hr7 hs7 hat7 hnil7 hcap7 hn7
          go_wp2_with fail
          refine CQ2.mono ?_
          rintro e8 w8 ⟨⟨vf8, vb8, rfl, hf8, hb8⟩, hs8⟩
          obtain ⟨fa8, fc8, rfl, hfi8⟩ := rowF_shape hf8
          obtain ⟨ab8, cb8, rfl, hbt8, _, _⟩ := hb8.shape
          rw [HK.out] at hb8 ⊢
          obtain ⟨u, hu⟩ : ∃ u, U.length = u := ⟨_, rfl⟩
          rw [hu]
          obtain ⟨g8, hg8⟩ : ∃ g, w8.heap.size = g := ⟨_, rfl⟩
          have hs58 : Spares nowhere VV w8 := (HS5.out.trans HS7.out).trans hs8
          obtain ⟨v9, hv9⟩ : ∃ VV, w8.alloc (.cells #[.int .i64 st, .string T, .slice fa8 u fc8, .slice ab8 k cb8] 27) = VV := ⟨_, rfl⟩
          have hs89 : Spares nowhere w8 v9 := by rw [← hv9]; exact (Spares.refl _ _).alloc _
          have hB9 : v9.heap[g8]? = some (.cells #[.int .i64 st, .string T, .slice fa8 u fc8, .slice ab8 k cb8] 27 (0, 0)) := by rw [← hv9, ← hg8]; exact heap_alloc_new _ _
          have hA9 := (hs58.trans hs89).heap HBV.out (fun h => h)
          have HSW9 := Lib.hid (HSV.out.trans (hs58.trans hs89))
          have HSV9 := Lib.hid (hs58.trans hs89)
          have HS89 := Lib.hid hs89
          have HRB8 : Hid (Row8 w7.heap.size w8 (.slice ab8 k cb8) body) := Lib.hid hb8
          have HG7 : Hid (g < w7.heap.size) := Lib.hid (by
            have h1 := (Array.getElem?_eq_some_iff.1 ((HS5.out.trans HS7.out).heap HBV.out (fun h => h))).1
            exact h1)
          have HFI9 := Lib.hid (FieldsIn.quiet HFI.out (Nat.le_refl _) (hs58.trans hs89) (hs58.trans hs89).size)
          have HFI8 := Lib.hid (FieldsIn.quiet hfi8 (Nat.le_refl _) hs89 hs89.size)
          have hgl : g < g8 := by
            have h1 := (Array.getElem?_eq_some_iff.1 (hs58.heap HBV.out (fun h => h))).1
            omega
          have hg9 : g8 < v9.heap.size := (Array.getElem?_eq_some_iff.1 hB9).1
          have HU := Lib.hid hu
          have HV9 := Lib.hid hv9
          have HG8 := Lib.hid hg8
          have HA9 := Lib.hid hA9
          have HB9 := Lib.hid hB9
          clear hf8 hb8 hs8 hfi8 hbt8 hu hg8 hs58 hv9 hs89 hB9 hA9 CQ2
          go_upto_region 16 with (fail)
          rw [HV9.out, HG8.out]
          obtain ⟨UN, hUN⟩ : ∃ U, unframedF fs = U := ⟨_, rfl⟩
          obtain ⟨q, hq⟩ : ∃ q, UN.length = q := ⟨_, rfl⟩
          have CF1 : Hid (∀ y, Spares nowhere v9 y → Calls Tryz.prog 20 #[.slice fa n fc] y fun e w' => ∃ a2 c2, e = .returned (.slice a2 q c2) ∧ Hid (StaysF g g8 w' a2 UN) ∧ Hid (Spares nowhere y w') ∧ Spares nowhere v9 w' ∧ w'.cell? ⟨g, 2, none⟩ = some (.slice fa n fc) ∧ w'.frozen? ⟨g, 2, none⟩ = false ∧ w'.cell? ⟨g8, 2, none⟩ = some (.slice fa8 u fc8) ∧ w'.frozen? ⟨g8, 2, none⟩ = false) := Lib.hid (fun y hy => by
            have hA := hy.heap HA9.out (fun h => h)
            have hB := hy.heap HB9.out (fun h => h)
            have h := framed_stays (p := g) (q := g8) (c := fc) HN.out (FieldsIn.quiet HFI9.out (Nat.le_refl _) hy hy.size) HFM.out.small (by have := HFM.out.len; omega) (Array.getElem?_eq_some_iff.1 hA).1 (Array.getElem?_eq_some_iff.1 hB).1
            rw [hUN, hq] at h
            refine h.mono ?_
            rintro e w' ⟨a2, c2, he, hs, hsp⟩
            have hA' := hsp.out.heap hA (fun h => h)
            have hB' := hsp.out.heap hB (fun h => h)
            exact ⟨a2, c2, he, hs, hsp, hy.trans hsp.out, (Lib.cell_of_heap hA' 2).trans rfl, Lib.frozen_of_heap hA' 2, (Lib.cell_of_heap hB' 2).trans rfl, Lib.frozen_of_heap hB' 2⟩)
          have CF2 : Hid (∀ y, Spares nowhere v9 y → Calls Tryz.prog 20 #[.slice fa8 u fc8] y fun e w' => ∃ a2 c2, e = .returned (.slice a2 q c2) ∧ Hid (StaysF g g8 w' a2 UN) ∧ Hid (Spares nowhere y w') ∧ Spares nowhere v9 w' ∧ w'.cell? ⟨g, 2, none⟩ = some (.slice fa n fc) ∧ w'.frozen? ⟨g, 2, none⟩ = false ∧ w'.cell? ⟨g8, 2, none⟩ = some (.slice fa8 u fc8) ∧ w'.frozen? ⟨g8, 2, none⟩ = false) := Lib.hid (fun y hy => by
            have hA := hy.heap HA9.out (fun h => h)
            have hB := hy.heap HB9.out (fun h => h)
            have h := framed_stays (p := g) (q := g8) (c := fc8) HU.out (FieldsIn.quiet HFI8.out (Nat.le_refl _) hy hy.size) HUS.out (by rw [HU.out]; rw [HU.out] at hUl; exact hUl) (Array.getElem?_eq_some_iff.1 hA).1 (Array.getElem?_eq_some_iff.1 hB).1
            rw [HUU.out, hUN, hq] at h
            refine h.mono ?_
            rintro e w' ⟨a2, c2, he, hs, hsp⟩
            have hA' := hsp.out.heap hA (fun h => h)
            have hB' := hsp.out.heap hB (fun h => h)
            exact ⟨a2, c2, he, hs, hsp, hy.trans hsp.out, (Lib.cell_of_heap hA' 2).trans rfl, Lib.frozen_of_heap hA' 2, (Lib.cell_of_heap hB' 2).trans rfl, Lib.frozen_of_heap hB' 2⟩)
          have HQU := Lib.hid hq
          have HUN := Lib.hid hUN
          have hdr : Spares nowhere v9 v9.drew := (Spares.refl _ _).drew
          have y0 : v9.cell? ⟨g, 2, none⟩ = some (.slice fa n fc) := (Lib.cell_of_heap HA9.out 2).trans rfl
          have y1 : v9.cell? ⟨g8, 2, none⟩ = some (.slice fa8 u fc8) := (Lib.cell_of_heap HB9.out 2).trans rfl
          have ne1 : ¬ g = g8 := by omega
          have ne2 : ¬ g8 = g := by omega
          clear hUN hq x0 x1 x2 x3 hUl
          go_region_law (first
            | (go_simp
               go_at_call 20
               (with_reducible refine Calls.mono (CF1.out _ (by assumption)) ?_)
               rintro e wn ⟨an, cn, rfl, hst, hsx, hsn, z0, z1, z2, z3⟩)
            | (go_simp
               go_at_call 20
               (with_reducible refine Calls.mono (CF2.out _ (by assumption)) ?_)
               rintro e wo ⟨ao, co, rfl, hso, hsy, hsn2, u0, u1, u2, u3⟩)
            | fail)
          all_goals
            obtain ⟨W, hW⟩ : ∃ W, (wo.setCell ⟨g, 2, none⟩ (.slice an q cn)).setCell ⟨g8, 2, none⟩ (.slice ao q co) = W := ⟨_, rfl⟩
            have hspW : Spares (fun k => k = g ∨ k = g8) wo W := by
              rw [← hW]
              exact ((Spares.refl (fun k => k = g ∨ k = g8) wo).setCell (p := ⟨g, 2, none⟩) (.inl (.inl rfl)) _).setCell (p := ⟨g8, 2, none⟩) (.inl (.inr rfl)) _
            have hAo := hsn2.heap HA9.out (fun h => h)
            have hBo := hsn2.heap HB9.out (fun h => h)
            have hAW : W.heap[g]? = some (.cells #[.int .i64 st, .string T, .slice an q cn, .slice ab k cb] 27 (0, 0)) := by
              have h1 := (set_at (i := 2) hAo (.slice an q cn)).trans rfl
              rw [← hW]
              exact ((Spares.refl (fun k => k = g8) (wo.setCell ⟨g, 2, none⟩ (.slice an q cn))).setCell (p := ⟨g8, 2, none⟩) (.inl rfl) _).heap h1 (fun h => ne1 h)
            have hBW : W.heap[g8]? = some (.cells #[.int .i64 st, .string T, .slice ao q co, .slice ab8 k cb8] 27 (0, 0)) := by
              have h1 := ((Spares.refl (fun k => k = g) wo).setCell (p := ⟨g, 2, none⟩) (.inl rfl) (.slice an q cn)).heap hBo (fun h => ne2 h)
              rw [← hW]
              exact (set_at (i := 2) h1 (.slice ao q co)).trans rfl
            have hw0 : Spares (fun k => k = g ∨ k = g8) v9 W := (hsn2.mono (fun _ h => by cases h)).trans hspW
            have HSVW : Hid (Spares nowhere w W) := Lib.hid (HSW9.out.trans' hw0 (fun k hk => .inr (by rcases hk with e | e <;> omega)))
            have hFn := hst.out W ((hsy.out.mono (fun _ h => by cases h)).trans hspW)
            have hFo := hso.out W hspW
            have hBb : BytesAt W ab body := by
              have h1 : Spares (fun k => k = g ∨ k = g8) w2 W := ((HS2V.out.trans HSV9.out).mono (fun _ h => by cases h)).trans hw0
              have hlt : ∀ z, (Value.slice ab k cb).ownBlock = some z → z < w2.heap.size := fun z hz => (World.ownsRow.lt HRB2.out z hz).2
              have h2 : Row8 V.heap.size W (.slice ab k cb) body := h1.own HRB2.out (fun z hz e => by
                have := hlt z hz
                rw [HG.out] at this
                rcases e with e | e <;> omega)
              obtain ⟨a', c', e', hbt', _, _⟩ := h2.shape
              injection e' with e1 e2 e3
              rw [e1]; exact hbt'
            have hB8 : BytesAt W ab8 body := by
              have h1 : Spares (fun k => k = g ∨ k = g8) w8 W := (HS89.out.mono (fun _ h => by cases h)).trans hw0
              have h2 : Row8 w7.heap.size W (.slice ab8 k cb8) body := h1.own HRB8.out (fun z hz e => by
                have h3 := World.ownsRow.lt HRB8.out z hz
                have h4 := HG7.out
                rw [HG8.out] at h3
                rcases e with e | e <;> omega)
              obtain ⟨a', c', e', hbt', _, _⟩ := h2.shape
              injection e' with e1 e2 e3
              rw [e1]; exact hbt'
            have CE := helpRsp_same st T UN body ao an ab8 ab co cn cb8 cb q k W HQU.out HK.out hFo hFn hB8 hBb (by rw [HQU.out]; rw [← HUN.out] at HQU; have := unframed_len fs; have := HQU.out; have := HFM.out.len; omega)
            unfold YesH at CE
            have HW := Lib.hid hW
            obtain ⟨p0, p1, p2, p3⟩ := fcells hAW
            obtain ⟨o0, o1, o2, o3⟩ := fcells hBW
            rw [HW.out]
            clear hW hspW hAo hBo hAW hBW hw0 hFn hFo hBb hB8 hst hsx hsn hso hsy hsn2 z0 z1 z2 z3 u0 u1 u2 u3 y0 y1 CF1 CF2
            skip
            go_wp2_with fail
            refine CE.mono ?_
            rintro e10 V10 ⟨rfl, hs10⟩
            have HSV10 : Hid (Spares nowhere w V10) := Lib.hid (HSVW.out.trans hs10)
            clear hs10 CE
            go_wp2
            go_ret
            exact ⟨rfl, HSV10.out⟩
        · have q2 : ¬ (n : Int) < 100 := by omega
          go_wp2
          go_ret
          exact ⟨rfl, by rw [HV.out]; exact HSV.out⟩
end Go.Proofs.YtjpmofnnjdhamaaGreatDoor
namespace Go.Proofs.YtjpmofnnjdhamaaGreatDoor
open Go.ChangeShapes Go.WideShapes Go.ChangeAt Go.RowKit Go.Deep
open HeadMath NormMath NormS HeadS ChunkMath HttpMath

section
variable {H : Type} {W : World} {enc : TypeId × Value → H}
theorem fieldsAt_inH {w : World} {a : Option Addr} {fs : Fs} (h : FieldsAt w a fs) : FieldsIn w.heap.size w a fs := by
  intro j hj
  obtain ⟨b, off, h1, h2, h3⟩ := h j hj
  exact ⟨b, off, h1, cellOf_lt h2, h2, h3⟩
theorem bytes_of_trod {v : Value} {y : DataW H × List MemPlace} {fuel : Nat} (hf : DataW.trod enc Tryz.prog W 0 (fun _ => true) true fuel 23 [v] = some y) :
    ∃ (a : Option Addr) (n c : Nat) (l : Bs), v = .slice a n c ∧ l.length = n ∧ BytesAt W a l ∧ (a = none → c = 0) ∧ n ≤ maxLen := by
  obtain ⟨d, p⟩ := y
  have key : ∃ a n c, v = .slice a n c := by
    rcases Deep.open_slice Tryz.underlying23 hf with ⟨hcs, _⟩ | ⟨x, len', cap', m, n, D, Pl, hcs, _, h1, h2, _⟩
    · injection hcs with hcs; exact ⟨_, _, _, hcs⟩
    · injection hcs with hcs; exact ⟨_, _, _, hcs⟩
  obtain ⟨a, n, c, rfl⟩ := key
  obtain ⟨l, h1, h2, h3, h4, h5⟩ := bytes_open (enc := enc) (W := W) (d := d) (p := p) (fuel := fuel) (a := a) (len := n) (cap := c) rfl hf
  exact ⟨a, n, c, l, rfl, h1, h2, h3, h4⟩
structure ReqIn (W : World) (v : Value) (m t : ByteArray) (fs : Fs) (body : Bs) (fa ab : Option Addr) (fc cb n k : Nat) : Prop where
  hv : v = .agg #[.string m, .string t, .slice fa n fc, .slice ab k cb]
  hn : fs.length = n
  hk : body.length = k
  hin : FieldsIn W.heap.size W fa fs
  hat : BytesAt W ab body
  hnil : ab = none → cb = 0
  hl : fs.length < 9223372036854775808
  hsz : ∀ j (h : j < fs.length), (fs[j]).1.size ≤ 9223372036854775807 ∧ (fs[j]).2.size ≤ 9223372036854775807
  hbn : k < 9223372036854775808
  hm : m.size ≤ 9223372036854775807
  ht : t.size ≤ 9223372036854775807
set_option maxRecDepth 100000 in
theorem request_openH {v : Value} {d : DataW H} {p : List MemPlace} {r : Reach} {b0 : Nat} (hv : Value.okWide Tryz.prog W r b0 25 v) (h : DataW.Trod enc Tryz.prog W 0 (fun _ => true) true 25 v d p) :
    ∃ (m t : ByteArray) (fs : Fs) (body : Bs) (fa ab : Option Addr) (fc cb n k : Nat), ReqIn W v m t fs body fa ab fc cb n k := by
  obtain ⟨v0, v1, v2, v3, y0, y1, y2, y3, n, rfl, _, _, t0, t1, t2, t3⟩ := Joins.open_agg4 Tryz.underlying25 (by kernel_rfl) (by kernel_rfl) hv h
  obtain ⟨z0, e0, _, w0⟩ := DataW.trod_string Tryz.underlying9 t0
  obtain ⟨z1, e1, _, w1⟩ := DataW.trod_string Tryz.underlying9 t1
  obtain ⟨fs, fa, fc, rfl, hat, hl, _, _, hsz⟩ := fields_of_trod t2
  obtain ⟨ab, k, cb, body, rfl, hb1, hb2, hb3, hb4⟩ := bytes_of_trod t3
  injection e0 with e0; injection e1 with e1
  subst e0; subst e1
  have hmax : maxLen = 9223372036854775807 := rfl
  rw [hmax] at hl hb4
  exact ⟨z0, z1, fs, body, fa, ab, fc, cb, _, k, rfl, rfl, hb1, fieldsAt_inH hat, hb2, hb3, by omega, hsz, by omega, w0, w1⟩
structure RspIn (W : World) (v : Value) (st : Int) (r : ByteArray) (fs : Fs) (body : Bs) (fa ab : Option Addr) (fc cb n k : Nat) : Prop where
  hv : v = .agg #[.int .i64 st, .string r, .slice fa n fc, .slice ab k cb]
  hn : fs.length = n
  hk : body.length = k
  hin : FieldsIn W.heap.size W fa fs
  hat : BytesAt W ab body
  hnil : ab = none → cb = 0
  hl : fs.length < 9223372036854775808
  hsz : ∀ j (h : j < fs.length), (fs[j]).1.size ≤ 9223372036854775807 ∧ (fs[j]).2.size ≤ 9223372036854775807
  hbn : k < 9223372036854775808
  hr : r.size ≤ 9223372036854775807
  hst : -9223372036854775808 ≤ st ∧ st ≤ 9223372036854775807
set_option maxRecDepth 100000 in
theorem response_openH {v : Value} {d : DataW H} {p : List MemPlace} {r : Reach} {b0 : Nat} (hv : Value.okWide Tryz.prog W r b0 27 v) (h : DataW.Trod enc Tryz.prog W 0 (fun _ => true) true 27 v d p) :
    ∃ (st : Int) (rs : ByteArray) (fs : Fs) (body : Bs) (fa ab : Option Addr) (fc cb n k : Nat), RspIn W v st rs fs body fa ab fc cb n k := by
  obtain ⟨v0, v1, v2, v3, y0, y1, y2, y3, n, rfl, _, _, t0, t1, t2, t3⟩ := Joins.open_agg4 Tryz.underlying27 (by kernel_rfl) (by kernel_rfl) hv h
  obtain ⟨z0, e0, _, w0⟩ := DataW.trod_int Tryz.underlying3 t0
  obtain ⟨z1, e1, _, w1⟩ := DataW.trod_string Tryz.underlying9 t1
  obtain ⟨fs, fa, fc, rfl, hat, hl, _, _, hsz⟩ := fields_of_trod t2
  obtain ⟨ab, k, cb, body, rfl, hb1, hb2, hb3, hb4⟩ := bytes_of_trod t3
  injection e0 with e0; injection e1 with e1
  subst e0; subst e1
  have hmax : maxLen = 9223372036854775807 := rfl
  rw [hmax] at hl hb4
  exact ⟨z0, z1, fs, body, fa, ab, fc, cb, _, k, rfl, rfl, hb1, fieldsAt_inH hat, hb2, hb3, by omega, hsz, by omega, w1, i64_wide w0⟩
end
theorem pow10_data : (Rows.laid_internal_strconv_uint64pow10 : DataW Unit) = Lib.tabData .u64 Lib.pow10Tab := by kernel_rfl
theorem tabH_of_laid {W : World} {laid : List (String × DataW Unit)} (h : laidMet Tryz.prog laid W) (hm : ("internal/strconv.uint64pow10", (Rows.laid_internal_strconv_uint64pow10 : DataW Unit)) ∈ laid) : TabH W := by
  obtain ⟨ps, hl, _⟩ := h
  obtain ⟨g, t, cs, fuel, p, h1, h2, h3, h4⟩ := laid_mem hl hm
  rw [pow10_data] at h4
  have hg : Tryz.prog.globalNamed "internal/strconv.uint64pow10" = some 1 := by kernel_rfl
  obtain rfl := Option.some.inj (h1.symm.trans hg)
  obtain rfl := Option.some.inj (h2.symm.trans (show (Tryz.prog.globals[1]?).map (·.type) = some 167 by kernel_rfl))
  have hc := Lib.cells_of_tab Tryz.underlying167 Tryz.underlying155 (by kernel_rfl) (by kernel_rfl) h4
  unfold TabH Lib.TabIs
  rw [h3, ← hc]
end Go.Proofs.YtjpmofnnjdhamaaGreatDoor
