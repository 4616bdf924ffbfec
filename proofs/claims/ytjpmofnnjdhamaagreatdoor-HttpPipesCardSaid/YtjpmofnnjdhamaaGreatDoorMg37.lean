/-
  http's writing: the length as a field, a status's three digits, the length of a response.
  http.RequestBytes.
  http.responseLength, http.ResponseBytes.
  Messages of few bytes: no line of theirs is too long.
  A request and a response that came in by value, opened; the table of powers of ten.
  HttpPipes.
  A slice of requests that came in, opened.
-/
import Derived.Lib.AppendIntMem
import Derived.Deep.RegionHeld3
import Derived.OpenShut
import Derived.ProofKit
import Derived.Lib.LaidTab
import Derived.Lib.SmallJoins
import Derived.Test.YtjpmofnnjdhamaaGreatDoorRows
import Derived.Test.YtjpmofnnjdhamaaGreatDoorMg1
import Derived.Test.YtjpmofnnjdhamaaGreatDoorMg4
import Derived.Test.YtjpmofnnjdhamaaGreatDoorMg15
import Derived.Test.YtjpmofnnjdhamaaGreatDoorMg25
import Derived.Test.YtjpmofnnjdhamaaGreatDoorMg30
import Derived.Test.YtjpmofnnjdhamaaGreatDoorMg32
import Derived.Test.YtjpmofnnjdhamaaGreatDoorMg33
import Derived.Test.YtjpmofnnjdhamaaGreatDoorMg36
import Derived.Test.YtjpmofnnjdhamaaGreatDoorMg39
import Derived.Test.YtjpmofnnjdhamaaGreatDoorMg40
namespace Go.Proofs.YtjpmofnnjdhamaaGreatDoor
open Go.RowKit HeadMath NormMath NormS HeadS ChunkMath HttpMath

def TabH (w : World) : Prop := Lib.TabIs Tryz.prog w "internal/strconv.uint64pow10" .u64 Lib.pow10Tab
theorem TabH.spares {F : Nat → Prop} {w w' : World} (h : TabH w) (hs : Spares F w w') (hF : ¬ F 1) : TabH w' := by
  unfold TabH Lib.TabIs World.var? at h ⊢
  have hg : Tryz.prog.globalNamed "internal/strconv.uint64pow10" = some 1 := by kernel_rfl
  simp only [hg, Option.bind_some] at h ⊢
  have hlt : 1 < w.heap.size := by
    rcases Nat.lt_or_ge 1 w.heap.size with h1 | h1
    · exact h1
    · simp [Array.getElem?_eq_none h1] at h
  rw [hs.block _ hlt hF]
  exact h
theorem itoa_call (n : Nat) (w : World) (hn : n ≤ 9223372036854775807) (ht : TabH w) : Calls Tryz.prog 62 #[.int .i64 n] w fun e w' => e = .returned (.string (itoB n)) ∧ Spares nowhere w w' := by
  have c := Tryz.strconv_Itoa n (by omega) (by omega) w ht
  have hd : (⟨(Lib.itoa n).toArray⟩ : ByteArray) = itoB n := by
    unfold itoB Lib.itoa
    rw [if_neg (by omega)]
    rfl
  rw [hd] at c
  exact c.mono fun e w' ⟨he, k, os, hw⟩ => ⟨he, hw ▸ Below.spares (F := nowhere) (Lib.below_grow _ _ (Nat.le_refl _) k os) (fun k hk => .inr hk)⟩
theorem itoB_size (n : Nat) (hn : n ≤ 9223372036854775807) : (itoB n).size ≤ 21 := by
  have := dec_len n hn
  show (Lib.decDigits n).toArray.size ≤ _
  simpa using this
def LenFPost (n : Nat) (w : World) (e : Ending) (w' : World) : Prop := e = .returned (.agg #[.string nCL, .string (itoB n)]) ∧ Spares nowhere w w'
set_option maxRecDepth 100000 in
set_option maxHeartbeats 4000000 in
theorem lengthField_any (n : Nat) (w : World) (hn : n ≤ 9223372036854775807) (ht : TabH w) : Calls Tryz.prog 30 #[.int .i64 n] w (LenFPost n w) := by
  have hs0 : Spares nowhere w (w.alloc (.cells #[.string ⟨#[]⟩, .string ⟨#[]⟩] 59)) := (Spares.refl _ _).alloc _
  have C := itoa_call n (w.alloc (.cells #[.string ⟨#[]⟩, .string ⟨#[]⟩] 59)) hn (ht.spares hs0 (fun h => h))
  have H0 : Hid ((w.alloc (.cells #[.string ⟨#[]⟩, .string ⟨#[]⟩] 59)).heap[w.heap.size]? = some (.cells #[.string ⟨#[]⟩, .string ⟨#[]⟩] 59 (0, 0))) := Lib.hid (heap_alloc_new _ _)
  have HS0 := Lib.hid hs0
  obtain ⟨X, hX⟩ : ∃ X, itoB n = X := ⟨_, rfl⟩
  unfold LenFPost
  rw [hX] at C ⊢
  unfold nCL
  clear hX hs0 ht
  go_enter Tryz.func30, Tryz.ntmps30
  go_wp2_with fail
  refine C.mono ?_
  rintro _ w1 ⟨rfl, hs1⟩
  have h1 := hs1.heap H0.out (fun h => h)
  obtain ⟨g, hg⟩ : ∃ g, w.heap.size = g := ⟨_, rfl⟩
  rw [hg] at h1
  have HG := Lib.hid hg
  have x0 : w1.cell? ⟨g, 0, none⟩ = some (.string ⟨#[]⟩) := (Lib.cell_of_heap h1 0).trans rfl
  have f0 : w1.frozen? ⟨g, 0, none⟩ = false := Lib.frozen_of_heap h1 0
  have h2 := set_at (i := 0) h1 (.string ⟨#[67, 111, 110, 116, 101, 110, 116, 45, 76, 101, 110, 103, 116, 104]⟩)
  have x1 : (w1.setCell ⟨g, 0, none⟩ (.string ⟨#[67, 111, 110, 116, 101, 110, 116, 45, 76, 101, 110, 103, 116, 104]⟩)).cell? ⟨g, 1, none⟩ = some (.string ⟨#[]⟩) := (Lib.cell_of_heap h2 1).trans rfl
  have f1 : (w1.setCell ⟨g, 0, none⟩ (.string ⟨#[67, 111, 110, 116, 101, 110, 116, 45, 76, 101, 110, 103, 116, 104]⟩)).frozen? ⟨g, 1, none⟩ = false := Lib.frozen_of_heap h2 1
  have h3 := set_at (i := 1) h2 (.string X)
  obtain ⟨u, hu⟩ : ∃ u, (w1.setCell ⟨g, 0, none⟩ (.string ⟨#[67, 111, 110, 116, 101, 110, 116, 45, 76, 101, 110, 103, 116, 104]⟩)).setCell ⟨g, 1, none⟩ (.string X) = u := ⟨_, rfl⟩
  have HSU : Hid (Spares nowhere w u) := Lib.hid (by
    rw [← hu]
    refine (HS0.out.trans hs1).trans' (((Spares.refl (fun k => k = g) w1).setCell (p := ⟨g, 0, none⟩) (.inl rfl) _).setCell (p := ⟨g, 1, none⟩) (.inl rfl) _) (fun k hk => .inr (by rw [HG.out]; omega)))
  rw [hu] at h3
  have y0 : u.cell? ⟨g, 0, none⟩ = some (.string ⟨#[67, 111, 110, 116, 101, 110, 116, 45, 76, 101, 110, 103, 116, 104]⟩) := (Lib.cell_of_heap h3 0).trans rfl
  have y1 : u.cell? ⟨g, 1, none⟩ = some (.string X) := (Lib.cell_of_heap h3 1).trans rfl
  clear hg h1 h2 h3 hs1 C H0 HS0
  try rw [HG.out]
  go_wp2
  exact bodyPost_ret (v := .agg #[.string ⟨#[67, 111, 110, 116, 101, 110, 116, 45, 76, 101, 110, 103, 116, 104]⟩, .string X]) (by simp [results, Tryz.results30, asAddr, go_sem, y0, y1]) rfl ⟨rfl, HSU.out⟩
/-- The three digits of a status. -/
theorem dec_step {n : Nat} (h : 10 ≤ n) : Lib.decDigits n = Lib.decDigits (n / 10) ++ [UInt8.ofNat (48 + n % 10)] := by rw [Lib.decDigits, dif_neg (by omega)]
theorem dec_three (n : Nat) (h : n < 1000) : Lib.decDigits (n + 1000) = 49 :: digs n := by
  rw [dec_step (by omega), dec_step (by omega), dec_step (by omega), Lib.decDigits_one (by omega)]
  unfold digs dg
  have e1 : (n + 1000) / 10 / 10 / 10 = 1 := by omega
  have e2 : (n + 1000) / 10 / 10 % 10 = n / 100 := by omega
  have e3 : (n + 1000) / 10 % 10 = n / 10 % 10 := by omega
  have e4 : (n + 1000) % 10 = n % 10 := by omega
  rw [e1, e2, e3, e4]
  rfl
def DigPost (n : Nat) (w : World) (e : Ending) (w' : World) : Prop := e = .returned (.string ⟨(digs n).toArray⟩) ∧ Spares nowhere w w'
set_option maxRecDepth 100000 in
set_option maxHeartbeats 4000000 in
theorem digits_any (st : Int) (w : World) (h0 : -9223372036854775808 ≤ st) (h1 : st ≤ 9223372036854775807) (ht : TabH w) : Calls Tryz.prog 36 #[.int .i64 st] w (DigPost (stat3 st) w) := by
  obtain ⟨n, hn⟩ : ∃ n, stat3 st = n := ⟨_, rfl⟩
  have hn1 : n < 1000 := by rw [← hn]; exact stat3_lt st
  have hmx : (max st 0 : Int).tmod 1000 = (n : Int) := by
    rw [Int.tmod_eq_emod_of_nonneg (by omega)]
    rw [← hn]; unfold stat3; omega
  have hmx2 : (max st 0 : Int) % 1000 = (n : Int) := by rw [← hn]; unfold stat3; omega
  have C := itoa_call (n + 1000) w (by omega) ht
  obtain ⟨X, hX⟩ : ∃ X, itoB (n + 1000) = X := ⟨_, rfl⟩
  have hXs : X.size = 4 := by
    rw [← hX]; unfold itoB
    rw [dec_three n hn1]; rfl
  have HXE : Hid (X.extract 1 4 = ⟨(digs n).toArray⟩) := Lib.hid (by
    rw [← hX]; unfold itoB
    rw [dec_three n hn1]
    rfl)
  rw [hX] at C
  rw [hn]
  unfold DigPost
  have hcast : ((n + 1000 : Nat) : Int) = max st 0 % 1000 + 1000 := by omega
  rw [hcast] at C
  clear hX hn ht hcast hmx hmx2
  go_enter Tryz.func36, Tryz.ntmps36
  go_wp2_with fail
  refine C.mono ?_
  rintro _ w1 ⟨rfl, hs1⟩
  go_wp2
  go_ret
  exact ⟨by rw [← HXE.out]; rfl, hs1⟩
end Go.Proofs.YtjpmofnnjdhamaaGreatDoor
namespace Go.Proofs.YtjpmofnnjdhamaaGreatDoor
open Go.RowKit HeadMath NormMath NormS HeadS ChunkMath HttpMath

theorem msg_up {T T' : Bs} {w w5 w6 : World} {e : Ending} (h : MsgPost T w5 e w6) (hs : Spares nowhere w w5) (hT : T = T') : MsgPost T' w e w6 := by
  obtain ⟨v, he, ⟨g, cur, fz, h1, h2, h3⟩, hsp⟩ := h
  subst hT
  exact ⟨v, he, ⟨g, cur, fz, h1, Nat.le_trans hs.size h2, h3⟩, hs.trans hsp⟩
theorem lines_filter (p : ByteArray × ByteArray → Bool) : ∀ (l : Fs), (linesF (l.filter p)).length ≤ (linesF l).length
  | [] => Nat.le_refl _
  | f :: l => by
    have ih := lines_filter p l
    have e : ∀ (x : ByteArray × ByteArray) (L : Fs), linesF (x :: L) = HeadS.lineF x ++ linesF L := fun x L => by unfold linesF; rw [List.flatMap_cons]
    rw [List.filter_cons]
    split
    · rw [e, e, List.length_append, List.length_append]; omega
    · rw [e, List.length_append]; omega
theorem unframed_mem {l : Fs} : ∀ f ∈ unframedF l, f ∈ l := fun f hf => by
  unfold unframedF dropF at hf
  exact (List.mem_filter.1 (List.mem_filter.1 hf).1).1
theorem unframed_len (l : Fs) : (unframedF l).length ≤ l.length := by
  unfold unframedF
  exact Nat.le_trans (dropF_len _ _) (dropF_len _ _)
theorem unframed_lines (l : Fs) : (linesF (unframedF l)).length ≤ (linesF l).length := by
  unfold unframedF dropF
  exact Nat.le_trans (lines_filter _ _) (lines_filter _ _)
theorem lines_of {l : Fs} {a c : Nat} (ha : l.length ≤ a) (hc : ∀ f ∈ l, f.1.size + f.2.size ≤ c) : (linesF l).length ≤ a * (c + 4) := by
  have key : ∀ l : Fs, (∀ f ∈ l, f.1.size + f.2.size ≤ c) → (linesF l).length ≤ l.length * (c + 4) := by
    intro l
    induction l with
    | nil => intro _; simp [linesF]
    | cons f l ih =>
      intro h
      have e : linesF (f :: l) = HeadS.lineF f ++ linesF l := by unfold linesF; rw [List.flatMap_cons]
      have h1 := h f (by simp)
      have h2 := ih (fun g hg => h g (by simp [hg]))
      have h3 : (HeadS.lineF f).length = f.1.size + f.2.size + 4 := by
        unfold HeadS.lineF
        simp only [List.length_append, List.length_cons, List.length_nil, size_list]
        omega
      rw [e, List.length_append, List.length_cons, h3, Nat.add_mul]
      omega
  refine Nat.le_trans (key l hc) (Nat.mul_le_mul_right _ ha)
/-- What a message's maker wants of its fields and its body. -/
structure FitM (fs : Fs) (body : Bs) : Prop where
  len : fs.length ≤ 900
  sz : ∀ f ∈ fs, f.1.size ≤ 1000000 ∧ f.2.size ≤ 1000000
  val : ∀ f ∈ fs, f.2.size ≤ 9000
  lin : (linesF fs).length ≤ 90000
  bod : body.length ≤ 90000
theorem FitM.small {fs : Fs} {body : Bs} (h : FitM fs body) : SmallF fs := fun j hj => by have := h.sz _ (List.getElem_mem hj); omega
/-- The fields without framing's, and perhaps one of the length. -/
theorem fit_len {fs : Fs} {body : Bs} {n : Nat} (h : FitM fs body) (hn : n ≤ 100000) (l : Fs) (hl : l = [] ∨ l = [(nCL, itoB n)]) : (unframedF fs ++ l).length ≤ 1000 ∧ (∀ j (h : j < (unframedF fs ++ l).length), (unframedF fs ++ l)[j].1.size ≤ 1000000 ∧ (unframedF fs ++ l)[j].2.size ≤ 1000000) ∧ (linesF (unframedF fs ++ l)).length ≤ 100000 := by
  have h1 := unframed_len fs
  have h2 := unframed_lines fs
  have h3 := h.len
  have h4 := h.lin
  have hi := itoB_size n (by omega)
  have hz : nCL.size = 14 := rfl
  rcases hl with rfl | rfl
  · rw [List.append_nil]
    exact ⟨by omega, fun j hj => h.sz _ (unframed_mem _ (List.getElem_mem hj)), by omega⟩
  · refine ⟨by rw [List.length_append]; simp; omega, fun j hj => ?_, ?_⟩
    · rcases List.mem_append.1 (List.getElem_mem hj) with hm | hm
      · exact h.sz _ (unframed_mem _ hm)
      · have e : (unframedF fs ++ [(nCL, itoB n)])[j] = (nCL, itoB n) := by simpa using hm
        rw [e]
        exact ⟨by rw [hz]; omega, by show (itoB n).size ≤ _; omega⟩
    · rw [linesF_app, linesF_one, List.length_append]
      have : (HeadS.lineF (nCL, itoB n)).length = nCL.size + (itoB n).size + 4 := by
        unfold HeadS.lineF
        simp only [List.length_append, List.length_cons, List.length_nil, size_list]
        omega
      rw [this, hz]
      omega
theorem one_len (w : World) (n v : ByteArray) : FieldsIn (w.heap.size + 1) (w.alloc (.cells #[.string n, .string v] 59)) (some ⟨w.heap.size, 0, none⟩) [(n, v)] := by
  intro j hj
  obtain rfl : j = 0 := by simpa using hj
  exact ⟨w.heap.size, 0, rfl, by omega, by simp [go_sem], by simp [go_sem]⟩
set_option maxRecDepth 100000 in
set_option maxHeartbeats 8000000 in
theorem requestBytes_any (m t : ByteArray) (fs : Fs) (body : Bs) (fa ab : Option Addr) (fc cb n k : Nat) (w : World) (hn : fs.length = n) (hk : body.length = k) (hin : FieldsIn w.heap.size w fa fs) (hat : BytesAt w ab body) (hnil : ab = none → cb = 0) (hm : m.size ≤ 4000) (ht : t.size ≤ 4000) (hfit : FitM fs body) (hT : TabH w) :
    Calls Tryz.prog 13 #[.agg #[.string m, .string t, .slice fa n fc, .slice ab k cb]] w (MsgPost (reqTextF m t fs body) w) := by
  obtain ⟨w0, hw0⟩ : ∃ w0, w.alloc (.cells #[.string m, .string t, .slice fa n fc, .slice ab k cb] 25) = w0 := ⟨_, rfl⟩
  have hs0 : Spares nowhere w w0 := by rw [← hw0]; exact (Spares.refl _ _).alloc _
  obtain ⟨g, hg⟩ : ∃ g, w.heap.size = g := ⟨_, rfl⟩
  have hb0 : w0.heap[g]? = some (.cells #[.string m, .string t, .slice fa n fc, .slice ab k cb] 25 (0, 0)) := by rw [← hw0, ← hg]; exact heap_alloc_new _ _
  have hz0 : g < w0.heap.size := by rw [← hw0, ← hg]; simp
  have CU := unframed_any fs fa fc n w0 hn.symm (FieldsIn.quiet hin (Nat.le_refl _) hs0 hs0.size) hfit.small (by have := hfit.len; omega)
  obtain ⟨us, hus⟩ : ∃ us, unframedF fs = us := ⟨_, rfl⟩
  rw [hus] at CU
  unfold FieldPost at CU
  have hkk : k ≤ 90000 := by have := hfit.bod; omega
  have CLN : Hid (∀ W, Spares nowhere w W → Calls Tryz.prog 30 #[.int .i64 k] W (LenFPost k W)) := Lib.hid (fun W h => lengthField_any k W (by omega) (hT.spares h (fun h => h)))
  unfold LenFPost nCL at CLN
  have HUS := Lib.hid hus
  have HB0 := Lib.hid hb0
  have HS0 := Lib.hid hs0
  have HG := Lib.hid hg
  have HZ0 := Lib.hid hz0
  have HW0 := Lib.hid hw0
  have HK := Lib.hid hk
  have HAT := Lib.hid hat
  have HNIL := Lib.hid hnil
  have HFIT := Lib.hid hfit
  have y0 : w0.cell? ⟨g, 0, none⟩ = some (.string m) := (Lib.cell_of_heap hb0 0).trans rfl
  have y2 : w0.cell? ⟨g, 2, none⟩ = some (.slice fa n fc) := (Lib.cell_of_heap hb0 2).trans rfl
  have hz1 : ({ data := #[32] } : ByteArray).size = 1 := rfl
  have hz8 : ({ data := #[72, 84, 84, 80, 47, 49, 46, 49] } : ByteArray).size = 8 := rfl
  obtain ⟨Y, hY⟩ : ∃ Y : ByteArray, m ++ ({ data := #[32] } : ByteArray) ++ t ++ ({ data := #[32] } : ByteArray) ++ ({ data := #[72, 84, 84, 80, 47, 49, 46, 49] } : ByteArray) = Y := ⟨_, rfl⟩
  have hYs : Y.size ≤ 10000 := by
    rw [← hY, ByteArray.size_append, ByteArray.size_append, ByteArray.size_append, ByteArray.size_append, hz1, hz8]; omega
  have HYD : Hid (Y.data.toList = firstT m t) := Lib.hid (by
    rw [← hY, ByteArray.data_append, ByteArray.data_append, ByteArray.data_append, ByteArray.data_append]
    unfold firstT http11
    simp)
  clear hin hat hnil hfit hT hb0 hs0 hg hz0 hus hk hn hw0
  have HP := Lib.hid (show putM m = ((m.toList == [80, 79, 83, 84]) || ((m.toList == [80, 85, 84]) || (m.toList == [80, 65, 84, 67, 72]))) from rfl)
  cases e1 : (m.toList == [80, 79, 83, 84]) with
  | true =>
    have HE := Lib.hid e1
    go_enter Tryz.func13, Tryz.ntmps13
    go_upto_region 1 with (fail)
    rw [HW0.out, HG.out]
    go_wp2_with fail
    refine CU.mono ?_
    rintro _ w1 ⟨v, rfl, hown, hb1⟩
    have hs1 : Spares nowhere w0 w1 := Below.spares hb1 (fun k hk => .inr hk)
    have HO := Lib.hid hown
    have HS1 := Lib.hid hs1
    have HB1 := Lib.hid (hs1.heap HB0.out (fun h => h))
    have y0' : w1.cell? ⟨g, 0, none⟩ = some (.string m) := (Lib.cell_of_heap HB1.out 0).trans rfl
    have y1' : w1.cell? ⟨g, 1, none⟩ = some (.string t) := (Lib.cell_of_heap HB1.out 1).trans rfl
    have y3' : w1.cell? ⟨g, 3, none⟩ = some (.slice ab k cb) := (Lib.cell_of_heap HB1.out 3).trans rfl
    clear hown hb1 hs1 CU
    go_wp2_with fail
    refine (CLN.out w1 (HS0.out.trans HS1.out)).mono ?_
    rintro _ w2 ⟨rfl, hs2⟩
    have HI3 := Lib.hid (one_len w2 ⟨#[67, 111, 110, 116, 101, 110, 116, 45, 76, 101, 110, 103, 116, 104]⟩ (itoB k))
    have hs3 : Spares nowhere w1 (w2.alloc (.cells #[.string ⟨#[67, 111, 110, 116, 101, 110, 116, 45, 76, 101, 110, 103, 116, 104]⟩, .string (itoB k)] 59)) := hs2.alloc _
    have HS3 := Lib.hid hs3
    have HO3 := Lib.hid (hs3.own HO.out (fun _ _ h => h))
    have HL3 : Hid (us.length + 1 ≤ 1000000000) := Lib.hid (by have h1 := unframed_len fs; rw [HUS.out] at h1; have := HFIT.out.len; omega)
    clear hs2 hs3
    go_wp2_with (at_builtin; refine wpList_append_fields rfl _ _ rfl w0.heap.size _ v us rfl HO3.out (HS1.out.trans HS3.out).size (some ⟨w2.heap.size, 0, none⟩) 1 1 _ rfl rfl HI3.out (fun e => by cases e) (by simpa using HL3.out) ?_)
    intro v4 w4 hown4 hg4
    have hs4 : Spares nowhere w0 w4 := (HS1.out.trans HS3.out).grown hg4 (fun k hk => .inr (World.ownsRow.lt HO3.out k hk).1)
    obtain ⟨ls, hls⟩ : ∃ ls, us ++ [(⟨#[67, 111, 110, 116, 101, 110, 116, 45, 76, 101, 110, 103, 116, 104]⟩, itoB k)] = ls := ⟨_, rfl⟩
    have HLS : Hid (ls = unframedF fs ++ reqLenF m k) := Lib.hid (by rw [← hls, HUS.out]; unfold reqLenF; rw [if_pos (by exact .inl (by rw [HP.out, HE.out]; rfl))]; try rfl)
    obtain ⟨f1, f2, f3⟩ : ls.length ≤ 1000 ∧ (∀ j (h : j < ls.length), ls[j].1.size ≤ 1000000 ∧ ls[j].2.size ≤ 1000000) ∧ (linesF ls).length ≤ 100000 := by
      have := fit_len (n := k) HFIT.out (by omega) [(nCL, itoB k)] (.inr rfl)
      rw [HUS.out] at this
      rw [← hls]
      exact this
    rw [hls] at hown4
    rw [show us.length + 1 = ls.length from by rw [← hls]; simp] at hown4
    obtain ⟨fa4, fc4, hv4, hfi4⟩ := rowF_shape hown4
    subst hv4
    have HS4 := Lib.hid hs4
    have HWW4 : Hid (Spares nowhere w w4) := Lib.hid (HS0.out.trans hs4)
    have HB4 := Lib.hid (hs4.heap HB0.out (fun h => h))
    have CM : Hid (Calls Tryz.prog 31 #[.string Y, .slice fa4 ls.length fc4, .slice ab k cb] w4 (MsgPost (msgT Y.data.toList ls body) w4)) := Lib.hid (message_any Y ls body fa4 ab fc4 cb ls.length k w4 rfl HK.out hfi4 (HAT.out.spares' HWW4.out (fun _ _ _ _ h => h)) HNIL.out hYs (by omega) f2 f3 (by have := HFIT.out.bod; omega))
    have z0 : w4.cell? ⟨g, 0, none⟩ = some (.string m) := (Lib.cell_of_heap HB4.out 0).trans rfl
    have z1 : w4.cell? ⟨g, 1, none⟩ = some (.string t) := (Lib.cell_of_heap HB4.out 1).trans rfl
    have z3 : w4.cell? ⟨g, 3, none⟩ = some (.slice ab k cb) := (Lib.cell_of_heap HB4.out 3).trans rfl
    clear hown4 hs4 hfi4 hls f1 f2 f3 hg4
    go_wp2_with fail
    refine CM.out.mono ?_
    rintro e5 w5 hM
    have HM := Lib.hid (msg_up hM HWW4.out (T' := reqTextF m t fs body) (by unfold reqTextF; rw [HYD.out, HLS.out, HK.out]))
    obtain ⟨v5, rfl, _⟩ := hM
    go_wp2
    go_ret
    exact HM.out
  | false =>
    cases e2 : (m.toList == [80, 85, 84]) with
    | true =>
      have HE := Lib.hid e1
      have HE2 := Lib.hid e2
      go_enter Tryz.func13, Tryz.ntmps13
      go_upto_region 1 with (fail)
      rw [HW0.out, HG.out]
      go_wp2_with fail
      refine CU.mono ?_
      rintro _ w1 ⟨v, rfl, hown, hb1⟩
      have hs1 : Spares nowhere w0 w1 := Below.spares hb1 (fun k hk => .inr hk)
      have HO := Lib.hid hown
      have HS1 := Lib.hid hs1
      have HB1 := Lib.hid (hs1.heap HB0.out (fun h => h))
      have y0' : w1.cell? ⟨g, 0, none⟩ = some (.string m) := (Lib.cell_of_heap HB1.out 0).trans rfl
      have y1' : w1.cell? ⟨g, 1, none⟩ = some (.string t) := (Lib.cell_of_heap HB1.out 1).trans rfl
      have y3' : w1.cell? ⟨g, 3, none⟩ = some (.slice ab k cb) := (Lib.cell_of_heap HB1.out 3).trans rfl
      clear hown hb1 hs1 CU
      go_wp2_with fail
      refine (CLN.out w1 (HS0.out.trans HS1.out)).mono ?_
      rintro _ w2 ⟨rfl, hs2⟩
      have HI3 := Lib.hid (one_len w2 ⟨#[67, 111, 110, 116, 101, 110, 116, 45, 76, 101, 110, 103, 116, 104]⟩ (itoB k))
      have hs3 : Spares nowhere w1 (w2.alloc (.cells #[.string ⟨#[67, 111, 110, 116, 101, 110, 116, 45, 76, 101, 110, 103, 116, 104]⟩, .string (itoB k)] 59)) := hs2.alloc _
      have HS3 := Lib.hid hs3
      have HO3 := Lib.hid (hs3.own HO.out (fun _ _ h => h))
      have HL3 : Hid (us.length + 1 ≤ 1000000000) := Lib.hid (by have h1 := unframed_len fs; rw [HUS.out] at h1; have := HFIT.out.len; omega)
      clear hs2 hs3
      go_wp2_with (at_builtin; refine wpList_append_fields rfl _ _ rfl w0.heap.size _ v us rfl HO3.out (HS1.out.trans HS3.out).size (some ⟨w2.heap.size, 0, none⟩) 1 1 _ rfl rfl HI3.out (fun e => by cases e) (by simpa using HL3.out) ?_)
      intro v4 w4 hown4 hg4
      have hs4 : Spares nowhere w0 w4 := (HS1.out.trans HS3.out).grown hg4 (fun k hk => .inr (World.ownsRow.lt HO3.out k hk).1)
      obtain ⟨ls, hls⟩ : ∃ ls, us ++ [(⟨#[67, 111, 110, 116, 101, 110, 116, 45, 76, 101, 110, 103, 116, 104]⟩, itoB k)] = ls := ⟨_, rfl⟩
      have HLS : Hid (ls = unframedF fs ++ reqLenF m k) := Lib.hid (by rw [← hls, HUS.out]; unfold reqLenF; rw [if_pos (by exact .inl (by rw [HP.out, HE.out, HE2.out]; rfl))]; try rfl)
      obtain ⟨f1, f2, f3⟩ : ls.length ≤ 1000 ∧ (∀ j (h : j < ls.length), ls[j].1.size ≤ 1000000 ∧ ls[j].2.size ≤ 1000000) ∧ (linesF ls).length ≤ 100000 := by
        have := fit_len (n := k) HFIT.out (by omega) [(nCL, itoB k)] (.inr rfl)
        rw [HUS.out] at this
        rw [← hls]
        exact this
      rw [hls] at hown4
      rw [show us.length + 1 = ls.length from by rw [← hls]; simp] at hown4
      obtain ⟨fa4, fc4, hv4, hfi4⟩ := rowF_shape hown4
      subst hv4
      have HS4 := Lib.hid hs4
      have HWW4 : Hid (Spares nowhere w w4) := Lib.hid (HS0.out.trans hs4)
      have HB4 := Lib.hid (hs4.heap HB0.out (fun h => h))
      have CM : Hid (Calls Tryz.prog 31 #[.string Y, .slice fa4 ls.length fc4, .slice ab k cb] w4 (MsgPost (msgT Y.data.toList ls body) w4)) := Lib.hid (message_any Y ls body fa4 ab fc4 cb ls.length k w4 rfl HK.out hfi4 (HAT.out.spares' HWW4.out (fun _ _ _ _ h => h)) HNIL.out hYs (by omega) f2 f3 (by have := HFIT.out.bod; omega))
      have z0 : w4.cell? ⟨g, 0, none⟩ = some (.string m) := (Lib.cell_of_heap HB4.out 0).trans rfl
      have z1 : w4.cell? ⟨g, 1, none⟩ = some (.string t) := (Lib.cell_of_heap HB4.out 1).trans rfl
      have z3 : w4.cell? ⟨g, 3, none⟩ = some (.slice ab k cb) := (Lib.cell_of_heap HB4.out 3).trans rfl
      clear hown4 hs4 hfi4 hls f1 f2 f3 hg4
      go_wp2_with fail
      refine CM.out.mono ?_
      rintro e5 w5 hM
      have HM := Lib.hid (msg_up hM HWW4.out (T' := reqTextF m t fs body) (by unfold reqTextF; rw [HYD.out, HLS.out, HK.out]))
      obtain ⟨v5, rfl, _⟩ := hM
      go_wp2
      go_ret
      exact HM.out
    | false =>
      cases e3 : (m.toList == [80, 65, 84, 67, 72]) with
      | true =>
        have HE := Lib.hid e1
        have HE2 := Lib.hid e2
        have HE3 := Lib.hid e3
        go_enter Tryz.func13, Tryz.ntmps13
        go_upto_region 1 with (fail)
        rw [HW0.out, HG.out]
        go_wp2_with fail
        refine CU.mono ?_
        rintro _ w1 ⟨v, rfl, hown, hb1⟩
        have hs1 : Spares nowhere w0 w1 := Below.spares hb1 (fun k hk => .inr hk)
        have HO := Lib.hid hown
        have HS1 := Lib.hid hs1
        have HB1 := Lib.hid (hs1.heap HB0.out (fun h => h))
        have y0' : w1.cell? ⟨g, 0, none⟩ = some (.string m) := (Lib.cell_of_heap HB1.out 0).trans rfl
        have y1' : w1.cell? ⟨g, 1, none⟩ = some (.string t) := (Lib.cell_of_heap HB1.out 1).trans rfl
        have y3' : w1.cell? ⟨g, 3, none⟩ = some (.slice ab k cb) := (Lib.cell_of_heap HB1.out 3).trans rfl
        clear hown hb1 hs1 CU
        go_wp2_with fail
        refine (CLN.out w1 (HS0.out.trans HS1.out)).mono ?_
        rintro _ w2 ⟨rfl, hs2⟩
        have HI3 := Lib.hid (one_len w2 ⟨#[67, 111, 110, 116, 101, 110, 116, 45, 76, 101, 110, 103, 116, 104]⟩ (itoB k))
        have hs3 : Spares nowhere w1 (w2.alloc (.cells #[.string ⟨#[67, 111, 110, 116, 101, 110, 116, 45, 76, 101, 110, 103, 116, 104]⟩, .string (itoB k)] 59)) := hs2.alloc _
        have HS3 := Lib.hid hs3
        have HO3 := Lib.hid (hs3.own HO.out (fun _ _ h => h))
        have HL3 : Hid (us.length + 1 ≤ 1000000000) := Lib.hid (by have h1 := unframed_len fs; rw [HUS.out] at h1; have := HFIT.out.len; omega)
        clear hs2 hs3
        go_wp2_with (at_builtin; refine wpList_append_fields rfl _ _ rfl w0.heap.size _ v us rfl HO3.out (HS1.out.trans HS3.out).size (some ⟨w2.heap.size, 0, none⟩) 1 1 _ rfl rfl HI3.out (fun e => by cases e) (by simpa using HL3.out) ?_)
        intro v4 w4 hown4 hg4
        have hs4 : Spares nowhere w0 w4 := (HS1.out.trans HS3.out).grown hg4 (fun k hk => .inr (World.ownsRow.lt HO3.out k hk).1)
        obtain ⟨ls, hls⟩ : ∃ ls, us ++ [(⟨#[67, 111, 110, 116, 101, 110, 116, 45, 76, 101, 110, 103, 116, 104]⟩, itoB k)] = ls := ⟨_, rfl⟩
        have HLS : Hid (ls = unframedF fs ++ reqLenF m k) := Lib.hid (by rw [← hls, HUS.out]; unfold reqLenF; rw [if_pos (by exact .inl (by rw [HP.out, HE.out, HE2.out, HE3.out]; rfl))]; try rfl)
        obtain ⟨f1, f2, f3⟩ : ls.length ≤ 1000 ∧ (∀ j (h : j < ls.length), ls[j].1.size ≤ 1000000 ∧ ls[j].2.size ≤ 1000000) ∧ (linesF ls).length ≤ 100000 := by
          have := fit_len (n := k) HFIT.out (by omega) [(nCL, itoB k)] (.inr rfl)
          rw [HUS.out] at this
          rw [← hls]
          exact this
        rw [hls] at hown4
        rw [show us.length + 1 = ls.length from by rw [← hls]; simp] at hown4
        obtain ⟨fa4, fc4, hv4, hfi4⟩ := rowF_shape hown4
        subst hv4
        have HS4 := Lib.hid hs4
        have HWW4 : Hid (Spares nowhere w w4) := Lib.hid (HS0.out.trans hs4)
        have HB4 := Lib.hid (hs4.heap HB0.out (fun h => h))
        have CM : Hid (Calls Tryz.prog 31 #[.string Y, .slice fa4 ls.length fc4, .slice ab k cb] w4 (MsgPost (msgT Y.data.toList ls body) w4)) := Lib.hid (message_any Y ls body fa4 ab fc4 cb ls.length k w4 rfl HK.out hfi4 (HAT.out.spares' HWW4.out (fun _ _ _ _ h => h)) HNIL.out hYs (by omega) f2 f3 (by have := HFIT.out.bod; omega))
        have z0 : w4.cell? ⟨g, 0, none⟩ = some (.string m) := (Lib.cell_of_heap HB4.out 0).trans rfl
        have z1 : w4.cell? ⟨g, 1, none⟩ = some (.string t) := (Lib.cell_of_heap HB4.out 1).trans rfl
        have z3 : w4.cell? ⟨g, 3, none⟩ = some (.slice ab k cb) := (Lib.cell_of_heap HB4.out 3).trans rfl
        clear hown4 hs4 hfi4 hls f1 f2 f3 hg4
        go_wp2_with fail
        refine CM.out.mono ?_
        rintro e5 w5 hM
        have HM := Lib.hid (msg_up hM HWW4.out (T' := reqTextF m t fs body) (by unfold reqTextF; rw [HYD.out, HLS.out, HK.out]))
        obtain ⟨v5, rfl, _⟩ := hM
        go_wp2
        go_ret
        exact HM.out
      | false =>
        by_cases hk0 : 0 < k
        · have d0 : (0 : Int) < (k : Int) := by omega
          go_enter Tryz.func13, Tryz.ntmps13
          go_upto_region 1 with (fail)
          rw [HW0.out, HG.out]
          go_wp2_with fail
          refine CU.mono ?_
          rintro _ w1 ⟨v, rfl, hown, hb1⟩
          have hs1 : Spares nowhere w0 w1 := Below.spares hb1 (fun k hk => .inr hk)
          have HO := Lib.hid hown
          have HS1 := Lib.hid hs1
          have HB1 := Lib.hid (hs1.heap HB0.out (fun h => h))
          have y0' : w1.cell? ⟨g, 0, none⟩ = some (.string m) := (Lib.cell_of_heap HB1.out 0).trans rfl
          have y1' : w1.cell? ⟨g, 1, none⟩ = some (.string t) := (Lib.cell_of_heap HB1.out 1).trans rfl
          have y3' : w1.cell? ⟨g, 3, none⟩ = some (.slice ab k cb) := (Lib.cell_of_heap HB1.out 3).trans rfl
          clear hown hb1 hs1 CU
          go_wp2_with fail
          refine (CLN.out w1 (HS0.out.trans HS1.out)).mono ?_
          rintro _ w2 ⟨rfl, hs2⟩
          have HI3 := Lib.hid (one_len w2 ⟨#[67, 111, 110, 116, 101, 110, 116, 45, 76, 101, 110, 103, 116, 104]⟩ (itoB k))
          have hs3 : Spares nowhere w1 (w2.alloc (.cells #[.string ⟨#[67, 111, 110, 116, 101, 110, 116, 45, 76, 101, 110, 103, 116, 104]⟩, .string (itoB k)] 59)) := hs2.alloc _
          have HS3 := Lib.hid hs3
          have HO3 := Lib.hid (hs3.own HO.out (fun _ _ h => h))
          have HL3 : Hid (us.length + 1 ≤ 1000000000) := Lib.hid (by have h1 := unframed_len fs; rw [HUS.out] at h1; have := HFIT.out.len; omega)
          clear hs2 hs3
          go_wp2_with (at_builtin; refine wpList_append_fields rfl _ _ rfl w0.heap.size _ v us rfl HO3.out (HS1.out.trans HS3.out).size (some ⟨w2.heap.size, 0, none⟩) 1 1 _ rfl rfl HI3.out (fun e => by cases e) (by simpa using HL3.out) ?_)
          intro v4 w4 hown4 hg4
          have hs4 : Spares nowhere w0 w4 := (HS1.out.trans HS3.out).grown hg4 (fun k hk => .inr (World.ownsRow.lt HO3.out k hk).1)
          obtain ⟨ls, hls⟩ : ∃ ls, us ++ [(⟨#[67, 111, 110, 116, 101, 110, 116, 45, 76, 101, 110, 103, 116, 104]⟩, itoB k)] = ls := ⟨_, rfl⟩
          have HLS : Hid (ls = unframedF fs ++ reqLenF m k) := Lib.hid (by rw [← hls, HUS.out]; unfold reqLenF; rw [if_pos (by exact .inr hk0)]; try rfl)
          obtain ⟨f1, f2, f3⟩ : ls.length ≤ 1000 ∧ (∀ j (h : j < ls.length), ls[j].1.size ≤ 1000000 ∧ ls[j].2.size ≤ 1000000) ∧ (linesF ls).length ≤ 100000 := by
            have := fit_len (n := k) HFIT.out (by omega) [(nCL, itoB k)] (.inr rfl)
            rw [HUS.out] at this
            rw [← hls]
            exact this
          rw [hls] at hown4
          rw [show us.length + 1 = ls.length from by rw [← hls]; simp] at hown4
          obtain ⟨fa4, fc4, hv4, hfi4⟩ := rowF_shape hown4
          subst hv4
          have HS4 := Lib.hid hs4
          have HWW4 : Hid (Spares nowhere w w4) := Lib.hid (HS0.out.trans hs4)
          have HB4 := Lib.hid (hs4.heap HB0.out (fun h => h))
          have CM : Hid (Calls Tryz.prog 31 #[.string Y, .slice fa4 ls.length fc4, .slice ab k cb] w4 (MsgPost (msgT Y.data.toList ls body) w4)) := Lib.hid (message_any Y ls body fa4 ab fc4 cb ls.length k w4 rfl HK.out hfi4 (HAT.out.spares' HWW4.out (fun _ _ _ _ h => h)) HNIL.out hYs (by omega) f2 f3 (by have := HFIT.out.bod; omega))
          have z0 : w4.cell? ⟨g, 0, none⟩ = some (.string m) := (Lib.cell_of_heap HB4.out 0).trans rfl
          have z1 : w4.cell? ⟨g, 1, none⟩ = some (.string t) := (Lib.cell_of_heap HB4.out 1).trans rfl
          have z3 : w4.cell? ⟨g, 3, none⟩ = some (.slice ab k cb) := (Lib.cell_of_heap HB4.out 3).trans rfl
          clear hown4 hs4 hfi4 hls f1 f2 f3 hg4
          go_wp2_with fail
          refine CM.out.mono ?_
          rintro e5 w5 hM
          have HM := Lib.hid (msg_up hM HWW4.out (T' := reqTextF m t fs body) (by unfold reqTextF; rw [HYD.out, HLS.out, HK.out]))
          obtain ⟨v5, rfl, _⟩ := hM
          go_wp2
          go_ret
          exact HM.out
        · have d0 : ¬ (0 : Int) < (k : Int) := by omega
          have HE : Hid (putM m = false) := Lib.hid (by rw [HP.out, e1, e2, e3]; rfl)
          go_enter Tryz.func13, Tryz.ntmps13
          go_upto_region 1 with (fail)
          rw [HW0.out, HG.out]
          go_wp2_with fail
          refine CU.mono ?_
          rintro _ w1 ⟨v, rfl, hown, hb1⟩
          have hs1 : Spares nowhere w0 w1 := Below.spares hb1 (fun k hk => .inr hk)
          have HO := Lib.hid hown
          have HS1 := Lib.hid hs1
          have HB1 := Lib.hid (hs1.heap HB0.out (fun h => h))
          have y0' : w1.cell? ⟨g, 0, none⟩ = some (.string m) := (Lib.cell_of_heap HB1.out 0).trans rfl
          have y1' : w1.cell? ⟨g, 1, none⟩ = some (.string t) := (Lib.cell_of_heap HB1.out 1).trans rfl
          have y3' : w1.cell? ⟨g, 3, none⟩ = some (.slice ab k cb) := (Lib.cell_of_heap HB1.out 3).trans rfl
          clear hown hb1 hs1 CU
          have hown4 : w1.ownsRow w0.heap.size 59 2 v (us ++ []).length (fieldCells (us ++ [])) := by rw [List.append_nil]; exact HO.out
          have hs4 : Spares nowhere w0 w1 := HS1.out
          obtain ⟨ls, hls⟩ : ∃ ls, us ++ [] = ls := ⟨_, rfl⟩
          have HLS : Hid (ls = unframedF fs ++ reqLenF m k) := Lib.hid (by rw [← hls, HUS.out]; unfold reqLenF; rw [if_neg (by rw [HE.out]; rintro (h | h); cases h; omega)]; try rfl)
          obtain ⟨f1, f2, f3⟩ : ls.length ≤ 1000 ∧ (∀ j (h : j < ls.length), ls[j].1.size ≤ 1000000 ∧ ls[j].2.size ≤ 1000000) ∧ (linesF ls).length ≤ 100000 := by
            have := fit_len (n := k) HFIT.out (by omega) [] (.inl rfl)
            rw [HUS.out] at this
            rw [← hls]
            exact this
          rw [hls] at hown4
          obtain ⟨fa4, fc4, hv4, hfi4⟩ := rowF_shape hown4
          subst hv4
          have HS4 := Lib.hid hs4
          have HWW4 : Hid (Spares nowhere w w1) := Lib.hid (HS0.out.trans hs4)
          have HB4 := Lib.hid (hs4.heap HB0.out (fun h => h))
          have CM : Hid (Calls Tryz.prog 31 #[.string Y, .slice fa4 ls.length fc4, .slice ab k cb] w1 (MsgPost (msgT Y.data.toList ls body) w1)) := Lib.hid (message_any Y ls body fa4 ab fc4 cb ls.length k w1 rfl HK.out hfi4 (HAT.out.spares' HWW4.out (fun _ _ _ _ h => h)) HNIL.out hYs (by omega) f2 f3 (by have := HFIT.out.bod; omega))
          have z0 : w1.cell? ⟨g, 0, none⟩ = some (.string m) := (Lib.cell_of_heap HB4.out 0).trans rfl
          have z1 : w1.cell? ⟨g, 1, none⟩ = some (.string t) := (Lib.cell_of_heap HB4.out 1).trans rfl
          have z3 : w1.cell? ⟨g, 3, none⟩ = some (.slice ab k cb) := (Lib.cell_of_heap HB4.out 3).trans rfl
          clear hown4 hs4 hfi4 hls f1 f2 f3
          go_wp2_with fail
          refine CM.out.mono ?_
          rintro e5 w5 hM
          have HM := Lib.hid (msg_up hM HWW4.out (T' := reqTextF m t fs body) (by unfold reqTextF; rw [HYD.out, HLS.out, HK.out]))
          obtain ⟨v5, rfl, _⟩ := hM
          go_wp2
          go_ret
          exact HM.out
end Go.Proofs.YtjpmofnnjdhamaaGreatDoor
namespace Go.Proofs.YtjpmofnnjdhamaaGreatDoor
open Go.RowKit HeadMath NormMath NormS HeadS ChunkMath HttpMath

def headIs (method : ByteArray) : Bool := method.toList == [72, 69, 65, 68]
theorem headIs_eq (method : ByteArray) : headIs method = (method.data.toList == headM.data.toList) := by unfold headIs; rw [Lib.toList_data]; rfl
def rspLenG (st : Int) (fs : Fs) (n : Nat) (method : ByteArray) : Fs :=
  if headIs method = true ∨ st = 304 then (clOf (getF nCL fs)) else [(nCL, itoB n)]
theorem rspLenF_eq (st : Int) (fs : Fs) (n : Nat) (method : ByteArray) : rspLenF st fs n method = if st = 204 ∨ st < 200 then [] else rspLenG st fs n method := by
  unfold rspLenF rspLenG
  rw [headIs_eq]
theorem rspLenG_get {st : Int} {fs : Fs} {n : Nat} {method : ByteArray} (h : headIs method = true ∨ st = 304) : rspLenG st fs n method = clOf (getF nCL fs) := by unfold rspLenG; rw [if_pos h]
theorem rspLenG_len {st : Int} {fs : Fs} {n : Nat} {method : ByteArray} (h : headIs method = false) (h2 : st ≠ 304) : rspLenG st fs n method = [(nCL, itoB n)] := by
  unfold rspLenG
  rw [if_neg]
  rintro (e | e)
  · rw [h] at e; cases e
  · exact h2 e
theorem get_yes {l : Fs} {n v : ByteArray} {a : Option Addr} {cap : Nat} {w : World} (hv : getF n l = some v) (hin : FieldsIn w.heap.size w a l) (hsm : SmallF l) (hle : l.length ≤ 140737488351232) (hn : n.size ≤ 140737488351232) :
    Calls Tryz.prog 65 #[.slice a l.length cap, .string n] w fun e w' => e = .returned (.tuple #[.string v, .bool true]) ∧ Below w.heap.size w w' := by
  refine (get_any l n a cap w hin hsm hle hn).mono ?_
  rintro e w' ⟨hb, ⟨h, _⟩ | ⟨v', h, rfl⟩⟩
  · rw [hv] at h; cases h
  · rw [hv] at h; injection h with h; subst h; exact ⟨rfl, hb⟩
theorem get_not {l : Fs} {n : ByteArray} {a : Option Addr} {cap : Nat} {w : World} (hv : getF n l = none) (hin : FieldsIn w.heap.size w a l) (hsm : SmallF l) (hle : l.length ≤ 140737488351232) (hn : n.size ≤ 140737488351232) :
    Calls Tryz.prog 65 #[.slice a l.length cap, .string n] w fun e w' => e = .returned (.tuple #[.string { data := #[] }, .bool false]) ∧ Below w.heap.size w w' := by
  refine (get_any l n a cap w hin hsm hle hn).mono ?_
  rintro e w' ⟨hb, ⟨_, rfl⟩ | ⟨v', h, _⟩⟩
  · exact ⟨rfl, hb⟩
  · rw [hv] at h; cases h
def RLen (ls : Fs) (w : World) (e : Ending) (w' : World) : Prop := ∃ a c, e = .returned (.slice a ls.length c) ∧ FieldsIn w'.heap.size w' a ls ∧ (a = none → c = 0) ∧ Spares nowhere w w'
theorem rlen_one {w w1 : World} {v : ByteArray} {ls : Fs} (hl : ls = [(nCL, v)]) (hs : Spares nowhere w w1) : RLen ls w (.returned (.slice (some ⟨w1.heap.size, 0, none⟩) 1 1)) (w1.alloc (.cells #[.string ⟨#[67, 111, 110, 116, 101, 110, 116, 45, 76, 101, 110, 103, 116, 104]⟩, .string v] 59)) := by
  subst hl
  refine ⟨_, _, rfl, ?_, (fun e => by cases e), hs.alloc _⟩
  have := one_len w1 nCL v
  have hz : (w1.alloc (.cells #[.string ⟨#[67, 111, 110, 116, 101, 110, 116, 45, 76, 101, 110, 103, 116, 104]⟩, .string v] 59)).heap.size = w1.heap.size + 1 := by simp
  rw [hz]
  exact this
theorem rlen_none {w w1 : World} {ls : Fs} (hl : ls = []) (hs : Spares nowhere w w1) : RLen ls w (.returned (.slice none 0 0)) w1 := by
  subst hl
  exact ⟨none, 0, rfl, (fun j h => absurd h (Nat.not_lt_zero _)), (fun _ => rfl), hs⟩
set_option maxRecDepth 100000 in
set_option maxHeartbeats 8000000 in
theorem responseLength_any (st : Int) (r method : ByteArray) (fs : Fs) (fa ab : Option Addr) (fc cb n k : Nat) (w : World) (hn : fs.length = n) (hin : FieldsIn w.heap.size w fa fs) (hsm : SmallF fs) (hl : fs.length ≤ 1000) (hk : k ≤ 90000) (hT : TabH w) :
    Calls Tryz.prog 35 #[.agg #[.int .i64 st, .string r, .slice fa n fc, .slice ab k cb], .string method] w (RLen (rspLenG st fs k method) w) := by
  obtain ⟨w0, hw0⟩ : ∃ w0, w.alloc (.cells #[.int .i64 st, .string r, .slice fa n fc, .slice ab k cb] 27) = w0 := ⟨_, rfl⟩
  have hs0 : Spares nowhere w w0 := by rw [← hw0]; exact (Spares.refl _ _).alloc _
  obtain ⟨g, hg⟩ : ∃ g, w.heap.size = g := ⟨_, rfl⟩
  have hb0 : w0.heap[g]? = some (.cells #[.int .i64 st, .string r, .slice fa n fc, .slice ab k cb] 27 (0, 0)) := by rw [← hw0, ← hg]; exact heap_alloc_new _ _
  have y0 : w0.cell? ⟨g, 0, none⟩ = some (.int .i64 st) := (Lib.cell_of_heap hb0 0).trans rfl
  have y2 : w0.cell? ⟨g, 2, none⟩ = some (.slice fa n fc) := (Lib.cell_of_heap hb0 2).trans rfl
  have y3 : w0.cell? ⟨g, 3, none⟩ = some (.slice ab k cb) := (Lib.cell_of_heap hb0 3).trans rfl
  have CLN := lengthField_any k w0 (by omega) (hT.spares hs0 (fun h => h))
  unfold LenFPost nCL at CLN
  have hin0 := FieldsIn.quiet hin (Nat.le_refl _) hs0 hs0.size
  have HGET := Lib.hid (fun v (hv : getF nCL fs = some v) => get_yes (cap := fc) hv hin0 hsm (by omega) (by decide))
  have HNO := Lib.hid (fun (hv : getF nCL fs = none) => get_not (cap := fc) hv hin0 hsm (by omega) (by decide))
  rw [hn] at HGET HNO
  unfold nCL at HGET HNO
  have HG := Lib.hid hg
  have HW0 := Lib.hid hw0
  have HS0 := Lib.hid hs0
  obtain ⟨ls, hls⟩ : ∃ ls, rspLenG st fs k method = ls := ⟨_, rfl⟩
  have HLS := Lib.hid hls
  rw [hls]
  clear hs0 hb0 hg hin hin0 hsm hl hn hT hw0 hls
  cases e1 : (method.toList == [72, 69, 65, 68]) with
  | true =>
    have e2 : (method.toList != [72, 69, 65, 68]) = false := by unfold bne; rw [e1]; rfl
    have HE := Lib.hid e1
    cases hv : getF ⟨#[67, 111, 110, 116, 101, 110, 116, 45, 76, 101, 110, 103, 116, 104]⟩ fs with
    | some v =>
      have CG := HGET.out v hv
      have HL1 : Hid (ls = [(nCL, v)]) := Lib.hid (by
        have h := rspLenG_get (st := st) (fs := fs) (n := k) (method := method) (.inl HE.out)
        rw [show getF nCL fs = some v from hv] at h
        exact HLS.out.symm.trans h)
      clear hv HGET HNO CLN
      go_enter Tryz.func35, Tryz.ntmps35
      go_upto_region 1 with (fail)
      rw [HW0.out, HG.out]
      go_wp2_with fail
      refine CG.mono ?_
      rintro _ w1 ⟨rfl, hb1⟩
      have HS1 := Lib.hid (HS0.out.trans (Below.spares (F := nowhere) hb1 (fun k hk => .inr hk)))
      clear hb1 CG
      go_wp2
      go_ret
      exact rlen_one HL1.out HS1.out
    | none =>
      have CG := HNO.out hv
      have HL1 : Hid (ls = []) := Lib.hid (by
        have h := rspLenG_get (st := st) (fs := fs) (n := k) (method := method) (.inl HE.out)
        rw [show getF nCL fs = none from hv] at h
        exact HLS.out.symm.trans h)
      clear hv HGET HNO CLN
      go_enter Tryz.func35, Tryz.ntmps35
      go_upto_region 1 with (fail)
      rw [HW0.out, HG.out]
      go_wp2_with fail
      refine CG.mono ?_
      rintro _ w1 ⟨rfl, hb1⟩
      have HS1 := Lib.hid (HS0.out.trans (Below.spares (F := nowhere) hb1 (fun k hk => .inr hk)))
      clear hb1 CG
      go_wp2
      go_ret
      exact rlen_none HL1.out HS1.out
  | false =>
    have e2 : (method.toList != [72, 69, 65, 68]) = true := by unfold bne; rw [e1]; rfl
    have HE := Lib.hid e1
    by_cases h304 : st = 304
    · have d1 : (st == 304) = true := by rw [h304]; rfl
      have d2 : (st != 304) = false := by unfold bne; rw [d1]; rfl
      have H304 := Lib.hid h304
      clear h304
      cases hv : getF ⟨#[67, 111, 110, 116, 101, 110, 116, 45, 76, 101, 110, 103, 116, 104]⟩ fs with
      | some v =>
        have CG := HGET.out v hv
        have HL1 : Hid (ls = [(nCL, v)]) := Lib.hid (by
          have h := rspLenG_get (st := st) (fs := fs) (n := k) (method := method) (.inr H304.out)
          rw [show getF nCL fs = some v from hv] at h
          exact HLS.out.symm.trans h)
        clear hv HGET HNO CLN
        go_enter Tryz.func35, Tryz.ntmps35
        go_upto_region 1 with (fail)
        rw [HW0.out, HG.out]
        go_wp2_with fail
        refine CG.mono ?_
        rintro _ w1 ⟨rfl, hb1⟩
        have HS1 := Lib.hid (HS0.out.trans (Below.spares (F := nowhere) hb1 (fun k hk => .inr hk)))
        clear hb1 CG
        go_wp2
        go_ret
        exact rlen_one HL1.out HS1.out
      | none =>
        have CG := HNO.out hv
        have HL1 : Hid (ls = []) := Lib.hid (by
          have h := rspLenG_get (st := st) (fs := fs) (n := k) (method := method) (.inr H304.out)
          rw [show getF nCL fs = none from hv] at h
          exact HLS.out.symm.trans h)
        clear hv HGET HNO CLN
        go_enter Tryz.func35, Tryz.ntmps35
        go_upto_region 1 with (fail)
        rw [HW0.out, HG.out]
        go_wp2_with fail
        refine CG.mono ?_
        rintro _ w1 ⟨rfl, hb1⟩
        have HS1 := Lib.hid (HS0.out.trans (Below.spares (F := nowhere) hb1 (fun k hk => .inr hk)))
        clear hb1 CG
        go_wp2
        go_ret
        exact rlen_none HL1.out HS1.out
    · have d1 : (st == 304) = false := by rw [beq_eq_false_iff_ne]; exact h304
      have d2 : (st != 304) = true := by unfold bne; rw [d1]; rfl
      have HL1 : Hid (ls = [(nCL, itoB k)]) := Lib.hid (by rw [← HLS.out, rspLenG_len HE.out h304])
      clear HGET HNO
      go_enter Tryz.func35, Tryz.ntmps35
      go_upto_region 1 with (fail)
      rw [HW0.out, HG.out]
      go_wp2_with fail
      refine CLN.mono ?_
      rintro _ w1 ⟨rfl, hs1⟩
      have HS1 := Lib.hid (HS0.out.trans hs1)
      clear hs1 CLN
      go_wp2
      go_ret
      exact rlen_one HL1.out HS1.out
theorem lenG_one (st : Int) (fs : Fs) (n : Nat) (method : ByteArray) : (rspLenG st fs n method).length ≤ 1 := by
  unfold rspLenG
  split
  · cases getF nCL fs <;> simp [clOf]
  · simp
theorem lenG_shape (st : Int) (fs : Fs) (n : Nat) (method : ByteArray) : rspLenG st fs n method = [] ∨ rspLenG st fs n method = [(nCL, itoB n)] ∨ ∃ v, rspLenG st fs n method = [(nCL, v)] ∧ getF nCL fs = some v := by
  unfold rspLenG
  split
  · cases h : getF nCL fs with
    | none => exact .inl rfl
    | some v => exact .inr (.inr ⟨v, rfl, rfl⟩)
  · exact .inr (.inl rfl)
theorem getF_mem {n v : ByteArray} {fs : Fs} (h : getF n fs = some v) : ∃ f ∈ fs, f.2 = v := by
  unfold getF at h
  cases hf : fs.find? (isNamed n) with
  | none => rw [hf] at h; cases h
  | some f =>
    rw [hf] at h
    exact ⟨f, List.mem_of_find?_eq_some hf, by simpa using h⟩
theorem fit_one {fs : Fs} {body : Bs} {v : ByteArray} (h : FitM fs body) (hv : v.size ≤ 1000000) (hl : v.size ≤ 9000) : (unframedF fs ++ [(nCL, v)]).length ≤ 1000 ∧ (∀ j (h : j < (unframedF fs ++ [(nCL, v)]).length), (unframedF fs ++ [(nCL, v)])[j].1.size ≤ 1000000 ∧ (unframedF fs ++ [(nCL, v)])[j].2.size ≤ 1000000) ∧ (linesF (unframedF fs ++ [(nCL, v)])).length ≤ 100000 := by
  have h1 := unframed_len fs
  have h2 := unframed_lines fs
  have h3 := h.len
  have h4 := h.lin
  have hz : nCL.size = 14 := rfl
  refine ⟨by rw [List.length_append]; simp; omega, fun j hj => ?_, ?_⟩
  · rcases List.mem_append.1 (List.getElem_mem hj) with hm | hm
    · exact h.sz _ (unframed_mem _ hm)
    · have e : (unframedF fs ++ [(nCL, v)])[j] = (nCL, v) := by simpa using hm
      rw [e]
      exact ⟨by rw [hz]; omega, hv⟩
  · rw [linesF_app, linesF_one, List.length_append]
    have : (HeadS.lineF (nCL, v)).length = nCL.size + v.size + 4 := by
      unfold HeadS.lineF
      simp only [List.length_append, List.length_cons, List.length_nil, size_list]
      omega
    rw [this, hz]
    omega
theorem fit_rsp {fs : Fs} {body : Bs} {n : Nat} (h : FitM fs body) (hn : n ≤ 100000) (st : Int) (method : ByteArray) : (unframedF fs ++ rspLenF st fs n method).length ≤ 1000 ∧ (∀ j (h : j < (unframedF fs ++ rspLenF st fs n method).length), (unframedF fs ++ rspLenF st fs n method)[j].1.size ≤ 1000000 ∧ (unframedF fs ++ rspLenF st fs n method)[j].2.size ≤ 1000000) ∧ (linesF (unframedF fs ++ rspLenF st fs n method)).length ≤ 100000 := by
  have key : ∀ l : Fs, (l = [] ∨ l = [(nCL, itoB n)] ∨ ∃ v, l = [(nCL, v)] ∧ getF nCL fs = some v) → (unframedF fs ++ l).length ≤ 1000 ∧ (∀ j (h : j < (unframedF fs ++ l).length), (unframedF fs ++ l)[j].1.size ≤ 1000000 ∧ (unframedF fs ++ l)[j].2.size ≤ 1000000) ∧ (linesF (unframedF fs ++ l)).length ≤ 100000 := by
    intro l hl
    rcases hl with hl | hl | ⟨v, rfl, hv⟩
    · exact fit_len h hn l (.inl hl)
    · exact fit_len h hn l (.inr hl)
    · obtain ⟨f, hf, rfl⟩ := getF_mem hv
      have := h.val f hf
      exact fit_one h (by omega) this
  refine key _ ?_
  rw [rspLenF_eq]
  split
  · exact .inl rfl
  · exact lenG_shape _ _ _ _
set_option maxRecDepth 100000 in
set_option maxHeartbeats 16000000 in
theorem responseBytes_any (st : Int) (reason method : ByteArray) (fs : Fs) (body : Bs) (fa ab : Option Addr) (fc cb n k : Nat) (w : World) (h0 : -9223372036854775808 ≤ st) (h1 : st ≤ 9223372036854775807) (hn : fs.length = n) (hk : body.length = k) (hin : FieldsIn w.heap.size w fa fs) (hat : BytesAt w ab body) (hnil : ab = none → cb = 0) (hr : reason.size ≤ 4000) (hfit : FitM fs body) (hT : TabH w) :
    Calls Tryz.prog 15 #[.agg #[.int .i64 st, .string reason, .slice fa n fc, .slice ab k cb], .string method] w (MsgPost (rspTextF st reason fs body method) w) := by
  obtain ⟨w0, hw0⟩ : ∃ w0, w.alloc (.cells #[.int .i64 st, .string reason, .slice fa n fc, .slice ab k cb] 27) = w0 := ⟨_, rfl⟩
  have hs0 : Spares nowhere w w0 := by rw [← hw0]; exact (Spares.refl _ _).alloc _
  obtain ⟨g, hg⟩ : ∃ g, w.heap.size = g := ⟨_, rfl⟩
  have hb0 : w0.heap[g]? = some (.cells #[.int .i64 st, .string reason, .slice fa n fc, .slice ab k cb] 27 (0, 0)) := by rw [← hw0, ← hg]; exact heap_alloc_new _ _
  have hin0 := FieldsIn.quiet hin (Nat.le_refl _) hs0 hs0.size
  have CU := unframed_any fs fa fc n w0 hn.symm hin0 hfit.small (by have := hfit.len; omega)
  obtain ⟨us, hus⟩ : ∃ us, unframedF fs = us := ⟨_, rfl⟩
  rw [hus] at CU
  unfold FieldPost at CU
  have hkk : k ≤ 90000 := by have := hfit.bod; omega
  have CRL : Hid (∀ W, Spares nowhere w W → Calls Tryz.prog 35 #[.agg #[.int .i64 st, .string reason, .slice fa n fc, .slice ab k cb], .string method] W (RLen (rspLenG st fs k method) W)) := Lib.hid (fun W h => responseLength_any st reason method fs fa ab fc cb n k W hn (FieldsIn.quiet hin (Nat.le_refl _) h h.size) hfit.small (by have := hfit.len; omega) hkk (hT.spares h (fun h => h)))
  have CDG : Hid (∀ W, Spares nowhere w W → Calls Tryz.prog 36 #[.int .i64 st] W (DigPost (stat3 st) W)) := Lib.hid (fun W h => digits_any st W h0 h1 (hT.spares h (fun h => h)))
  unfold DigPost at CDG
  obtain ⟨DG, hDG⟩ : ∃ DG : ByteArray, (⟨(digs (stat3 st)).toArray⟩ : ByteArray) = DG := ⟨_, rfl⟩
  rw [hDG] at CDG
  have hDs : DG.size = 3 := by rw [← hDG]; rfl
  have zv : ({ data := #[72, 84, 84, 80, 47, 49, 46, 49, 32] } : ByteArray).size = 9 := rfl
  have z1 : ({ data := #[32] } : ByteArray).size = 1 := rfl
  obtain ⟨A1, hA1⟩ : ∃ A : ByteArray, ({ data := #[72, 84, 84, 80, 47, 49, 46, 49, 32] } : ByteArray) ++ DG = A := ⟨_, rfl⟩
  have zA1 : A1.size = 12 := by rw [← hA1, ByteArray.size_append, zv, hDs]
  obtain ⟨A2, hA2⟩ : ∃ A : ByteArray, A1 ++ ({ data := #[32] } : ByteArray) = A := ⟨_, rfl⟩
  have zA2 : A2.size = 13 := by rw [← hA2, ByteArray.size_append, zA1, z1]
  obtain ⟨A3, hA3⟩ : ∃ A : ByteArray, A2 ++ reason = A := ⟨_, rfl⟩
  have zA3 : A3.size ≤ 10000 := by rw [← hA3, ByteArray.size_append, zA2]; omega
  have r1 : ∀ w, (Op.stringOp .add ⟨#[72, 84, 84, 80, 47, 49, 46, 49, 32]⟩ DG).run Tryz.prog w = .ok (.string A1) w := fun w => hA1 ▸ run_string_add_sum w _ _ (by omega)
  have r2 : ∀ w, (Op.stringOp .add A1 ⟨#[32]⟩).run Tryz.prog w = .ok (.string A2) w := fun w => hA2 ▸ run_string_add_sum w _ _ (by omega)
  have r3 : ∀ w, (Op.stringOp .add A2 reason).run Tryz.prog w = .ok (.string A3) w := fun w => hA3 ▸ run_string_add_sum w _ _ (by omega)
  have HAD : Hid (A3.data.toList = respL (stat3 st) reason.data.toList) := Lib.hid (by
    rw [← hA3, ← hA2, ← hA1, ← hDG, ByteArray.data_append, ByteArray.data_append, ByteArray.data_append]
    unfold respL http11
    simp)
  have HR1 := Lib.hid r1
  have HR2 := Lib.hid r2
  have HR3 := Lib.hid r3
  have HZ3 : ¬ 9223372036854775807 < A2.size + reason.size := by omega
  obtain ⟨bb, hbb⟩ : ∃ bb, bodilessF st method = bb := ⟨_, rfl⟩
  have CB := fun W => bodiless_any st method W
  rw [hbb] at CB
  have HBB := Lib.hid hbb
  have HUS := Lib.hid hus
  have HB0 := Lib.hid hb0
  have HS0 := Lib.hid hs0
  have HG := Lib.hid hg
  have HW0 := Lib.hid hw0
  have HK := Lib.hid hk
  have HAT := Lib.hid hat
  have HNIL := Lib.hid hnil
  have HFIT := Lib.hid hfit
  have y0 : w0.cell? ⟨g, 0, none⟩ = some (.int .i64 st) := (Lib.cell_of_heap hb0 0).trans rfl
  have y2 : w0.cell? ⟨g, 2, none⟩ = some (.slice fa n fc) := (Lib.cell_of_heap hb0 2).trans rfl
  clear hin hin0 hat hnil hfit hT hb0 hs0 hg hus hk hn hw0 hbb r1 r2 r3 hDG hA1 hA2 hA3
  by_cases h204 : st = 204
  · have e204 : (st != 204) = false := by rw [h204]; rfl
    have e204' : (st == 204) = true := by rw [h204]; rfl
    have H204 := Lib.hid h204
    obtain rfl : bb = true := by rw [← HBB.out, h204]; unfold bodilessF; simp
    clear h204
    go_enter Tryz.func15, Tryz.ntmps15
    go_upto_region 1 with (fail)
    rw [HW0.out, HG.out]
    go_wp2_with fail
    refine CU.mono ?_
    rintro _ w1 ⟨v, rfl, hown, hb1⟩
    have hs1 : Spares nowhere w0 w1 := Below.spares hb1 (fun k hk => .inr hk)
    have HO := Lib.hid hown
    have HS1 := Lib.hid hs1
    have HB1 := Lib.hid (hs1.heap HB0.out (fun h => h))
    have u0 : w1.cell? ⟨g, 0, none⟩ = some (.int .i64 st) := (Lib.cell_of_heap HB1.out 0).trans rfl
    have u1 : w1.cell? ⟨g, 1, none⟩ = some (.string reason) := (Lib.cell_of_heap HB1.out 1).trans rfl
    have u2 : w1.cell? ⟨g, 2, none⟩ = some (.slice fa n fc) := (Lib.cell_of_heap HB1.out 2).trans rfl
    have u3 : w1.cell? ⟨g, 3, none⟩ = some (.slice ab k cb) := (Lib.cell_of_heap HB1.out 3).trans rfl
    clear hown hb1 hs1 CU
    obtain ⟨ls, hls⟩ : ∃ ls, us = ls := ⟨_, rfl⟩
    have HLS : Hid (ls = unframedF fs ++ rspLenF st fs k method) := Lib.hid (by rw [← hls, HUS.out, rspLenF_eq, if_pos (.inl H204.out)]; rw [List.append_nil])
    obtain ⟨f1, f2, f3⟩ : ls.length ≤ 1000 ∧ (∀ j (h : j < ls.length), ls[j].1.size ≤ 1000000 ∧ ls[j].2.size ≤ 1000000) ∧ (linesF ls).length ≤ 100000 := by
      rw [HLS.out]
      exact fit_rsp HFIT.out (by omega) st method
    have hown := HO.out
    rw [hls] at hown
    obtain ⟨fa4, fc4, hv4, hfi4⟩ := rowF_shape hown
    subst hv4
    have HWW : Hid (Spares nowhere w w1) := Lib.hid (HS0.out.trans HS1.out)
    have CMS : Hid (∀ x, Below w1.heap.size w1 x → Calls Tryz.prog 31 #[.string A3, .slice fa4 ls.length fc4, .slice none 0 0] x fun e w' => ∃ v, e = .returned v ∧ Hid (MsgPost (rspTextF st reason fs body method) w (.returned v) w') ∧ Below w1.heap.size w1 w') := Lib.hid (fun x hx => by
      have hsx : Spares nowhere w1 x := Below.spares hx (fun k hk => .inr hk)
      refine (message_any A3 ls [] fa4 none fc4 0 ls.length 0 x rfl rfl (FieldsIn.quiet hfi4 (Nat.le_refl _) hsx hsx.size) (fun j hj => absurd hj (Nat.not_lt_zero _)) (fun _ => rfl) zA3 (by omega) f2 f3 (by simp)).mono ?_
      intro e w' hM
      have hM2 := msg_up hM (HWW.out.trans hsx) (T' := rspTextF st reason fs body method) (by unfold rspTextF rspBody; rw [HAD.out, HLS.out, HK.out, HBB.out]; rfl)
      obtain ⟨v, rfl, hv⟩ := hM
      exact ⟨v, rfl, Lib.hid hM2, hx.trans (hv.2.below0.mono hx.size)⟩)
    have CDS : Hid (∀ x, Below w1.heap.size w1 x → Calls Tryz.prog 36 #[.int .i64 st] x fun e w' => e = .returned (.string DG) ∧ Below w1.heap.size w1 w') := Lib.hid (fun x hx => by
      have hsx : Spares nowhere w1 x := Below.spares hx (fun k hk => .inr hk)
      exact (CDG.out x (HWW.out.trans hsx)).mono fun e w' ⟨he, hs⟩ => ⟨he, hx.trans (hs.below0.mono hx.size)⟩)
    have HSEE : Hid (∀ x, Below w1.heap.size w1 x → x.cell? ⟨g, 0, none⟩ = some (.int .i64 st) ∧ x.cell? ⟨g, 1, none⟩ = some (.string reason)) := Lib.hid (fun x hx => by
      have hsx : Spares nowhere w1 x := Below.spares hx (fun k hk => .inr hk)
      have hbx := hsx.heap HB1.out (fun h => h)
      exact ⟨(Lib.cell_of_heap hbx 0).trans rfl, (Lib.cell_of_heap hbx 1).trans rfl⟩)
    have hbd : Below w1.heap.size w1 w1.drew := (Below.refl _ _).drew
    clear hown hfi4 hls f1 f2 f3 CDG
    have r1 := HR1.out
    have r2 := HR2.out
    have r3 := HR3.out
    go_wp2_with fail
    refine (CB _).mono ?_
    rintro _ wb ⟨rfl, hwb⟩
    subst hwb
    go_wp2
    go_region_held3 (fun x => x.cell? ⟨g, 0, none⟩ = some (.int .i64 st) ∧ x.cell? ⟨g, 1, none⟩ = some (.string reason))
      (first | exact HSEE.out _ (by assumption) | go_keep)
      (first
        | (go_simp
           go_at_call 36
           (with_reducible refine Calls.mono (CDS.out _ (by assumption)) ?_)
           rintro e wn ⟨rfl, hbn⟩)
        | (go_simp
           go_at_call 31
           (with_reducible refine Calls.mono (CMS.out _ (by assumption)) ?_)
           rintro e wm ⟨vm, rfl, hM, hbm⟩)
        | fail)
    go_wp2
    go_ret
    exact hM.out
  · have e204 : (st != 204) = true := by rw [bne_iff_ne]; exact h204
    have e204' : (st == 204) = false := by rw [beq_eq_false_iff_ne]; exact h204
    by_cases h200 : st < 200
    · have H200 := Lib.hid h200
      have d0 : ¬ (200 : Int) ≤ st := by omega
      obtain rfl : bb = true := by rw [← HBB.out]; unfold bodilessF; simp [h200]
      go_enter Tryz.func15, Tryz.ntmps15
      go_upto_region 1 with (fail)
      rw [HW0.out, HG.out]
      go_wp2_with fail
      refine CU.mono ?_
      rintro _ w1 ⟨v, rfl, hown, hb1⟩
      have hs1 : Spares nowhere w0 w1 := Below.spares hb1 (fun k hk => .inr hk)
      have HO := Lib.hid hown
      have HS1 := Lib.hid hs1
      have HB1 := Lib.hid (hs1.heap HB0.out (fun h => h))
      have u0 : w1.cell? ⟨g, 0, none⟩ = some (.int .i64 st) := (Lib.cell_of_heap HB1.out 0).trans rfl
      have u1 : w1.cell? ⟨g, 1, none⟩ = some (.string reason) := (Lib.cell_of_heap HB1.out 1).trans rfl
      have u2 : w1.cell? ⟨g, 2, none⟩ = some (.slice fa n fc) := (Lib.cell_of_heap HB1.out 2).trans rfl
      have u3 : w1.cell? ⟨g, 3, none⟩ = some (.slice ab k cb) := (Lib.cell_of_heap HB1.out 3).trans rfl
      clear hown hb1 hs1 CU
      obtain ⟨ls, hls⟩ : ∃ ls, us = ls := ⟨_, rfl⟩
      have HLS : Hid (ls = unframedF fs ++ rspLenF st fs k method) := Lib.hid (by rw [← hls, HUS.out, rspLenF_eq, if_pos (.inr H200.out)]; rw [List.append_nil])
      obtain ⟨f1, f2, f3⟩ : ls.length ≤ 1000 ∧ (∀ j (h : j < ls.length), ls[j].1.size ≤ 1000000 ∧ ls[j].2.size ≤ 1000000) ∧ (linesF ls).length ≤ 100000 := by
        rw [HLS.out]
        exact fit_rsp HFIT.out (by omega) st method
      have hown := HO.out
      rw [hls] at hown
      obtain ⟨fa4, fc4, hv4, hfi4⟩ := rowF_shape hown
      subst hv4
      have HWW : Hid (Spares nowhere w w1) := Lib.hid (HS0.out.trans HS1.out)
      have CMS : Hid (∀ x, Below w1.heap.size w1 x → Calls Tryz.prog 31 #[.string A3, .slice fa4 ls.length fc4, .slice none 0 0] x fun e w' => ∃ v, e = .returned v ∧ Hid (MsgPost (rspTextF st reason fs body method) w (.returned v) w') ∧ Below w1.heap.size w1 w') := Lib.hid (fun x hx => by
        have hsx : Spares nowhere w1 x := Below.spares hx (fun k hk => .inr hk)
        refine (message_any A3 ls [] fa4 none fc4 0 ls.length 0 x rfl rfl (FieldsIn.quiet hfi4 (Nat.le_refl _) hsx hsx.size) (fun j hj => absurd hj (Nat.not_lt_zero _)) (fun _ => rfl) zA3 (by omega) f2 f3 (by simp)).mono ?_
        intro e w' hM
        have hM2 := msg_up hM (HWW.out.trans hsx) (T' := rspTextF st reason fs body method) (by unfold rspTextF rspBody; rw [HAD.out, HLS.out, HK.out, HBB.out]; rfl)
        obtain ⟨v, rfl, hv⟩ := hM
        exact ⟨v, rfl, Lib.hid hM2, hx.trans (hv.2.below0.mono hx.size)⟩)
      have CDS : Hid (∀ x, Below w1.heap.size w1 x → Calls Tryz.prog 36 #[.int .i64 st] x fun e w' => e = .returned (.string DG) ∧ Below w1.heap.size w1 w') := Lib.hid (fun x hx => by
        have hsx : Spares nowhere w1 x := Below.spares hx (fun k hk => .inr hk)
        exact (CDG.out x (HWW.out.trans hsx)).mono fun e w' ⟨he, hs⟩ => ⟨he, hx.trans (hs.below0.mono hx.size)⟩)
      have HSEE : Hid (∀ x, Below w1.heap.size w1 x → x.cell? ⟨g, 0, none⟩ = some (.int .i64 st) ∧ x.cell? ⟨g, 1, none⟩ = some (.string reason)) := Lib.hid (fun x hx => by
        have hsx : Spares nowhere w1 x := Below.spares hx (fun k hk => .inr hk)
        have hbx := hsx.heap HB1.out (fun h => h)
        exact ⟨(Lib.cell_of_heap hbx 0).trans rfl, (Lib.cell_of_heap hbx 1).trans rfl⟩)
      have hbd : Below w1.heap.size w1 w1.drew := (Below.refl _ _).drew
      clear hown hfi4 hls f1 f2 f3 CDG
      have r1 := HR1.out
      have r2 := HR2.out
      have r3 := HR3.out
      go_wp2_with fail
      refine (CB _).mono ?_
      rintro _ wb ⟨rfl, hwb⟩
      subst hwb
      go_wp2
      go_region_held3 (fun x => x.cell? ⟨g, 0, none⟩ = some (.int .i64 st) ∧ x.cell? ⟨g, 1, none⟩ = some (.string reason))
        (first | exact HSEE.out _ (by assumption) | go_keep)
        (first
          | (go_simp
             go_at_call 36
             (with_reducible refine Calls.mono (CDS.out _ (by assumption)) ?_)
             rintro e wn ⟨rfl, hbn⟩)
          | (go_simp
             go_at_call 31
             (with_reducible refine Calls.mono (CMS.out _ (by assumption)) ?_)
             rintro e wm ⟨vm, rfl, hM, hbm⟩)
          | fail)
      go_wp2
      go_ret
      exact hM.out
    · have H200 := Lib.hid h200
      have H204 := Lib.hid h204
      have d0 : (200 : Int) ≤ st := by omega
      cases bb with
      | true =>
        go_enter Tryz.func15, Tryz.ntmps15
        go_upto_region 1 with (fail)
        rw [HW0.out, HG.out]
        go_wp2_with fail
        refine CU.mono ?_
        rintro _ w1 ⟨v, rfl, hown, hb1⟩
        have hs1 : Spares nowhere w0 w1 := Below.spares hb1 (fun k hk => .inr hk)
        have HO := Lib.hid hown
        have HS1 := Lib.hid hs1
        have HB1 := Lib.hid (hs1.heap HB0.out (fun h => h))
        have u0 : w1.cell? ⟨g, 0, none⟩ = some (.int .i64 st) := (Lib.cell_of_heap HB1.out 0).trans rfl
        have u1 : w1.cell? ⟨g, 1, none⟩ = some (.string reason) := (Lib.cell_of_heap HB1.out 1).trans rfl
        have u2 : w1.cell? ⟨g, 2, none⟩ = some (.slice fa n fc) := (Lib.cell_of_heap HB1.out 2).trans rfl
        have u3 : w1.cell? ⟨g, 3, none⟩ = some (.slice ab k cb) := (Lib.cell_of_heap HB1.out 3).trans rfl
        clear hown hb1 hs1 CU
        go_wp2_with fail
        refine (CRL.out w1 (HS0.out.trans HS1.out)).mono ?_
        rintro _ w2 ⟨a2, c2, rfl, hfi2, hnil2, hs2⟩
        have HFI2 := Lib.hid hfi2
        have HNIL2 := Lib.hid hnil2
        have HS2 := Lib.hid hs2
        have HO2 := Lib.hid (hs2.own HO.out (fun _ _ h => h))
        have HL2 : Hid (us.length + (rspLenG st fs k method).length ≤ 1000000000) := Lib.hid (by
          have h1 := unframed_len fs
          rw [HUS.out] at h1
          have := HFIT.out.len
          have h3 : (rspLenG st fs k method).length ≤ 1 := lenG_one _ _ _ _
          omega)
        obtain ⟨m2, hm2⟩ : ∃ m, (rspLenG st fs k method).length = m := ⟨_, rfl⟩
        rw [hm2]
        have HM2 := Lib.hid hm2
        clear hfi2 hnil2 hs2 hm2 CRL
        go_wp2_with (at_builtin; refine wpList_append_fields rfl _ _ rfl w0.heap.size _ v us rfl HO2.out (HS1.out.trans HS2.out).size a2 c2 m2 _ rfl HM2.out.symm HFI2.out HNIL2.out HL2.out ?_)
        intro v4 w4 hown4 hg4
        have hs4 : Spares nowhere w0 w4 := (HS1.out.trans HS2.out).grown hg4 (fun k hk => .inr (World.ownsRow.lt HO2.out k hk).1)
        have HB4 := Lib.hid (hs4.heap HB0.out (fun h => h))
        have u0 : w4.cell? ⟨g, 0, none⟩ = some (.int .i64 st) := (Lib.cell_of_heap HB4.out 0).trans rfl
        have u1 : w4.cell? ⟨g, 1, none⟩ = some (.string reason) := (Lib.cell_of_heap HB4.out 1).trans rfl
        have u3 : w4.cell? ⟨g, 3, none⟩ = some (.slice ab k cb) := (Lib.cell_of_heap HB4.out 3).trans rfl
        have HOW := Lib.hid hown4
        have HS4 := Lib.hid hs4
        clear hown4 hg4 hs4
        obtain ⟨ls, hls⟩ : ∃ ls, us ++ rspLenG st fs k method = ls := ⟨_, rfl⟩
        have HLS : Hid (ls = unframedF fs ++ rspLenF st fs k method) := Lib.hid (by rw [← hls, HUS.out, rspLenF_eq, if_neg (by rintro (h | h); exact H204.out h; have := H200.out; omega)])
        obtain ⟨f1, f2, f3⟩ : ls.length ≤ 1000 ∧ (∀ j (h : j < ls.length), ls[j].1.size ≤ 1000000 ∧ ls[j].2.size ≤ 1000000) ∧ (linesF ls).length ≤ 100000 := by
          rw [HLS.out]
          exact fit_rsp HFIT.out (by omega) st method
        have hown := HOW.out
        rw [hls] at hown
        rw [show us.length + (rspLenG st fs k method).length = ls.length from by rw [← hls]; simp] at hown
        obtain ⟨fa4, fc4, hv4, hfi4⟩ := rowF_shape hown
        subst hv4
        have HWW : Hid (Spares nowhere w w4) := Lib.hid (HS0.out.trans HS4.out)
        have CMS : Hid (∀ x, Below w4.heap.size w4 x → Calls Tryz.prog 31 #[.string A3, .slice fa4 ls.length fc4, .slice none 0 0] x fun e w' => ∃ v, e = .returned v ∧ Hid (MsgPost (rspTextF st reason fs body method) w (.returned v) w') ∧ Below w4.heap.size w4 w') := Lib.hid (fun x hx => by
          have hsx : Spares nowhere w4 x := Below.spares hx (fun k hk => .inr hk)
          refine (message_any A3 ls [] fa4 none fc4 0 ls.length 0 x rfl rfl (FieldsIn.quiet hfi4 (Nat.le_refl _) hsx hsx.size) (fun j hj => absurd hj (Nat.not_lt_zero _)) (fun _ => rfl) zA3 (by omega) f2 f3 (by simp)).mono ?_
          intro e w' hM
          have hM2 := msg_up hM (HWW.out.trans hsx) (T' := rspTextF st reason fs body method) (by unfold rspTextF rspBody; rw [HAD.out, HLS.out, HK.out, HBB.out]; rfl)
          obtain ⟨v, rfl, hv⟩ := hM
          exact ⟨v, rfl, Lib.hid hM2, hx.trans (hv.2.below0.mono hx.size)⟩)
        have CDS : Hid (∀ x, Below w4.heap.size w4 x → Calls Tryz.prog 36 #[.int .i64 st] x fun e w' => e = .returned (.string DG) ∧ Below w4.heap.size w4 w') := Lib.hid (fun x hx => by
          have hsx : Spares nowhere w4 x := Below.spares hx (fun k hk => .inr hk)
          exact (CDG.out x (HWW.out.trans hsx)).mono fun e w' ⟨he, hs⟩ => ⟨he, hx.trans (hs.below0.mono hx.size)⟩)
        have HSEE : Hid (∀ x, Below w4.heap.size w4 x → x.cell? ⟨g, 0, none⟩ = some (.int .i64 st) ∧ x.cell? ⟨g, 1, none⟩ = some (.string reason)) := Lib.hid (fun x hx => by
          have hsx : Spares nowhere w4 x := Below.spares hx (fun k hk => .inr hk)
          have hbx := hsx.heap HB4.out (fun h => h)
          exact ⟨(Lib.cell_of_heap hbx 0).trans rfl, (Lib.cell_of_heap hbx 1).trans rfl⟩)
        have hbd : Below w4.heap.size w4 w4.drew := (Below.refl _ _).drew
        clear hown hfi4 hls f1 f2 f3 CDG
        have r1 := HR1.out
        have r2 := HR2.out
        have r3 := HR3.out
        go_wp2_with fail
        refine (CB _).mono ?_
        rintro _ wb ⟨rfl, hwb⟩
        subst hwb
        go_wp2
        go_region_held3 (fun x => x.cell? ⟨g, 0, none⟩ = some (.int .i64 st) ∧ x.cell? ⟨g, 1, none⟩ = some (.string reason))
          (first | exact HSEE.out _ (by assumption) | go_keep)
          (first
            | (go_simp
               go_at_call 36
               (with_reducible refine Calls.mono (CDS.out _ (by assumption)) ?_)
               rintro e wn ⟨rfl, hbn⟩)
            | (go_simp
               go_at_call 31
               (with_reducible refine Calls.mono (CMS.out _ (by assumption)) ?_)
               rintro e wm ⟨vm, rfl, hM, hbm⟩)
            | fail)
        go_wp2
        go_ret
        exact hM.out
      | false =>
        go_enter Tryz.func15, Tryz.ntmps15
        go_upto_region 1 with (fail)
        rw [HW0.out, HG.out]
        go_wp2_with fail
        refine CU.mono ?_
        rintro _ w1 ⟨v, rfl, hown, hb1⟩
        have hs1 : Spares nowhere w0 w1 := Below.spares hb1 (fun k hk => .inr hk)
        have HO := Lib.hid hown
        have HS1 := Lib.hid hs1
        have HB1 := Lib.hid (hs1.heap HB0.out (fun h => h))
        have u0 : w1.cell? ⟨g, 0, none⟩ = some (.int .i64 st) := (Lib.cell_of_heap HB1.out 0).trans rfl
        have u1 : w1.cell? ⟨g, 1, none⟩ = some (.string reason) := (Lib.cell_of_heap HB1.out 1).trans rfl
        have u2 : w1.cell? ⟨g, 2, none⟩ = some (.slice fa n fc) := (Lib.cell_of_heap HB1.out 2).trans rfl
        have u3 : w1.cell? ⟨g, 3, none⟩ = some (.slice ab k cb) := (Lib.cell_of_heap HB1.out 3).trans rfl
        clear hown hb1 hs1 CU
        go_wp2_with fail
        refine (CRL.out w1 (HS0.out.trans HS1.out)).mono ?_
        rintro _ w2 ⟨a2, c2, rfl, hfi2, hnil2, hs2⟩
        have HFI2 := Lib.hid hfi2
        have HNIL2 := Lib.hid hnil2
        have HS2 := Lib.hid hs2
        have HO2 := Lib.hid (hs2.own HO.out (fun _ _ h => h))
        have HL2 : Hid (us.length + (rspLenG st fs k method).length ≤ 1000000000) := Lib.hid (by
          have h1 := unframed_len fs
          rw [HUS.out] at h1
          have := HFIT.out.len
          have h3 : (rspLenG st fs k method).length ≤ 1 := lenG_one _ _ _ _
          omega)
        obtain ⟨m2, hm2⟩ : ∃ m, (rspLenG st fs k method).length = m := ⟨_, rfl⟩
        rw [hm2]
        have HM2 := Lib.hid hm2
        clear hfi2 hnil2 hs2 hm2 CRL
        go_wp2_with (at_builtin; refine wpList_append_fields rfl _ _ rfl w0.heap.size _ v us rfl HO2.out (HS1.out.trans HS2.out).size a2 c2 m2 _ rfl HM2.out.symm HFI2.out HNIL2.out HL2.out ?_)
        intro v4 w4 hown4 hg4
        have hs4 : Spares nowhere w0 w4 := (HS1.out.trans HS2.out).grown hg4 (fun k hk => .inr (World.ownsRow.lt HO2.out k hk).1)
        have HB4 := Lib.hid (hs4.heap HB0.out (fun h => h))
        have u0 : w4.cell? ⟨g, 0, none⟩ = some (.int .i64 st) := (Lib.cell_of_heap HB4.out 0).trans rfl
        have u1 : w4.cell? ⟨g, 1, none⟩ = some (.string reason) := (Lib.cell_of_heap HB4.out 1).trans rfl
        have u3 : w4.cell? ⟨g, 3, none⟩ = some (.slice ab k cb) := (Lib.cell_of_heap HB4.out 3).trans rfl
        have HOW := Lib.hid hown4
        have HS4 := Lib.hid hs4
        clear hown4 hg4 hs4
        obtain ⟨ls, hls⟩ : ∃ ls, us ++ rspLenG st fs k method = ls := ⟨_, rfl⟩
        have HLS : Hid (ls = unframedF fs ++ rspLenF st fs k method) := Lib.hid (by rw [← hls, HUS.out, rspLenF_eq, if_neg (by rintro (h | h); exact H204.out h; have := H200.out; omega)])
        obtain ⟨f1, f2, f3⟩ : ls.length ≤ 1000 ∧ (∀ j (h : j < ls.length), ls[j].1.size ≤ 1000000 ∧ ls[j].2.size ≤ 1000000) ∧ (linesF ls).length ≤ 100000 := by
          rw [HLS.out]
          exact fit_rsp HFIT.out (by omega) st method
        have hown := HOW.out
        rw [hls] at hown
        rw [show us.length + (rspLenG st fs k method).length = ls.length from by rw [← hls]; simp] at hown
        obtain ⟨fa4, fc4, hv4, hfi4⟩ := rowF_shape hown
        subst hv4
        have HWW : Hid (Spares nowhere w w4) := Lib.hid (HS0.out.trans HS4.out)
        have CMS : Hid (∀ x, Below w4.heap.size w4 x → Calls Tryz.prog 31 #[.string A3, .slice fa4 ls.length fc4, .slice ab k cb] x fun e w' => ∃ v, e = .returned v ∧ Hid (MsgPost (rspTextF st reason fs body method) w (.returned v) w') ∧ Below w4.heap.size w4 w') := Lib.hid (fun x hx => by
          have hsx : Spares nowhere w4 x := Below.spares hx (fun k hk => .inr hk)
          refine (message_any A3 ls body fa4 ab fc4 cb ls.length k x rfl HK.out (FieldsIn.quiet hfi4 (Nat.le_refl _) hsx hsx.size) (HAT.out.spares' (HWW.out.trans hsx) (fun _ _ _ _ h => h)) HNIL.out zA3 (by omega) f2 f3 (by have := HFIT.out.bod; omega)).mono ?_
          intro e w' hM
          have hM2 := msg_up hM (HWW.out.trans hsx) (T' := rspTextF st reason fs body method) (by unfold rspTextF rspBody; rw [HAD.out, HLS.out, HK.out, HBB.out]; rfl)
          obtain ⟨v, rfl, hv⟩ := hM
          exact ⟨v, rfl, Lib.hid hM2, hx.trans (hv.2.below0.mono hx.size)⟩)
        have CDS : Hid (∀ x, Below w4.heap.size w4 x → Calls Tryz.prog 36 #[.int .i64 st] x fun e w' => e = .returned (.string DG) ∧ Below w4.heap.size w4 w') := Lib.hid (fun x hx => by
          have hsx : Spares nowhere w4 x := Below.spares hx (fun k hk => .inr hk)
          exact (CDG.out x (HWW.out.trans hsx)).mono fun e w' ⟨he, hs⟩ => ⟨he, hx.trans (hs.below0.mono hx.size)⟩)
        have HSEE : Hid (∀ x, Below w4.heap.size w4 x → x.cell? ⟨g, 0, none⟩ = some (.int .i64 st) ∧ x.cell? ⟨g, 1, none⟩ = some (.string reason)) := Lib.hid (fun x hx => by
          have hsx : Spares nowhere w4 x := Below.spares hx (fun k hk => .inr hk)
          have hbx := hsx.heap HB4.out (fun h => h)
          exact ⟨(Lib.cell_of_heap hbx 0).trans rfl, (Lib.cell_of_heap hbx 1).trans rfl⟩)
        have hbd : Below w4.heap.size w4 w4.drew := (Below.refl _ _).drew
        clear hown hfi4 hls f1 f2 f3 CDG
        have r1 := HR1.out
        have r2 := HR2.out
        have r3 := HR3.out
        go_wp2_with fail
        refine (CB _).mono ?_
        rintro _ wb ⟨rfl, hwb⟩
        subst hwb
        go_wp2
        go_region_held3 (fun x => x.cell? ⟨g, 0, none⟩ = some (.int .i64 st) ∧ x.cell? ⟨g, 1, none⟩ = some (.string reason))
          (first | exact HSEE.out _ (by assumption) | go_keep)
          (first
            | (go_simp
               go_at_call 36
               (with_reducible refine Calls.mono (CDS.out _ (by assumption)) ?_)
               rintro e wn ⟨rfl, hbn⟩)
            | (go_simp
               go_at_call 31
               (with_reducible refine Calls.mono (CMS.out _ (by assumption)) ?_)
               rintro e wm ⟨vm, rfl, hM, hbm⟩)
            | fail)
        go_wp2
        go_ret
        exact hM.out
end Go.Proofs.YtjpmofnnjdhamaaGreatDoor
namespace Go.Proofs.YtjpmofnnjdhamaaGreatDoor
open Go.RowKit HeadMath NormMath NormS HeadS ChunkMath HttpMath

theorem fit_msg {body : Bs} (hb : body.length ≤ 1000) : ∀ (l : Fs), (∀ f ∈ l, f.1.size ≤ 300 ∧ f.2.size ≤ 300) → (10 :: (linesF l ++ (13 :: 10 :: body))).length ≤ 60000 → FitL (10 :: (linesF l ++ (13 :: 10 :: body)))
  | [], _, h => by
    have e : linesF [] = [] := rfl
    rw [e, List.nil_append] at h ⊢
    exact fitL_seg [10] (by simp) (fitL_short (by simp; omega)) h
  | f :: l, hs, h => by
    have e : linesF (f :: l) = HeadS.lineF f ++ linesF l := by unfold linesF; rw [List.flatMap_cons]
    have e2 : (10 : UInt8) :: (linesF (f :: l) ++ (13 :: 10 :: body)) = (10 :: (f.1.data.toList ++ ([58, 32] ++ f.2.data.toList))) ++ 13 :: (10 :: (linesF l ++ (13 :: 10 :: body))) := by
      rw [e]
      unfold HeadS.lineF
      simp
    have h1 := hs f (by simp)
    rw [e2] at h ⊢
    refine fitL_seg _ ?_ (fit_msg hb l (fun g hg => hs g (by simp [hg])) ?_) h
    · simp only [List.length_append, List.length_cons, List.length_nil, size_list]; omega
    · rw [List.length_append, List.length_cons (a := (13 : UInt8))] at h
      omega
theorem fit_rest {T : Bs} (h : FitL T) : ∀ ls rest, headF T = .ok (ls, rest) → FitL rest := fun ls rest hH => by
  obtain ⟨p, hb, _⟩ := headF_split hH
  have := fitL_drop h p.length
  rw [hb, List.drop_left] at this
  exact this
/-- Few fields of few bytes. -/
theorem few_fit {fs : Fs} {body : Bs} (h : fewF fs) (hb : body.length ≤ 1000) : FitM fs body := by
  have hz : ∀ f ∈ fs, f.1.size ≤ 300 ∧ f.2.size ≤ 300 := fun f hf => by
    obtain ⟨j, hj, rfl⟩ := List.getElem_of_mem hf
    exact h.2 j hj
  have h15 := h.1
  have hl := lines_of (a := 15) (c := 600) h15 (fun f hf => by have := hz f hf; omega)
  exact ⟨by omega, fun f hf => by have := hz f hf; omega, fun f hf => by have := hz f hf; omega, by omega, by omega⟩
theorem few_all {fs : Fs} (h : fewF fs) {l : Fs} (hl : ∀ f ∈ l, f.2.size ≤ 300 ∧ f.1 = nCL) : ∀ f ∈ unframedF fs ++ l, f.1.size ≤ 300 ∧ f.2.size ≤ 300 := fun f hf => by
  rcases List.mem_append.1 hf with hf | hf
  · obtain ⟨j, hj, rfl⟩ := List.getElem_of_mem (unframed_mem f hf)
    exact h.2 j hj
  · obtain ⟨h1, h2⟩ := hl f hf
    have hz : nCL.size = 14 := rfl
    rw [h2, hz]; omega
theorem msgT_len (first : Bs) (l : Fs) (body : Bs) : (msgT first l body).length = first.length + (linesF l).length + body.length + 4 := by
  unfold msgT
  simp only [List.length_append]
  rw [show crlf2.length = 2 from rfl]
  omega
theorem msgT_fit {first body : Bs} {l : Fs} (h1 : first.length ≤ 1000) (hb : body.length ≤ 1000) (hl : ∀ f ∈ l, f.1.size ≤ 300 ∧ f.2.size ≤ 300) (hT : (msgT first l body).length ≤ 60000) : FitL (msgT first l body) := by
  have e : msgT first l body = first ++ 13 :: (10 :: (linesF l ++ (13 :: 10 :: body))) := by unfold msgT crlf2; rfl
  rw [e] at hT ⊢
  refine fitL_seg first (by omega) (fit_msg hb l hl ?_) hT
  rw [List.length_append, List.length_cons (a := (13 : UInt8))] at hT
  omega
theorem reqLen_cl {m : ByteArray} {n : Nat} (hn : n ≤ 100000) : ∀ f ∈ reqLenF m n, f.2.size ≤ 300 ∧ f.1 = nCL := fun f hf => by
  unfold reqLenF at hf
  split at hf
  · obtain rfl : f = (nCL, itoB n) := by simpa using hf
    have := itoB_size n (by omega)
    exact ⟨by show (itoB n).size ≤ _; omega, rfl⟩
  · cases hf
theorem reqText_fit {m t : ByteArray} {fs : Fs} {body : Bs} (hm : m.size ≤ 100) (ht : t.size ≤ 300) (hf : fewF fs) (hb : body.length ≤ 1000) : FitL (reqTextF m t fs body) ∧ (reqTextF m t fs body).length ≤ 20000 ∧ 4 ≤ (reqTextF m t fs body).length := by
  have h1 : (firstT m t).length ≤ 420 := by
    unfold firstT http11
    simp only [List.length_append, List.length_cons, List.length_nil, size_list]
    omega
  have hall := few_all hf (reqLen_cl (m := m) (n := body.length) (by omega))
  have h15 : (unframedF fs ++ reqLenF m body.length).length ≤ 16 := by
    have a := unframed_len fs
    have b := hf.1
    have c : (reqLenF m body.length).length ≤ 1 := by unfold reqLenF; split <;> simp
    rw [List.length_append]; omega
  have hl := lines_of (a := 16) (c := 600) h15 (fun f hf => by have := hall f hf; omega)
  have hlen := msgT_len (firstT m t) (unframedF fs ++ reqLenF m body.length) body
  unfold reqTextF
  exact ⟨msgT_fit (by omega) hb hall (by omega), by omega, by omega⟩
theorem MsgPost.slice {T : Bs} {w w' : World} {e : Ending} (h : MsgPost T w e w') : ∃ g c, e = .returned (.slice (some ⟨g, 0, none⟩) T.length c) ∧ BytesAt w' (some ⟨g, 0, none⟩) T ∧ T.length ≤ c ∧ w.heap.size ≤ g ∧ Spares nowhere w w' := by
  obtain ⟨v, he, hr, hs⟩ := h
  obtain ⟨g, c, rfl, hB, hat, hc⟩ := hr.shape
  exact ⟨g, c, he, hat, hc, hB, hs⟩
/-- What the sizes of a light request are. -/
structure LightM (m t : ByteArray) (fs : Fs) (body : Bs) : Prop where
  m : m.size ≤ 100
  t : t.size ≤ 300
  few : fewF fs
  body : body.length ≤ 1000
end Go.Proofs.YtjpmofnnjdhamaaGreatDoor
namespace Go.Proofs.YtjpmofnnjdhamaaGreatDoor
open Go.ChangeShapes Go.WideShapes Go.ChangeAt Go.RowKit Go.Deep
open HeadMath NormMath NormS HeadS ChunkMath HttpMath

section
variable {H : Type} {W : World} {enc : TypeId × Value → H}
theorem fieldsAt_inH {w : World} {a : Option Addr} {fs : Fs} (h : FieldsAt w a fs) : FieldsIn w.heap.size w a fs := by
  intro j hj
  obtain ⟨b, off, h1, h2, h3⟩ := h j hj
  exact ⟨b, off, h1, cellOf_lt h2, h2, h3⟩
theorem bytes_of_trod {v : Value} {y : DataW H × List MemPlace} {fuel : Nat} (hf : DataW.trod enc Tryz.prog W 0 (fun _ => true) true fuel 23 [v] = some y) :
    ∃ (a : Option Addr) (n c : Nat) (l : Bs), v = .slice a n c ∧ l.length = n ∧ BytesAt W a l ∧ (a = none → c = 0) ∧ n ≤ maxLen := by
  obtain ⟨d, p⟩ := y
  have key : ∃ a n c, v = .slice a n c := by
    rcases Deep.open_slice Tryz.underlying23 hf with ⟨hcs, _⟩ | ⟨x, len', cap', m, n, D, Pl, hcs, _, h1, h2, _⟩
    · injection hcs with hcs; exact ⟨_, _, _, hcs⟩
    · injection hcs with hcs; exact ⟨_, _, _, hcs⟩
  obtain ⟨a, n, c, rfl⟩ := key
  obtain ⟨l, h1, h2, h3, h4, h5⟩ := bytes_open (enc := enc) (W := W) (d := d) (p := p) (fuel := fuel) (a := a) (len := n) (cap := c) rfl hf
  exact ⟨a, n, c, l, rfl, h1, h2, h3, h4⟩
structure ReqIn (W : World) (v : Value) (m t : ByteArray) (fs : Fs) (body : Bs) (fa ab : Option Addr) (fc cb n k : Nat) : Prop where
  hv : v = .agg #[.string m, .string t, .slice fa n fc, .slice ab k cb]
  hn : fs.length = n
  hk : body.length = k
  hin : FieldsIn W.heap.size W fa fs
  hat : BytesAt W ab body
  hnil : ab = none → cb = 0
  hl : fs.length < 9223372036854775808
  hsz : ∀ j (h : j < fs.length), (fs[j]).1.size ≤ 9223372036854775807 ∧ (fs[j]).2.size ≤ 9223372036854775807
  hbn : k < 9223372036854775808
  hm : m.size ≤ 9223372036854775807
  ht : t.size ≤ 9223372036854775807
set_option maxRecDepth 100000 in
theorem request_openH {v : Value} {d : DataW H} {p : List MemPlace} {r : Reach} {b0 : Nat} (hv : Value.okWide Tryz.prog W r b0 25 v) (h : DataW.Trod enc Tryz.prog W 0 (fun _ => true) true 25 v d p) :
    ∃ (m t : ByteArray) (fs : Fs) (body : Bs) (fa ab : Option Addr) (fc cb n k : Nat), ReqIn W v m t fs body fa ab fc cb n k := by
  obtain ⟨v0, v1, v2, v3, y0, y1, y2, y3, n, rfl, _, _, t0, t1, t2, t3⟩ := Joins.open_agg4 Tryz.underlying25 (by kernel_rfl) (by kernel_rfl) hv h
  obtain ⟨z0, e0, _, w0⟩ := DataW.trod_string Tryz.underlying9 t0
  obtain ⟨z1, e1, _, w1⟩ := DataW.trod_string Tryz.underlying9 t1
  obtain ⟨fs, fa, fc, rfl, hat, hl, _, _, hsz⟩ := fields_of_trod t2
  obtain ⟨ab, k, cb, body, rfl, hb1, hb2, hb3, hb4⟩ := bytes_of_trod t3
  injection e0 with e0; injection e1 with e1
  subst e0; subst e1
  have hmax : maxLen = 9223372036854775807 := rfl
  rw [hmax] at hl hb4
  exact ⟨z0, z1, fs, body, fa, ab, fc, cb, _, k, rfl, rfl, hb1, fieldsAt_inH hat, hb2, hb3, by omega, hsz, by omega, w0, w1⟩
structure RspIn (W : World) (v : Value) (st : Int) (r : ByteArray) (fs : Fs) (body : Bs) (fa ab : Option Addr) (fc cb n k : Nat) : Prop where
  hv : v = .agg #[.int .i64 st, .string r, .slice fa n fc, .slice ab k cb]
  hn : fs.length = n
  hk : body.length = k
  hin : FieldsIn W.heap.size W fa fs
  hat : BytesAt W ab body
  hnil : ab = none → cb = 0
  hl : fs.length < 9223372036854775808
  hsz : ∀ j (h : j < fs.length), (fs[j]).1.size ≤ 9223372036854775807 ∧ (fs[j]).2.size ≤ 9223372036854775807
  hbn : k < 9223372036854775808
  hr : r.size ≤ 9223372036854775807
  hst : -9223372036854775808 ≤ st ∧ st ≤ 9223372036854775807
set_option maxRecDepth 100000 in
theorem response_openH {v : Value} {d : DataW H} {p : List MemPlace} {r : Reach} {b0 : Nat} (hv : Value.okWide Tryz.prog W r b0 27 v) (h : DataW.Trod enc Tryz.prog W 0 (fun _ => true) true 27 v d p) :
    ∃ (st : Int) (rs : ByteArray) (fs : Fs) (body : Bs) (fa ab : Option Addr) (fc cb n k : Nat), RspIn W v st rs fs body fa ab fc cb n k := by
  obtain ⟨v0, v1, v2, v3, y0, y1, y2, y3, n, rfl, _, _, t0, t1, t2, t3⟩ := Joins.open_agg4 Tryz.underlying27 (by kernel_rfl) (by kernel_rfl) hv h
  obtain ⟨z0, e0, _, w0⟩ := DataW.trod_int Tryz.underlying3 t0
  obtain ⟨z1, e1, _, w1⟩ := DataW.trod_string Tryz.underlying9 t1
  obtain ⟨fs, fa, fc, rfl, hat, hl, _, _, hsz⟩ := fields_of_trod t2
  obtain ⟨ab, k, cb, body, rfl, hb1, hb2, hb3, hb4⟩ := bytes_of_trod t3
  injection e0 with e0; injection e1 with e1
  subst e0; subst e1
  have hmax : maxLen = 9223372036854775807 := rfl
  rw [hmax] at hl hb4
  exact ⟨z0, z1, fs, body, fa, ab, fc, cb, _, k, rfl, rfl, hb1, fieldsAt_inH hat, hb2, hb3, by omega, hsz, by omega, w1, i64_wide w0⟩
end
theorem pow10_data : (Rows.laid_internal_strconv_uint64pow10 : DataW Unit) = Lib.tabData .u64 Lib.pow10Tab := by kernel_rfl
theorem tabH_of_laid {W : World} {laid : List (String × DataW Unit)} (h : laidMet Tryz.prog laid W) (hm : ("internal/strconv.uint64pow10", (Rows.laid_internal_strconv_uint64pow10 : DataW Unit)) ∈ laid) : TabH W := by
  obtain ⟨ps, hl, _⟩ := h
  obtain ⟨g, t, cs, fuel, p, h1, h2, h3, h4⟩ := laid_mem hl hm
  rw [pow10_data] at h4
  have hg : Tryz.prog.globalNamed "internal/strconv.uint64pow10" = some 1 := by kernel_rfl
  obtain rfl := Option.some.inj (h1.symm.trans hg)
  obtain rfl := Option.some.inj (h2.symm.trans (show (Tryz.prog.globals[1]?).map (·.type) = some 167 by kernel_rfl))
  have hc := Lib.cells_of_tab Tryz.underlying167 Tryz.underlying155 (by kernel_rfl) (by kernel_rfl) h4
  unfold TabH Lib.TabIs
  rw [h3, ← hc]
end Go.Proofs.YtjpmofnnjdhamaaGreatDoor
namespace Go.Proofs.YtjpmofnnjdhamaaGreatDoor
open Go.RowKit HeadMath NormMath NormS HeadS ChunkMath HttpMath

/-- A request that came in. -/
structure QIn where
  m : ByteArray
  t : ByteArray
  fs : Fs
  body : Bs
  fa : Option Addr
  ab : Option Addr
  fc : Nat
  cb : Nat
def QIn.v (q : QIn) : Value := .agg #[.string q.m, .string q.t, .slice q.fa q.fs.length q.fc, .slice q.ab q.body.length q.cb]
def QsIn (w : World) (a : Option Addr) (l : List QIn) : Prop := ∀ j (h : j < l.length), ∃ b off, a = some ⟨b, off, none⟩ ∧ w.cell? ⟨b, off + j * 4, none⟩ = some (.string l[j].m) ∧ w.cell? ⟨b, off + j * 4 + 1, none⟩ = some (.string l[j].t) ∧ w.cell? ⟨b, off + j * 4 + 2, none⟩ = some (.slice l[j].fa l[j].fs.length l[j].fc) ∧ w.cell? ⟨b, off + j * 4 + 3, none⟩ = some (.slice l[j].ab l[j].body.length l[j].cb) ∧ ReqIn w l[j].v l[j].m l[j].t l[j].fs l[j].body l[j].fa l[j].ab l[j].fc l[j].cb l[j].fs.length l[j].body.length
theorem cell_ltH {w : World} {p : Addr} {v : Value} (h : w.cell? p = some v) : p.block < w.heap.size := by
  rcases Nat.lt_or_ge p.block w.heap.size with h1 | h1
  · exact h1
  · simp [World.cell?, Array.getElem?_eq_none h1] at h
set_option maxRecDepth 100000 in
set_option maxHeartbeats 16000000 in
theorem pipesLaw_any (l : List QIn) (a : Option Addr) (n c : Nat) (w : World) (hn : l.length = n) (hin : QsIn w a l) (hle : n ≤ maxLen) (hM : MaxL w) (hT : TabH w) :
    Calls Tryz.prog 8 #[.slice a n c] w (KnowsH w) := by
  have K := knownH_any w hM
  unfold maxLen at hle
  unfold KnowsH at K ⊢
  have HN := Lib.hid hn
  have HIN := Lib.hid hin
  have HM := Lib.hid hM
  have HT := Lib.hid hT
  clear hn hin hM hT
  by_cases h6 : 6 < n
  · have d0 : (6 : Int) < (n : Int) := by omega
    go_enter Tryz.func8, Tryz.ntmps8
    go_wp2_with fail
    refine K.mono ?_
    rintro _ w1 ⟨rfl, hs1⟩
    go_wp2
    go_ret
    exact ⟨rfl, hs1⟩
  have d0 : ¬ (6 : Int) < (n : Int) := by omega
  go_enter Tryz.func8, Tryz.ntmps8
  go_wp2_with fail
  refine K.mono ?_
  rintro _ w1 ⟨rfl, hs1⟩
  have HI1 := Lib.hid (inv0_start w w1 hs1)
  clear hs1 K
  go_wp2
  go_loopw [3, 4, 5] (fun vb vw iv wr => ∃ (j : Nat) (L : List El), j ≤ n ∧ iv = .int .i64 j ∧ L.length ≤ j ∧ (textsF L).length ≤ 20000 * j ∧ Hid (Inv0 w wr vb vw L)) (fun _ _ iv _ => n - (intOf iv).toNat)
  case atStart => exact ⟨0, [], Nat.zero_le _, rfl, Nat.le_refl _, Nat.le_refl _, HI1⟩
  case round =>
    obtain ⟨j, L, hj, rfl, hL, hD, HI⟩ := hrel
    by_cases hlt : j < n
    · have j1 : (j : Int) < (n : Int) := by omega
      have hj2 : j < l.length := by have := HN.out; omega
      obtain ⟨b, off, rfl, c0, c1, c2, c3, hq⟩ := HIN.out j hj2
      have hsp := HI.out.sp
      obtain ⟨q, hqq⟩ : ∃ q, l[j] = q := ⟨_, rfl⟩
      rw [hqq] at c0 c1 c2 c3 hq
      obtain ⟨m, t, fs, body, fa, ab, fc, cb⟩ := q
      simp only at c0 c1 c2 c3 hq
      obtain ⟨fl, hfl⟩ : ∃ x, fs.length = x := ⟨_, rfl⟩
      obtain ⟨bl, hbl⟩ : ∃ x, body.length = x := ⟨_, rfl⟩
      rw [hfl, hbl] at hq
      rw [hfl] at c2
      rw [hbl] at c3
      have x0 := (hsp.cell (p := ⟨b, off + j * 4, none⟩) (cell_ltH c0) (fun h => h)).trans c0
      have x1 := (hsp.cell (p := ⟨b, off + j * 4 + 1, none⟩) (cell_ltH c1) (fun h => h)).trans c1
      have x2 := (hsp.cell (p := ⟨b, off + j * 4 + 2, none⟩) (cell_ltH c2) (fun h => h)).trans c2
      have x3 := (hsp.cell (p := ⟨b, off + j * 4 + 3, none⟩) (cell_ltH c3) (fun h => h)).trans c3
      have CL := lightQ_any m t fa fc fs ab bl cb wr (FieldsIn.quiet hq.hin (Nat.le_refl _) hsp hsp.size) hq.hl hq.hsz hq.hbn hq.hm hq.ht
      rw [hfl] at CL
      unfold reqG at CL
      have HQ := Lib.hid hq
      have HC : Hid (w.cell? ⟨b, off + j * 4, none⟩ = some (.string m) ∧ w.cell? ⟨b, off + j * 4 + 1, none⟩ = some (.string t) ∧ w.cell? ⟨b, off + j * 4 + 2, none⟩ = some (.slice fa fl fc) ∧ w.cell? ⟨b, off + j * 4 + 3, none⟩ = some (.slice ab bl cb)) := Lib.hid ⟨c0, c1, c2, c3⟩
      clear c0 c1 c2 c3 hq hqq hsp hfl hbl
      go_wp2_with fail
      refine CL.mono ?_
      rintro _ w2 ⟨lit, rfl, hb2, hlit⟩
      have hs2 : Spares nowhere wr w2 := Below.spares hb2 (fun k hk => .inr hk)
      have HI2 := Lib.hid (HI.out.quiet hs2)
      clear hb2 hs2 x0 x1 x2 x3 CL
      cases lit with
      | false =>
        clear hlit
        go_wp2
        go_ret
        exact ⟨rfl, HI2.out.sp⟩
      | true =>
        obtain ⟨l1, l2, l3, l4⟩ := hlit rfl
        have l4' : body.length ≤ 1000 := by rw [HQ.out.hk]; exact l4
        obtain ⟨hfit, hT2, hT4⟩ := reqText_fit l1 l2 l3 l4'
        have hsp := HI2.out.sp
        obtain ⟨c0, c1, c2, c3⟩ := HC.out
        have x0 := (hsp.cell (p := ⟨b, off + j * 4, none⟩) (cell_ltH c0) (fun h => h)).trans c0
        have x1 := (hsp.cell (p := ⟨b, off + j * 4 + 1, none⟩) (cell_ltH c1) (fun h => h)).trans c1
        have x2 := (hsp.cell (p := ⟨b, off + j * 4 + 2, none⟩) (cell_ltH c2) (fun h => h)).trans c2
        have x3 := (hsp.cell (p := ⟨b, off + j * 4 + 3, none⟩) (cell_ltH c3) (fun h => h)).trans c3
        have CRR := requestBytes_any m t fs body fa ab fc cb fl bl w2 HQ.out.hn HQ.out.hk (FieldsIn.quiet HQ.out.hin (Nat.le_refl _) hsp hsp.size) (HQ.out.hat.spares' hsp (fun _ _ _ _ h => h)) HQ.out.hnil (by omega) (by omega) (few_fit l3 l4') (HT.out.spares hsp (fun h => h))
        obtain ⟨T, hTT⟩ : ∃ T, reqTextF m t fs body = T := ⟨_, rfl⟩
        rw [hTT] at hfit hT2 hT4 CRR
        have HFIT := Lib.hid hfit
        obtain ⟨tl, htl⟩ : ∃ tl, T.length = tl := ⟨_, rfl⟩
        have HTL := Lib.hid htl
        rw [htl] at hT2 hT4
        clear hlit l1 l2 l3 l4 l4' hfit hTT htl c0 c1 c2 c3 hsp HC HQ
        go_wp2_with fail
        refine CRR.mono ?_
        rintro e3 w3 hm3
        obtain ⟨g3, c3, rfl, hat3, hc3, hg3, hs3⟩ := hm3.slice
        rw [HTL.out] at hc3 ⊢
        have HI3 := Lib.hid (HI2.out.quiet hs3)
        have HS3 := Lib.hid hs3
        have HG3 := Lib.hid hg3
        have HAT3 := Lib.hid hat3
        have HGL3 : Hid (g3 < w3.heap.size) := Lib.hid (by
          obtain ⟨y, z, e, hc⟩ := hat3 0 (by rw [HTL.out]; omega)
          injection e with e
          injection e with e1 _
          subst e1
          exact cell_ltH hc)
        have C4 : Hid (Calls Tryz.prog 25 #[.slice (some ⟨g3, 0, none⟩) tl c3] w3 (ReqPost (requestF T) w3)) := Lib.hid (by
          rw [← HTL.out]
          exact refRequest_any T _ c3 w3 hat3 (by rw [HTL.out]; exact hc3) (by rw [HTL.out]; omega) (fit_rest HFIT.out))
        clear hm3 hat3 hs3 CRR x0 x1 x2 x3 hg3
        go_wp2_with fail
        refine C4.out.mono ?_
        rintro e4 w4 h4
        obtain ⟨r, hr⟩ : ∃ r, requestF T = r := ⟨_, rfl⟩
        rw [hr] at h4
        have HR := Lib.hid hr
        clear hr C4
        cases r with
        | error y =>
          obtain ⟨rfl, hs4⟩ := h4
          unfold zeroQ
          obtain ⟨v5, hv5⟩ : ∃ V, w4.alloc (.cells #[.string ⟨#[]⟩, .string ⟨#[]⟩, .slice none 0 0, .slice none 0 0] 25) = V := ⟨_, rfl⟩
          have HI5 := Lib.hid (show Inv0 w v5 u3 u4 L by rw [← hv5]; exact HI3.out.quiet (hs4.alloc _))
          have HV := Lib.hid hv5
          clear hs4 hv5
          by_cases hy : y = 0
          · have q1 : ((y : Int) == 0) = true := by rw [hy]; rfl
            have q2 : ((y : Int) != 0) = false := by unfold bne; rw [q1]; rfl
            have q3 : ((0 : Int) == (tl : Int)) = false := by rw [beq_eq_false_iff_ne]; omega
            have q4 : ((0 : Int) != (tl : Int)) = true := by unfold bne; rw [q3]; rfl
            have hy' := Lib.hid hy
            clear hy
            go_wp2
            rw [HV.out]
            go_roundw
            case rel => exact ⟨j + 1, L, by omega, by go_num, by omega, by omega, HI5⟩
            case measure => simp [intOf]; omega
          · have q1 : ((y : Int) == 0) = false := by rw [beq_eq_false_iff_ne]; omega
            have q2 : ((y : Int) != 0) = true := by unfold bne; rw [q1]; rfl
            go_wp2
            rw [HV.out]
            go_roundw
            case rel => exact ⟨j + 1, L, by omega, by go_num, by omega, by omega, HI5⟩
            case measure => simp [intOf]; omega
        | ok rr =>
          obtain ⟨m', t', fs', body', n'⟩ := rr
          obtain ⟨⟨vf, vb, rfl, hf4, hb4⟩, hs4⟩ := h4
          unfold reqV
          obtain ⟨fa', fc', rfl, hfi4⟩ := rowF_shape hf4
          obtain ⟨ab', cb', rfl, hbt4, _, _⟩ := hb4.shape
          obtain ⟨p, hp⟩ : ∃ p, w4.heap.size = p := ⟨_, rfl⟩
          obtain ⟨v5, hv5⟩ : ∃ V, w4.alloc (.cells #[.string (ba m'), .string (ba t'), .slice fa' fs'.length fc', .slice ab' body'.length cb'] 25) = V := ⟨_, rfl⟩
          have hs45 : Spares nowhere w4 v5 := by rw [← hv5]; exact (Spares.refl _ _).alloc _
          have hbx : v5.heap[p]? = some (.cells #[.string (ba m'), .string (ba t'), .slice fa' fs'.length fc', .slice ab' body'.length cb'] 25 (0, 0)) := by rw [← hv5, ← hp]; exact heap_alloc_new _ _
          have HV := Lib.hid hv5
          have HP := Lib.hid hp
          have HI4 := Lib.hid (HI3.out.quiet (hs4.trans hs45))
          by_cases hq : n' = tl
          · have q1 : ((n' : Int) == (tl : Int)) = true := by rw [hq]; simp
            have q2 : ((n' : Int) != (tl : Int)) = false := by unfold bne; rw [q1]; rfl
            have hread : (⟨m', t', fs', body', T, fa', fc', ab', cb'⟩ : El).read := by
              show requestF T = .ok (m', t', fs', body', T.length)
              rw [HR.out, HTL.out, hq]
            have hrow : ElAt v5 ⟨m', t', fs', body', T, fa', fc', ab', cb'⟩ := ⟨ownsRow_base (hs45.own hf4 (fun _ _ h => h)) (Nat.zero_le _), ownsRow_base (hs45.own hb4 (fun _ _ h => h)) (Nat.zero_le _)⟩
            have hef : ∀ k, (⟨m', t', fs', body', T, fa', fc', ab', cb'⟩ : El).vf.ownBlock = some k → w2.heap.size ≤ k := fun k hk => by
              have := (World.ownsRow.lt hf4 k hk).1
              have := HS3.out.size
              omega
            have heb : ∀ k, (⟨m', t', fs', body', T, fa', fc', ab', cb'⟩ : El).vb.ownBlock = some k → w2.heap.size ≤ k := fun k hk => by
              have := (World.ownsRow.lt hb4 k hk).1
              have := HS3.out.size
              omega
            have HII := Lib.hid (HI2.out.next ⟨m', t', fs', body', T, fa', fc', ab', cb'⟩ ((HS3.out.trans hs4).trans hs45) hrow hef heb (HAT3.out.spares' (hs4.trans hs45) (fun _ _ _ _ h => h)) (Nat.lt_of_lt_of_le HGL3.out (hs4.trans hs45).size) HG3.out hbx (by rw [← hp]; exact (HS3.out.trans hs4).size))
            have HID := Lib.hid (HII.out.quiet (Spares.refl _ _).drew)
            have HRD := Lib.hid hread
            have HLN : Hid ((textsF L).length + tl ≤ 1000000) := Lib.hid (by omega)
            have hL6 : L.length ≤ 1000 := by omega
            obtain ⟨z0, z1, z2, z3⟩ := four_cells hbx
            clear hs4 hs45 hbx hv5 hp hq hread hrow hef heb hf4 hb4 hfi4 hbt4
            go_upto_region 15 with (fail)
            rw [HV.out, HP.out]
            go_region_law (first
              | (refine step_pipe_b (by rfl) (.tmp 50) (.tmp 51) (by rfl) (by rfl) c3 tl (by rfl) (by first | exact (Hid.out (by assumption)) | exact Inv.quiet HID.out ((Spares.refl _ _).alloc _) | exact Inv.quiet HII.out ((Spares.refl _ _).alloc _).drew) HTL.out.symm HLN.out ?_
                 intro vb6 w6 hI6 hk6
                 obtain ⟨y0, y1, y2, y3⟩ := four_cells hI6.out.bx)
              | (refine step_pipe_w (by rfl) (.tmp 53) (.tmp 55) (by rfl) (by rfl) _ ⟨m', t', fs', body', T, fa', fc', ab', cb'⟩ (by rfl) (by first | exact (Hid.out (by assumption)) | exact Inv.quiet HID.out ((Spares.refl _ _).alloc _) | exact Inv.quiet (Hid.out (by assumption)) ((Spares.refl _ _).alloc _) | exact Inv.quiet HII.out ((Spares.refl _ _).alloc _).drew) (by first | exact heap_alloc_new _ _ | exact (hk6.out _ (by simp) (fun e => Nat.lt_irrefl _ (HII.out.ob.lt _ e))).trans (heap_alloc_new _ _)) hL6 ?_
                 intro vw6 w7 hI7)
              | fail)
            all_goals
              have HI8 := Lib.hid (hI7.out.done rfl HRD.out HI.out.read)
              have hD8 : (textsF (L ++ [⟨m', t', fs', body', T, fa', fc', ab', cb'⟩])).length ≤ 20000 * (j + 1) := by
                have e1 : textsF (L ++ [⟨m', t', fs', body', T, fa', fc', ab', cb'⟩]) = textsF L ++ T := by unfold textsF; rw [List.flatMap_append]; simp
                rw [e1, List.length_append, HTL.out]
                omega
              have hL8 : (L ++ [(⟨m', t', fs', body', T, fa', fc', ab', cb'⟩ : El)]).length ≤ j + 1 := by rw [List.length_append]; simp; omega
              generalize L ++ [(⟨m', t', fs', body', T, fa', fc', ab', cb'⟩ : El)] = L8 at HI8 hD8 hL8
              clear hI7 hI6 hk6 HII HID z0 z1 z2 z3 y0 y1 y2 y3
              simp only [List.getElem_toArray, Act.put, List.setIfInBounds_toArray]
              go_wp2
              go_roundw
              case rel => exact ⟨j + 1, L8, by omega, by go_num, hL8, hD8, HI8⟩
              case measure => simp [intOf]; omega
          · have q1 : ((n' : Int) == (tl : Int)) = false := by rw [beq_eq_false_iff_ne]; omega
            have q2 : ((n' : Int) != (tl : Int)) = true := by unfold bne; rw [q1]; rfl
            clear hs4 hs45 hbx hv5 hp hq hf4 hb4 hfi4 hbt4
            go_wp2
            rw [HV.out]
            go_roundw
            case rel => exact ⟨j + 1, L, by omega, by go_num, by omega, by omega, HI4⟩
            case measure => simp [intOf]; omega
    · obtain rfl : j = n := by omega
      have j1 : ¬ (j : Int) < (j : Int) := by omega
      obtain ⟨wE, hwE⟩ : ∃ v, v = wr := ⟨_, rfl⟩
      subst hwE
      obtain ⟨a0, c0, hu3, hat0, hnil0, hcap0⟩ := (show Row8 0 wE u3 (textsF L) from HI.out.ob).shape
      obtain ⟨aw, cw, hu4, hcells⟩ := els_own HI.out.ow
      subst hu3
      subst hu4
      have HAT0 := Lib.hid hat0
      have HNIL0 := Lib.hid hnil0
      have HCAP0 := Lib.hid hcap0
      have HCELLS := Lib.hid hcells
      obtain ⟨q, hq⟩ : ∃ q, L.length = q := ⟨_, rfl⟩
      have HQL := Lib.hid hq
      have hq6 : q ≤ 6 := by omega
      have hD' : (textsF L).length ≤ 120000 := by omega
      have HDL := Lib.hid hD'
      rw [hq]
      clear hat0 hnil0 hcap0 hcells hq hL hD hD'
      go_wp2
      go_loopw [3, 10] (fun vb iv wz => ∃ (j : Nat) (a : Option Addr) (c : Nat) (D : Bs), j ≤ q ∧ iv = .int .i64 j ∧ vb = .slice a D.length c ∧ Hid (D = textsF (L.drop j)) ∧ D.length ≤ 120000 ∧ D.length ≤ c ∧ Hid (BytesAt wz a D) ∧ Hid (a = none → c = 0) ∧ Hid (Spares nowhere wE wz)) (fun _ iv _ => q - (intOf iv).toNat)
      case atStart => exact ⟨0, a0, c0, textsF L, Nat.zero_le _, rfl, rfl, Lib.hid rfl, HDL.out, HCAP0.out, HAT0, HNIL0, Lib.hid (Spares.refl _ _)⟩
      case round =>
        obtain ⟨i, a, c, D, hi, rfl, rfl, HDD, hDl, hDc, HAT, HNIL, HSP⟩ := hrel
        by_cases hlt : i < q
        · have i1 : (i : Int) < (q : Int) := by omega
          have hi2 : i < L.length := by have := HQL.out; omega
          obtain ⟨gw, rfl, k0, k1, k2, k3⟩ := HCELLS.out i hi2
          have hread := HI.out.read _ (List.getElem_mem hi2)
          have hels := HI.out.els _ (List.getElem_mem hi2)
          have hdrop : L.drop i = L[i] :: L.drop (i + 1) := List.drop_eq_getElem_cons hi2
          obtain ⟨e, he⟩ : ∃ e, L[i] = e := ⟨_, rfl⟩
          rw [he] at k0 k1 k2 k3 hread hels hdrop
          have hreq : requestF D = .ok (e.m, e.t, e.fs, e.body, e.T.length) := by rw [HDD.out, hdrop]; exact read_first _ hread
          have htl4 : 4 ≤ e.T.length := by
            obtain ⟨l0, ls, rest, sz, hH, _⟩ := request_parts hread
            have := (cuts_lines hH).2.2.2
            omega
          have hDT : D = e.T ++ textsF (L.drop (i + 1)) := by rw [HDD.out, hdrop]; exact texts_cons
          have hfew : e.T.length ≤ 1000000 → e.fs.length ≤ 1000000 := fun hb => by
            have h := qF_few (b := e.T) hb
            rw [show requestF e.T = _ from hread] at h
            exact h
          obtain ⟨tl, htl⟩ : ∃ t, e.T.length = t := ⟨_, rfl⟩
          have hDn : D.length = tl + (textsF (L.drop (i + 1))).length := by rw [hDT, List.length_append, htl]
          rw [htl] at htl4 hreq
          obtain ⟨dl, hdl⟩ : ∃ d, D.length = d := ⟨_, rfl⟩
          obtain ⟨y, z, ha, -⟩ := HAT.out 0 (by omega)
          subst ha
          have CQ := request_any D (some ⟨y, z, none⟩) c dl wr hdl.symm HAT.out (by omega) HNIL.out (by omega) (HM.out.spares (HI.out.sp.trans HSP.out))
          rw [hreq] at CQ
          unfold ReqPost reqV at CQ
          simp only at CQ
          have x0 := (HSP.out.cell (p := ⟨gw, i * 4, none⟩) (cell_ltH k0) (fun h => h)).trans k0
          obtain ⟨nx, hnx⟩ : ∃ x, (textsF (L.drop (i + 1))).length = x := ⟨_, rfl⟩
          rw [hnx] at hDn
          have HFEW : Hid (e.fs.length ≤ 1000000) := Lib.hid (hfew (by omega))
          have HDT := Lib.hid hDT
          have HNX := Lib.hid hnx
          have HTLE := Lib.hid htl
          have HDLN := Lib.hid hdl
          have HK : Hid (wE.cell? ⟨gw, i * 4, none⟩ = some (.string (ba e.m)) ∧ wE.cell? ⟨gw, i * 4 + 1, none⟩ = some (.string (ba e.t)) ∧ wE.cell? ⟨gw, i * 4 + 2, none⟩ = some e.vf ∧ wE.cell? ⟨gw, i * 4 + 3, none⟩ = some e.vb) := Lib.hid ⟨k0, k1, k2, k3⟩
          have HELS := Lib.hid hels
          have HDN : Hid (dl = tl + nx) := Lib.hid (by omega)
          have htd : tl ≤ dl := by omega
          have htc : tl ≤ c := by omega
          rw [hdl] at hDl hDc ⊢
          clear hfew hread hels hdrop he hreq hDT htl hnx hdl k0 k1 k2 k3 x0 HDD hDn
          go_wp2_with fail
          (with_reducible refine CQ.mono ?_)
          rintro _ w6 ⟨⟨vf6, vb6, rfl, hf6, hb6⟩, hs6⟩
          obtain ⟨fa6, fc6, rfl, hfi6⟩ := rowF_shape hf6
          obtain ⟨ab6, cb6, rfl, hbt6, _, _⟩ := hb6.shape
          obtain ⟨fl, hfl⟩ : ∃ x, e.fs.length = x := ⟨_, rfl⟩
          obtain ⟨bl, hbl⟩ : ∃ x, e.body.length = x := ⟨_, rfl⟩
          rw [hfl, hbl]
          obtain ⟨p, hp⟩ : ∃ p, w6.heap.size = p := ⟨_, rfl⟩
          obtain ⟨v7, hv7⟩ : ∃ V, w6.alloc (.cells #[.string (ba e.m), .string (ba e.t), .slice fa6 fl fc6, .slice ab6 bl cb6] 25) = V := ⟨_, rfl⟩
          have hs67 : Spares nowhere w6 v7 := by rw [← hv7]; exact (Spares.refl _ _).alloc _
          have hbx : v7.heap[p]? = some (.cells #[.string (ba e.m), .string (ba e.t), .slice fa6 fl fc6, .slice ab6 bl cb6] 25 (0, 0)) := by rw [← hv7, ← hp]; exact heap_alloc_new _ _
          have HS7 : Hid (Spares nowhere wE v7) := Lib.hid (HSP.out.trans (hs6.trans hs67))
          have HR7 : Hid (Spares nowhere wr v7) := Lib.hid (hs6.trans hs67)
          have HF6 := Lib.hid (FieldsIn.quiet hfi6 (Nat.le_refl _) hs67 hs67.size)
          have HB6 := Lib.hid (hbt6.spares' hs67 (fun _ _ _ _ h => h))
          have HBX := Lib.hid hbx
          have HV := Lib.hid hv7
          have HP := Lib.hid hp
          have CSM : Hid (∀ x, Below v7.heap.size v7 x → Calls Tryz.prog 21 #[.agg #[.string (ba e.m), .string (ba e.t), .slice fa6 fl fc6, .slice ab6 bl cb6], .agg #[.string (ba e.m), .string (ba e.t), .slice e.fa fl e.fc, .slice e.ab bl e.cb]] x fun en w' => en = .returned (.bool true) ∧ Below v7.heap.size v7 w') := Lib.hid (fun x hx => by
            have hsx : Spares nowhere v7 x := Below.spares hx (fun k hk => .inr hk)
            have hF := HS7.out.trans hsx
            have r1 := hF.own HELS.out.f (fun _ _ h => h)
            have r2 := hF.own HELS.out.b (fun _ _ h => h)
            obtain ⟨a1, c1, h1, hfi⟩ := rowF_shape r1
            obtain ⟨a2, c2, h2, hbt, _, _⟩ := (show Row8 0 x e.vb e.body from r2).shape
            unfold El.vf at h1
            unfold El.vb at h2
            injection h1 with h1 _ _
            injection h2 with h2 _ _
            rw [h1, h2]
            refine (helpReq_same (ba e.m) (ba e.t) e.fs e.body fa6 a1 ab6 a2 fc6 e.fc cb6 e.cb fl bl x hfl hbl (FieldsIn.quiet HF6.out (Nat.le_refl _) hsx hsx.size) hfi (HB6.out.spares' hsx (fun _ _ _ _ h => h)) hbt HFEW.out).mono ?_
            rintro en w' ⟨h1, h2⟩
            exact ⟨h1, hx.trans (h2.below0.mono hx.size)⟩)
          have HSEE : Hid (∀ x, Below v7.heap.size v7 x → x.cell? ⟨p, 0, none⟩ = some (.string (ba e.m)) ∧ x.cell? ⟨p, 1, none⟩ = some (.string (ba e.t)) ∧ x.cell? ⟨p, 2, none⟩ = some (.slice fa6 fl fc6) ∧ x.cell? ⟨p, 3, none⟩ = some (.slice ab6 bl cb6) ∧ x.cell? ⟨gw, i * 4, none⟩ = some (.string (ba e.m)) ∧ x.cell? ⟨gw, i * 4 + 1, none⟩ = some (.string (ba e.t)) ∧ x.cell? ⟨gw, i * 4 + 2, none⟩ = some (.slice e.fa fl e.fc) ∧ x.cell? ⟨gw, i * 4 + 3, none⟩ = some (.slice e.ab bl e.cb)) := Lib.hid (fun x hx => by
            have hsx : Spares nowhere v7 x := Below.spares hx (fun k hk => .inr hk)
            obtain ⟨y0, y1, y2, y3⟩ := four_cells (hsx.heap HBX.out (fun h => h))
            obtain ⟨k0, k1, k2, k3⟩ := HK.out
            have hF := HS7.out.trans hsx
            have x0 := (hF.cell (p := ⟨gw, i * 4, none⟩) (cell_ltH k0) (fun h => h)).trans k0
            have x1 := (hF.cell (p := ⟨gw, i * 4 + 1, none⟩) (cell_ltH k1) (fun h => h)).trans k1
            have x2 := (hF.cell (p := ⟨gw, i * 4 + 2, none⟩) (cell_ltH k2) (fun h => h)).trans k2
            have x3 := (hF.cell (p := ⟨gw, i * 4 + 3, none⟩) (cell_ltH k3) (fun h => h)).trans k3
            unfold El.vf at x2
            unfold El.vb at x3
            rw [hfl] at x2
            rw [hbl] at x3
            exact ⟨y0, y1, y2, y3, x0, x1, x2, x3⟩)
          have hbd : Below v7.heap.size v7 v7.drew := (Below.refl _ _).drew
          have g1 : ¬ (dl : Int) < (tl : Int) := by omega
          have g2 : decide ((dl : Int) < (tl : Int)) = false := by simpa using htd
          have g3 : decide (dl < tl) = false := by simpa using htd
          have g4 : ¬ dl < tl := by omega
          obtain ⟨z0, z1, z2, z3, z4, z5, z6, z7⟩ := HSEE.out v7 (Below.refl _ _)
          clear hs6 hs67 hbx hf6 hb6 hfi6 hbt6 hv7 hp hfl hbl CQ z0 z1 z2 z3 z4 z5 z6 z7
          go_upto_region 20 with (fail)
          rw [HV.out, HP.out]
          go_region_held3 (fun x => x.cell? ⟨p, 0, none⟩ = some (.string (ba e.m)) ∧ x.cell? ⟨p, 1, none⟩ = some (.string (ba e.t)) ∧ x.cell? ⟨p, 2, none⟩ = some (.slice fa6 fl fc6) ∧ x.cell? ⟨p, 3, none⟩ = some (.slice ab6 bl cb6) ∧ x.cell? ⟨gw, i * 4, none⟩ = some (.string (ba e.m)) ∧ x.cell? ⟨gw, i * 4 + 1, none⟩ = some (.string (ba e.t)) ∧ x.cell? ⟨gw, i * 4 + 2, none⟩ = some (.slice e.fa fl e.fc) ∧ x.cell? ⟨gw, i * 4 + 3, none⟩ = some (.slice e.ab bl e.cb))
            (first | exact HSEE.out _ (by assumption) | go_keep)
            (first
              | (go_simp
                 go_at_call 21
                 (with_reducible refine Calls.mono (CSM.out _ (by assumption)) ?_)
                 rintro en wn ⟨rfl, hbn⟩)
              | fail)
          have hvn : Spares nowhere v7 wn := Below.spares hbn (fun k hk => .inr hk)
          have HSPN := Lib.hid (HS7.out.trans hvn)
          have hln : (textsF (L.drop (i + 1))).length = dl - tl := by have h1 := HNX.out; have h2 := HDN.out; omega
          have HLN := Lib.hid hln
          have hdrop : D.drop tl = textsF (L.drop (i + 1)) := by
            rw [HDT.out, ← HTLE.out, List.drop_left]
          have HATN : Hid (BytesAt wn (some ⟨y, z + tl, none⟩) (textsF (L.drop (i + 1)))) := Lib.hid (by
            rw [← hdrop]
            exact bytesAt_drop8 (HAT.out.spares' (HR7.out.trans hvn) (fun _ _ _ _ h => h)) tl)
          have hlen : (textsF (L.drop (i + 1))).length ≤ 120000 := by omega
          clear hvn hln hdrop g1 g2 g3 g4 hbn hbd HSEE CSM HBX HV HP HF6 HB6
          have t0 : (tl : Int) ≤ (dl : Int) := by omega
          have t1 : (tl : Int) ≤ (c : Int) := by omega
          rcases (show tl = c ∨ tl < c by omega) with hcc | hcc
          · have HCC := Lib.hid hcc
            have hz : textsF (L.drop (i + 1)) = [] := List.eq_nil_of_length_eq_zero (by have := HLN.out; omega)
            have HZ := Lib.hid hz
            have hdt : dl = tl := by omega
            have HDTL := Lib.hid hdt
            clear hcc hz hdt
            go_wp2
            all_goals
              go_roundw
              case rel => exact ⟨i + 1, _, _, [], by omega, by go_num, by rw [show ([] : Bs).length = dl - tl from by have := HDTL.out; simp; omega], Lib.hid HZ.out.symm, by simp, by simp, Lib.hid (bytesAt_nil _ _), Lib.hid (fun e => by first | cases e | (split at e <;> cases e)), HSPN⟩
              case measure => simp [intOf]; omega
          · have t2 : (tl : Int) < (c : Int) := by omega
            have t3 : ¬ tl = c := by omega
            have t4 : ¬ c = tl := by omega
            go_wp2
            all_goals
              go_roundw
              case rel => exact ⟨i + 1, some ⟨y, z + tl, none⟩, c - tl, textsF (L.drop (i + 1)), by omega, by go_num, by rw [HLN.out], Lib.hid rfl, hlen, by have := HLN.out; omega, HATN, Lib.hid (fun e => by cases e), HSPN⟩
              case measure => simp [intOf]; omega
        · obtain rfl : i = q := by omega
          have i1 : ¬ (i : Int) < (i : Int) := by omega
          have hD0 : D = [] := by
            rw [HDD.out, List.drop_eq_nil_of_le (by have := HQL.out; omega)]
            rfl
          subst hD0
          go_wp2
          go_ret
          exact ⟨rfl, HI.out.sp.trans HSP.out⟩
end Go.Proofs.YtjpmofnnjdhamaaGreatDoor
namespace Go.Proofs.YtjpmofnnjdhamaaGreatDoor
open Go.ChangeShapes Go.WideShapes Go.ChangeAt Go.RowKit Go.Deep
open HeadMath NormMath NormS HeadS ChunkMath HttpMath

set_option maxRecDepth 100000 in
theorem qs_open {H : Type} {W : World} {enc : TypeId × Value → H} {d : DataW H} {p : List MemPlace} {fuel : Nat} {a : Option Addr} {len cap : Nat}
    (hf : DataW.trod enc Tryz.prog W 0 (fun _ => true) true fuel 55 (Value.slice a len cap).cells.toList = some (d, p)) :
    ∃ l : List QIn, l.length = len ∧ QsIn W a l ∧ len ≤ maxLen := by
  obtain ⟨h1, h2, h3, h4⟩ := structs_open Tryz.underlying55 Tryz.underlying25 (by kernel_rfl) (by kernel_rfl) (by decide) hf
  have hx : ∀ i : Fin len, ∃ q : QIn, ∃ b off, a = some ⟨b, off, none⟩ ∧ W.cell? ⟨b, off + i.val * 4, none⟩ = some (.string q.m) ∧ W.cell? ⟨b, off + i.val * 4 + 1, none⟩ = some (.string q.t) ∧ W.cell? ⟨b, off + i.val * 4 + 2, none⟩ = some (.slice q.fa q.fs.length q.fc) ∧ W.cell? ⟨b, off + i.val * 4 + 3, none⟩ = some (.slice q.ab q.body.length q.cb) ∧ ReqIn W q.v q.m q.t q.fs q.body q.fa q.ab q.fc q.cb q.fs.length q.body.length := by
    intro i
    obtain ⟨b, off, ha, n, hj⟩ := h4 i.val i.isLt
    obtain ⟨v0, y0, hc0, t0⟩ := hj 0 _ rfl
    obtain ⟨v1, y1, hc1, t1⟩ := hj 1 _ rfl
    obtain ⟨v2, y2, hc2, t2⟩ := hj 2 _ rfl
    obtain ⟨v3, y3, hc3, t3⟩ := hj 3 _ rfl
    obtain ⟨z0, e0, _, w0⟩ := DataW.trod_string Tryz.underlying9 t0
    obtain ⟨z1, e1, _, w1⟩ := DataW.trod_string Tryz.underlying9 t1
    obtain ⟨fs, fa, fc, rfl, hat, hl, _, _, hsz⟩ := fields_of_trod t2
    obtain ⟨ab, k, cb, body, rfl, hb1, hb2, hb3, hb4⟩ := bytes_of_trod t3
    injection e0 with e0; injection e1 with e1
    subst e0; subst e1
    subst hb1
    have hmax : maxLen = 9223372036854775807 := rfl
    rw [hmax] at hl hb4
    exact ⟨⟨z0, z1, fs, body, fa, ab, fc, cb⟩, b, off, ha, hc0, hc1, hc2, hc3, ⟨rfl, rfl, rfl, fieldsAt_inH hat, hb2, hb3, by show fs.length < _; omega, hsz, by show body.length < _; omega, w0, w1⟩⟩
  refine ⟨List.ofFn fun i => Classical.choose (hx i), by simp, ?_, h1⟩
  intro k hk
  have hk' : k < len := by simpa using hk
  obtain ⟨b, off, ha, c0, c1, c2, c3, hr⟩ := Classical.choose_spec (hx ⟨k, hk'⟩)
  exact ⟨b, off, ha, by simpa using c0, by simpa using c1, by simpa using c2, by simpa using c3, by simpa using hr⟩
end Go.Proofs.YtjpmofnnjdhamaaGreatDoor
