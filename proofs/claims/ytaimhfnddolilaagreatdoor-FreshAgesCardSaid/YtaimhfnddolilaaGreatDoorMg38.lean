/-
  ambryseat.Response: whatever the numbers and the hour, a response of few fields.
  Whatever the response, the times and the control: the law's walk.
  The makers' numbers that came in, opened.
  Numbers and times that came in, opened.
  What is stale: the law's walk.
  Where nothing is said: the law's walk.
-/
import Derived.Lib.SlBytesConst
import Derived.OpenShut
import Derived.Lib.SmallJoins
import Derived.Deep.Fields
import Derived.Lib.LaidTab
import Derived.Test.YtaimhfnddolilaaGreatDoorRows
import Derived.Test.YtaimhfnddolilaaGreatDoorMg30
import Derived.Test.YtaimhfnddolilaaGreatDoorMg34
import Derived.Test.YtaimhfnddolilaaGreatDoorMg35
import Derived.Test.YtaimhfnddolilaaGreatDoorMg37
namespace Go.Proofs.YtaimhfnddolilaaGreatDoor
open Go.RowKit HeadMath HeadS CtrlS VaryS

def rsayB (k : Nat) : ByteArray := ([⟨#[109, 97, 120, 45, 97, 103, 101, 61, 49, 48]⟩, ⟨#[109, 97, 120, 45, 97, 103, 101, 61, 49, 48]⟩, ⟨#[109, 97, 120, 45, 97, 103, 101, 61, 51, 48]⟩, ⟨#[]⟩, ⟨#[110, 111, 45, 115, 116, 111, 114, 101]⟩, ⟨#[112, 114, 105, 118, 97, 116, 101]⟩, ⟨#[110, 111, 45, 99, 97, 99, 104, 101]⟩, ⟨#[112, 117, 98, 108, 105, 99]⟩, ⟨#[115, 45, 109, 97, 120, 97, 103, 101, 61, 55]⟩, ⟨#[109, 97, 120, 45, 97, 103, 101, 61, 49, 48, 44, 32, 109, 117, 115, 116, 45, 114, 101, 118, 97, 108, 105, 100, 97, 116, 101]⟩, ⟨#[109, 97, 120, 45, 97, 103, 101, 61, 48]⟩, ⟨#[109, 97, 120, 45, 97, 103, 101, 61, 49, 48, 44, 32, 112, 117, 98, 108, 105, 99]⟩] : List ByteArray).getD k ⟨#[]⟩
theorem rsay_cell (x : World) (k : Nat) (hk : k < 12) : (x.alloc (.cells #[.string ⟨#[109, 97, 120, 45, 97, 103, 101, 61, 49, 48]⟩, .string ⟨#[109, 97, 120, 45, 97, 103, 101, 61, 49, 48]⟩, .string ⟨#[109, 97, 120, 45, 97, 103, 101, 61, 51, 48]⟩, .string ⟨#[]⟩, .string ⟨#[110, 111, 45, 115, 116, 111, 114, 101]⟩, .string ⟨#[112, 114, 105, 118, 97, 116, 101]⟩, .string ⟨#[110, 111, 45, 99, 97, 99, 104, 101]⟩, .string ⟨#[112, 117, 98, 108, 105, 99]⟩, .string ⟨#[115, 45, 109, 97, 120, 97, 103, 101, 61, 55]⟩, .string ⟨#[109, 97, 120, 45, 97, 103, 101, 61, 49, 48, 44, 32, 109, 117, 115, 116, 45, 114, 101, 118, 97, 108, 105, 100, 97, 116, 101]⟩, .string ⟨#[109, 97, 120, 45, 97, 103, 101, 61, 48]⟩, .string ⟨#[109, 97, 120, 45, 97, 103, 101, 61, 49, 48, 44, 32, 112, 117, 98, 108, 105, 99]⟩] 9)).cell? ⟨x.heap.size, k, none⟩ = some (.string (rsayB k)) := by
  rw [Lib.cell_of_heap (heap_alloc_new x _)]
  match k, hk with
  | 0, _ | 1, _ | 2, _ | 3, _ | 4, _ | 5, _ | 6, _ | 7, _ | 8, _ | 9, _ | 10, _ | 11, _ => rfl
theorem rsay_small (k : Nat) (hk : k < 12) : (rsayB k).size ≤ 100 := by
  match k, hk with
  | 0, _ | 1, _ | 2, _ | 3, _ | 4, _ | 5, _ | 6, _ | 7, _ | 8, _ | 9, _ | 10, _ | 11, _ => decide +kernel
def rvaryB (k : Nat) : ByteArray := ([⟨#[]⟩, ⟨#[]⟩, ⟨#[]⟩, ⟨#[65, 99, 99, 101, 112, 116]⟩, ⟨#[97, 99, 99, 101, 112, 116, 44, 32, 108, 97, 110, 103]⟩, ⟨#[42]⟩] : List ByteArray).getD k ⟨#[]⟩
theorem rvary_cell (x : World) (k : Nat) (hk : k < 6) : (x.alloc (.cells #[.string ⟨#[]⟩, .string ⟨#[]⟩, .string ⟨#[]⟩, .string ⟨#[65, 99, 99, 101, 112, 116]⟩, .string ⟨#[97, 99, 99, 101, 112, 116, 44, 32, 108, 97, 110, 103]⟩, .string ⟨#[42]⟩] 9)).cell? ⟨x.heap.size, k, none⟩ = some (.string (rvaryB k)) := by
  rw [Lib.cell_of_heap (heap_alloc_new x _)]
  match k, hk with
  | 0, _ | 1, _ | 2, _ | 3, _ | 4, _ | 5, _ => rfl
theorem rvary_small (k : Nat) (hk : k < 6) : (rvaryB k).size ≤ 100 := by
  match k, hk with
  | 0, _ | 1, _ | 2, _ | 3, _ | 4, _ | 5, _ => decide +kernel
def rstatN (k : Nat) : Nat := ([200, 200, 200, 200, 304, 404, 500, 204, 301, 206] : List Nat).getD k 200
theorem rstat_cell (x : World) (k : Nat) (hk : k < 10) : (x.alloc (.cells #[.int .i64 200, .int .i64 200, .int .i64 200, .int .i64 200, .int .i64 304, .int .i64 404, .int .i64 500, .int .i64 204, .int .i64 301, .int .i64 206] 3)).cell? ⟨x.heap.size, k, none⟩ = some (.int .i64 (rstatN k : Int)) := by
  rw [Lib.cell_of_heap (heap_alloc_new x _)]
  match k, hk with
  | 0, _ | 1, _ | 2, _ | 3, _ | 4, _ | 5, _ | 6, _ | 7, _ | 8, _ | 9, _ => rfl
theorem rstat_small (k : Nat) (hk : k < 10) : rstatN k ≤ 999 := by
  match k, hk with
  | 0, _ | 1, _ | 2, _ | 3, _ | 4, _ | 5, _ | 6, _ | 7, _ | 8, _ | 9, _ => decide +kernel
theorem bodiless_get (st : Int) (w : World) : Calls Tryz.prog 22 #[.int .i64 st, .string ⟨#[71, 69, 84]⟩] w fun e w' => (∃ b, e = .returned (.bool b)) ∧ w = w' := by
  obtain ⟨b1, h1⟩ : ∃ b, (st == 204) = b := ⟨_, rfl⟩
  obtain ⟨b2, h2⟩ : ∃ b, (st == 304) = b := ⟨_, rfl⟩
  obtain ⟨b3, h3⟩ : ∃ b, decide (st < 200) = b := ⟨_, rfl⟩
  cases b1 <;> cases b2 <;> cases b3 <;>
    (go_enter Tryz.func22, Tryz.ntmps22
     go_wp2
     go_ret
     exact ⟨⟨_, rfl⟩, rfl⟩)
def RespMade (w : World) (e : Ending) (w' : World) : Prop := ∃ (st : Nat) (t : ByteArray) (fa : Option Addr) (fc : Nat) (fs : Fls) (ba : Option Addr) (bn bc : Nat), e = .returned (.agg #[.int .i64 (st : Int), .string t, .slice fa fs.length fc, .slice ba bn bc]) ∧ w'.ownsRow w.heap.size 43 2 (.slice fa fs.length fc) fs.length (fieldCells fs) ∧ FewF fs ∧ st ≤ 999 ∧ Below w.heap.size w w'
set_option maxRecDepth 100000 in
set_option maxHeartbeats 32000000 in
theorem seatResp_any (w : World) (now : Int) (q0 q1 q2 q3 q4 q5 : Nat) (z0 : q0 < 256) (z1 : q1 < 256) (z2 : q2 < 256) (z3 : q3 < 256) (z4 : q4 < 256) (z5 : q5 < 256) :
    Calls Tryz.prog 10 #[.agg #[.int .u8 q0, .int .u8 q1, .int .u8 q2, .int .u8 q3, .int .u8 q4, .int .u8 q5], .int .i64 now] w (RespMade w) := by
  obtain ⟨v0, hv⟩ : ∃ v0, (w.alloc (.cells #[.int .u8 q0, .int .u8 q1, .int .u8 q2, .int .u8 q3, .int .u8 q4, .int .u8 q5] 31)).alloc (.cells #[.int .i64 0, .string ⟨#[]⟩, .slice none 0 0, .slice none 0 0] 25) = v0 := ⟨_, rfl⟩
  have hb0 : Below w.heap.size w v0 := by rw [← hv]; exact below_al (below_al (Below.refl _ _) _) _
  have hs0 : v0.heap.size = w.heap.size + 2 := by rw [← hv]; simp
  have hq := (two_reqs w (.cells #[.int .u8 q0, .int .u8 q1, .int .u8 q2, .int .u8 q3, .int .u8 q4, .int .u8 q5] 31) (.cells #[.int .i64 0, .string ⟨#[]⟩, .slice none 0 0, .slice none 0 0] 25)).1
  have hz := (two_reqs w (.cells #[.int .u8 q0, .int .u8 q1, .int .u8 q2, .int .u8 q3, .int .u8 q4, .int .u8 q5] 31) (.cells #[.int .i64 0, .string ⟨#[]⟩, .slice none 0 0, .slice none 0 0] 25)).2
  rw [hv] at hq hz
  have HQ : Hid (∀ y, Below v0.heap.size v0 y → y.cell? ⟨w.heap.size, 0, none⟩ = some (.int .u8 q0) ∧ y.cell? ⟨w.heap.size, 1, none⟩ = some (.int .u8 q1) ∧ y.cell? ⟨w.heap.size, 2, none⟩ = some (.int .u8 q2) ∧ y.cell? ⟨w.heap.size, 3, none⟩ = some (.int .u8 q3) ∧ y.cell? ⟨w.heap.size, 4, none⟩ = some (.int .u8 q4) ∧ y.cell? ⟨w.heap.size, 5, none⟩ = some (.int .u8 q5)) := Lib.hid (fun y hy => six_at (stood3 hy hq))
  have HZ : Hid (∀ y, Below v0.heap.size v0 y → y.heap[w.heap.size + 1]? = some (.cells #[.int .i64 0, .string ⟨#[]⟩, .slice none 0 0, .slice none 0 0] 25 (0, 0))) := Lib.hid (fun y hy => stood3 hy hz)
  obtain ⟨a0, ha0⟩ : ∃ k, q0 % 10 = k := ⟨_, rfl⟩
  obtain ⟨a1, ha1⟩ : ∃ k, q1 % 12 = k := ⟨_, rfl⟩
  obtain ⟨s2, hs2⟩ : ∃ k, q2 % 6 = k := ⟨_, rfl⟩
  obtain ⟨k3, hk3⟩ : ∃ k, q3 % 6 = k := ⟨_, rfl⟩
  obtain ⟨k4, hk4⟩ : ∃ k, q4 % 4 = k := ⟨_, rfl⟩
  obtain ⟨k5, hk5⟩ : ∃ k, q5 % 27 = k := ⟨_, rfl⟩
  have l0 : a0 < 10 := by omega
  have l1 : a1 < 12 := by omega
  have l2 : s2 < 6 := by omega
  obtain ⟨ST, hST⟩ : ∃ M, rstatN a0 = M := ⟨_, rfl⟩
  obtain ⟨SV, hSV⟩ : ∃ M, rsayB a1 = M := ⟨_, rfl⟩
  obtain ⟨VV, hVV⟩ : ∃ M, rvaryB s2 = M := ⟨_, rfl⟩
  have MC := Lib.hid (fun x => hST ▸ rstat_cell x a0 l0)
  have SVC := Lib.hid (fun x => hSV ▸ rsay_cell x a1 l1)
  have VVC := Lib.hid (fun x => hVV ▸ rvary_cell x s2 l2)
  have zST : Hid (ST ≤ 999) := Lib.hid (hST ▸ rstat_small a0 l0)
  have zSV : Hid (SV.size ≤ 1000) := Lib.hid (by have := rsay_small a1 l1; rw [hSV] at this; omega)
  have zVV : Hid (VV.size ≤ 1000) := Lib.hid (by have := rvary_small s2 l2; rw [hVV] at this; omega)
  have ma0 : (q0 : Int) % 10 = (a0 : Int) := by omega
  have ma0t : (q0 : Int).tmod 10 = (a0 : Int) := by rw [Int.tmod_eq_emod_of_nonneg (by omega)]; omega
  have ma1 : (q1 : Int) % 12 = (a1 : Int) := by omega
  have ma1t : (q1 : Int).tmod 12 = (a1 : Int) := by rw [Int.tmod_eq_emod_of_nonneg (by omega)]; omega
  have ms2 : (q2 : Int) % 6 = (s2 : Int) := by omega
  have ms2t : (q2 : Int).tmod 6 = (s2 : Int) := by rw [Int.tmod_eq_emod_of_nonneg (by omega)]; omega
  have mk3 : (q3 : Int) % 6 = (k3 : Int) := by omega
  have mk3t : (q3 : Int).tmod 6 = (k3 : Int) := by rw [Int.tmod_eq_emod_of_nonneg (by omega)]; omega
  have mk4 : (q4 : Int) % 4 = (k4 : Int) := by omega
  have mk4t : (q4 : Int).tmod 4 = (k4 : Int) := by rw [Int.tmod_eq_emod_of_nonneg (by omega)]; omega
  have mk5 : (q5 : Int) % 27 = (k5 : Int) := by omega
  have mk5t : (q5 : Int).tmod 27 = (k5 : Int) := by rw [Int.tmod_eq_emod_of_nonneg (by omega)]; omega
  have i0 : (a0 : Int) < 10 := by omega
  have i1 : (a1 : Int) < 12 := by omega
  have i2 : (s2 : Int) < 6 := by omega
  have i5 : (k5 : Int) ≤ 26 := by omega
  have HV := Lib.hid hv
  have HB0 := Lib.hid hb0
  have HS0 := Lib.hid hs0
  clear hv hb0 hs0 hq hz ha0 ha1 hs2 hk3 hk4 hk5 l1 l0 l2 hST hSV hVV z0 z1 z2 z3 z4 z5
  unfold RespMade
  go_enter Tryz.func10, Tryz.ntmps10
  go_upto_region 1 with (fail)
  change Code.wp _ _ _ _ ((w.alloc (.cells #[.int .u8 q0, .int .u8 q1, .int .u8 q2, .int .u8 q3, .int .u8 q4, .int .u8 q5] 31)).alloc (.cells #[.int .i64 0, .string ⟨#[]⟩, .slice none 0 0, .slice none 0 0] 25))
  rw [HV.out]
  go_cut [5] (fun s5 wx => ∃ p : Nat, s5 = .pointer (some ⟨p, 0, none⟩) ∧ Hid (v0.heap.size ≤ p) ∧ Hid (Msg 25 p 0 wx (.int .i64 (ST : Int)) (.string ⟨#[82]⟩) (.slice none 0 0) (.slice none 0 0) []) ∧ Hid (Below v0.heap.size v0 wx))
  case first =>
    obtain ⟨y1, hy1⟩ : ∃ x, v0.alloc (.cells #[.int .i64 200, .int .i64 200, .int .i64 200, .int .i64 200, .int .i64 304, .int .i64 404, .int .i64 500, .int .i64 204, .int .i64 301, .int .i64 206] 3) = x := ⟨_, rfl⟩
    have HX1 := Lib.hid hy1
    have hb1 : Below v0.heap.size v0 y1 := by rw [← hy1]; exact below_al (Below.refl _ _) _
    have kq := (HQ.out y1 hb1).1
    have ks := MC.out v0
    rw [hy1] at ks
    obtain ⟨y2, hy2⟩ : ∃ x, y1.alloc (.cells #[.int .i64 0, .string ⟨#[]⟩, .slice none 0 0, .slice none 0 0] 25) = x := ⟨_, rfl⟩
    have HX2 := Lib.hid hy2
    have HZ2 : Hid (y2.heap[y1.heap.size]? = some (.cells #[.int .i64 0, .string ⟨#[]⟩, .slice none 0 0, .slice none 0 0] 25 (0, 0))) := Lib.hid (by rw [← hy2]; exact heap_alloc_new _ _)
    have HB2 : Hid (Below v0.heap.size v0 y2) := Lib.hid (by rw [← hy2]; exact below_al hb1 _)
    have HP1 : Hid (v0.heap.size ≤ y1.heap.size) := Lib.hid hb1.size
    clear hy1 hy2 hb1
    go_wp2_with (first | ((with_reducible show wpList _ _ _ (⟨some 9, _, _, _, _, _⟩ :: _) _ _); (change wpList _ _ _ _ _ (v0.alloc (.cells #[.int .i64 200, .int .i64 200, .int .i64 200, .int .i64 200, .int .i64 304, .int .i64 404, .int .i64 500, .int .i64 204, .int .i64 301, .int .i64 206] 3))); rw [HX1.out]) | ((with_reducible show wpList _ _ _ (⟨none, .store 25 _ _, _, _, _, _⟩ :: _) _ _); (change wpList _ _ _ _ _ (y1.alloc (.cells #[.int .i64 0, .string ⟨#[]⟩, .slice none 0 0, .slice none 0 0] 25))); rw [HX2.out]; refine wpList_store_mid rfl 25 (.tmp 5) (.tmp 14) rfl y1.heap.size 0 #[.int .i64 (ST : Int), .string ⟨#[82]⟩, .slice none 0 0, .slice none 0 0] rfl rfl (there_of HZ2.out 0 4 (by simp)) info_resp (by simp [Value.oneCell']) ?_))
    go_meet
    exact ⟨_, rfl, HP1, Lib.hid ⟨heap_setCells (g := y1.heap.size) (t := 25) [.int .i64 (ST : Int), .string ⟨#[82]⟩, .slice none 0 0, .slice none 0 0] [] [.int .i64 0, .string ⟨#[]⟩, .slice none 0 0, .slice none 0 0] [] y2 HZ2.out rfl, World.ownsRow_nil _ _ _ _, Nat.le_refl _, small_nil⟩, Lib.hid (bl_set HB2.out HP1.out)⟩
  case rest =>
    obtain ⟨p, rfl, HPG, HM, HBW⟩ := hcut
    have HPW : Hid (w.heap.size + 2 ≤ p) := Lib.hid (by have := HPG.out; have := HS0.out; omega)
    obtain ⟨w3, hw3⟩ : ∃ x, wc.alloc (.cells #[.string ⟨#[109, 97, 120, 45, 97, 103, 101, 61, 49, 48]⟩, .string ⟨#[109, 97, 120, 45, 97, 103, 101, 61, 49, 48]⟩, .string ⟨#[109, 97, 120, 45, 97, 103, 101, 61, 51, 48]⟩, .string ⟨#[]⟩, .string ⟨#[110, 111, 45, 115, 116, 111, 114, 101]⟩, .string ⟨#[112, 114, 105, 118, 97, 116, 101]⟩, .string ⟨#[110, 111, 45, 99, 97, 99, 104, 101]⟩, .string ⟨#[112, 117, 98, 108, 105, 99]⟩, .string ⟨#[115, 45, 109, 97, 120, 97, 103, 101, 61, 55]⟩, .string ⟨#[109, 97, 120, 45, 97, 103, 101, 61, 49, 48, 44, 32, 109, 117, 115, 116, 45, 114, 101, 118, 97, 108, 105, 100, 97, 116, 101]⟩, .string ⟨#[109, 97, 120, 45, 97, 103, 101, 61, 48]⟩, .string ⟨#[109, 97, 120, 45, 97, 103, 101, 61, 49, 48, 44, 32, 112, 117, 98, 108, 105, 99]⟩] 9) = x := ⟨_, rfl⟩
    have hbn : Below wc.heap.size wc w3 := by rw [← hw3]; exact below_al (Below.refl _ _) _
    have HX3 := Lib.hid hw3
    have HM3 := Lib.hid (HM.out.below hbn)
    have HB3 := Lib.hid (HBW.out.trans (hbn.mono HBW.out.size))
    have kq := (HQ.out w3 HB3.out).2.1
    have ks := SVC.out wc
    rw [hw3] at ks
    clear hw3 hbn
    go_upto_if 22 with ((with_reducible show wpList _ _ _ (⟨some 16, _, _, _, _, _⟩ :: _) _ _); (change wpList _ _ _ _ _ (wc.alloc (.cells #[.string ⟨#[109, 97, 120, 45, 97, 103, 101, 61, 49, 48]⟩, .string ⟨#[109, 97, 120, 45, 97, 103, 101, 61, 49, 48]⟩, .string ⟨#[109, 97, 120, 45, 97, 103, 101, 61, 51, 48]⟩, .string ⟨#[]⟩, .string ⟨#[110, 111, 45, 115, 116, 111, 114, 101]⟩, .string ⟨#[112, 114, 105, 118, 97, 116, 101]⟩, .string ⟨#[110, 111, 45, 99, 97, 99, 104, 101]⟩, .string ⟨#[112, 117, 98, 108, 105, 99]⟩, .string ⟨#[115, 45, 109, 97, 120, 97, 103, 101, 61, 55]⟩, .string ⟨#[109, 97, 120, 45, 97, 103, 101, 61, 49, 48, 44, 32, 109, 117, 115, 116, 45, 114, 101, 118, 97, 108, 105, 100, 97, 116, 101]⟩, .string ⟨#[109, 97, 120, 45, 97, 103, 101, 61, 48]⟩, .string ⟨#[109, 97, 120, 45, 97, 103, 101, 61, 49, 48, 44, 32, 112, 117, 98, 108, 105, 99]⟩] 9))); rw [HX3.out])
    clear kq ks HX3
    go_cut [] (fun wx => ∃ fa n fc L, Hid (Msg 25 p 3 wx (.int .i64 (ST : Int)) (.string ⟨#[82]⟩) (.slice fa n fc) (.slice none 0 0) L) ∧ Hid (Below v0.heap.size v0 wx))
    case first =>
      obtain ⟨b5, hb5⟩ : ∃ b, (!SV.toList.isEmpty) = b := ⟨_, rfl⟩
      rw [hb5]
      clear hb5
      cases b5 with
      | false =>
        go_wp2_with fail
        go_meet
        exact ⟨_, _, _, _, Lib.hid (HM3.out.more (by decide)), HB3⟩
      | true =>
        obtain ⟨y1, hy1⟩ : ∃ x, w3.alloc (.cells #[.string ⟨#[67, 97, 99, 104, 101, 45, 67, 111, 110, 116, 114, 111, 108]⟩, .string SV] 43) = x := ⟨_, rfl⟩
        have HX1 := Lib.hid hy1
        have hbn : Below w3.heap.size w3 y1 := by rw [← hy1]; exact below_al (Below.refl _ _) _
        have HM1 := Lib.hid (HM3.out.below hbn)
        have HD1 := Lib.hid (HB3.out.trans (hbn.mono HB3.out.size))
        have HF1 : Hid (FieldsIn y1.heap.size y1 (some ⟨w3.heap.size, 0, none⟩) [(⟨#[67, 97, 99, 104, 101, 45, 67, 111, 110, 116, 114, 111, 108]⟩, SV)]) := Lib.hid (row_at (l := [(⟨#[67, 97, 99, 104, 101, 45, 67, 111, 110, 116, 114, 111, 108]⟩, SV)]) (by rw [← hy1]; exact heap_alloc_new w3 _))
        clear hy1 hbn
        have kx := (four_at HM3.out.block).2.2.1
        go_wp2_with ((with_reducible show wpList _ _ _ (⟨some 28, _, _, _, _, _⟩ :: _) _ _); (change wpList _ _ _ _ _ (w3.alloc (.cells #[.string ⟨#[67, 97, 99, 104, 101, 45, 67, 111, 110, 116, 114, 111, 108]⟩, .string SV] 43))); rw [HX1.out]; refine wpList_plain rfl fun K' hK' => ?_; refine wp_msg_append HM1.out (by decide) (.tmp 24) (.tmp 27) rfl 28 rfl rfl (some ⟨w3.heap.size, 0, none⟩) 1 1 [(⟨#[67, 97, 99, 104, 101, 45, 67, 111, 110, 116, 114, 111, 108]⟩, SV)] rfl rfl HF1.out (fun e => by cases e) (by simp) (small_one (by decide) zSV.out) rfl ?_; intro fa2 n2 fc2 x3 s2_ sf HN HF HGR; refine hK' _ _ ?_)
        go_meet
        exact ⟨fa2, n2, fc2, _, HN, Lib.hid (HF.out v0 HPG.out HD1.out)⟩
    case rest =>
      clear HM HBW HM3 HB3
      obtain ⟨fa, n, fc, L, HM, HBW⟩ := hcut
      obtain ⟨w3, hw3⟩ : ∃ x, wc.alloc (.cells #[.string ⟨#[]⟩, .string ⟨#[]⟩, .string ⟨#[]⟩, .string ⟨#[65, 99, 99, 101, 112, 116]⟩, .string ⟨#[97, 99, 99, 101, 112, 116, 44, 32, 108, 97, 110, 103]⟩, .string ⟨#[42]⟩] 9) = x := ⟨_, rfl⟩
      have hbn : Below wc.heap.size wc w3 := by rw [← hw3]; exact below_al (Below.refl _ _) _
      have HX3 := Lib.hid hw3
      have HM3 := Lib.hid (HM.out.below hbn)
      have HB3 := Lib.hid (HBW.out.trans (hbn.mono HBW.out.size))
      have kq := (HQ.out w3 HB3.out).2.2.1
      have ks := VVC.out wc
      rw [hw3] at ks
      clear hw3 hbn
      go_upto_if 37 with ((with_reducible show wpList _ _ _ (⟨some 31, _, _, _, _, _⟩ :: _) _ _); (change wpList _ _ _ _ _ (wc.alloc (.cells #[.string ⟨#[]⟩, .string ⟨#[]⟩, .string ⟨#[]⟩, .string ⟨#[65, 99, 99, 101, 112, 116]⟩, .string ⟨#[97, 99, 99, 101, 112, 116, 44, 32, 108, 97, 110, 103]⟩, .string ⟨#[42]⟩] 9))); rw [HX3.out])
      clear kq ks HX3
      go_cut [] (fun wx => ∃ fa n fc L, Hid (Msg 25 p 6 wx (.int .i64 (ST : Int)) (.string ⟨#[82]⟩) (.slice fa n fc) (.slice none 0 0) L) ∧ Hid (Below v0.heap.size v0 wx))
      case first =>
        obtain ⟨b5, hb5⟩ : ∃ b, (!VV.toList.isEmpty) = b := ⟨_, rfl⟩
        rw [hb5]
        clear hb5
        cases b5 with
        | false =>
          go_wp2_with fail
          go_meet
          exact ⟨_, _, _, _, Lib.hid (HM3.out.more (by decide)), HB3⟩
        | true =>
          obtain ⟨y1, hy1⟩ : ∃ x, w3.alloc (.cells #[.string ⟨#[86, 97, 114, 121]⟩, .string VV] 43) = x := ⟨_, rfl⟩
          have HX1 := Lib.hid hy1
          have hbn : Below w3.heap.size w3 y1 := by rw [← hy1]; exact below_al (Below.refl _ _) _
          have HM1 := Lib.hid (HM3.out.below hbn)
          have HD1 := Lib.hid (HB3.out.trans (hbn.mono HB3.out.size))
          have HF1 : Hid (FieldsIn y1.heap.size y1 (some ⟨w3.heap.size, 0, none⟩) [(⟨#[86, 97, 114, 121]⟩, VV)]) := Lib.hid (row_at (l := [(⟨#[86, 97, 114, 121]⟩, VV)]) (by rw [← hy1]; exact heap_alloc_new w3 _))
          clear hy1 hbn
          have kx := (four_at HM3.out.block).2.2.1
          go_wp2_with ((with_reducible show wpList _ _ _ (⟨some 43, _, _, _, _, _⟩ :: _) _ _); (change wpList _ _ _ _ _ (w3.alloc (.cells #[.string ⟨#[86, 97, 114, 121]⟩, .string VV] 43))); rw [HX1.out]; refine wpList_plain rfl fun K' hK' => ?_; refine wp_msg_append HM1.out (by decide) (.tmp 39) (.tmp 42) rfl 43 rfl rfl (some ⟨w3.heap.size, 0, none⟩) 1 1 [(⟨#[86, 97, 114, 121]⟩, VV)] rfl rfl HF1.out (fun e => by cases e) (by simp) (small_one (by decide) zVV.out) rfl ?_; intro fa2 n2 fc2 x3 s2_ sf HN HF HGR; refine hK' _ _ ?_)
          go_meet
          exact ⟨fa2, n2, fc2, _, HN, Lib.hid (HF.out v0 HPG.out HD1.out)⟩
      case rest =>
        clear HM HBW HM3 HB3
        obtain ⟨fa, n, fc, L, HM, HBW⟩ := hcut
        have kq := (HQ.out wc HBW.out).2.2.2.1
        go_upto_block 0 with (fail)
        clear kq
        go_cut [] (fun wx => ∃ fa n fc L, Hid (Msg 25 p 9 wx (.int .i64 (ST : Int)) (.string ⟨#[82]⟩) (.slice fa n fc) (.slice none 0 0) L) ∧ Hid (Below v0.heap.size v0 wx))
        case first =>
          by_cases h0_ : k3 = 0
          · subst h0_
            have HDd : Hid (Below v0.heap.size v0 wc.drew) := Lib.hid HBW.out.drew
            have HMd := Lib.hid (HM.out.below ((Below.refl _ _).drew))
            go_upto_region 11 with (fail)
            refine wp_region_held_drew (S := fun _ => True) (by kernel_rfl) trivial (fun hH => ?_)
            obtain ⟨x0, hx0⟩ : ∃ y, wc.drew = y := ⟨_, rfl⟩
            rw [hx0] at HDd HMd ⊢
            clear hx0
            refine wpAnyH_takeTo (i := 0) (d := some 51) (v := .pointer (some ⟨p, 2, none⟩)) rfl rfl (by kernel_rfl) (by kernel_rfl) (by kernel_rfl) (fun _ _ _ h => h) (Or.inl ⟨by rfl, fun x hx => ?_⟩) hH ?_
            · have f0 := hx
              go_simp
            try simp only [Act.put, List.setIfInBounds_toArray, List.set_cons_zero, List.set_cons_succ]
            refine wpAnyH_takeTo (i := 2) (d := some 53) (v := .int .i64 now) rfl rfl (by kernel_rfl) (by kernel_rfl) (by kernel_rfl) (fun _ _ _ h => h) (Or.inl ⟨by rfl, fun x hx => ?_⟩) hH ?_
            · have f0 := hx
              go_simp
            try simp only [Act.put, List.setIfInBounds_toArray, List.set_cons_zero, List.set_cons_succ]
            refine wpAnyH_ready (rs := [1, 3]) (by kernel_rfl) (by simp) (AllReadyH.cons rfl (fun K hK => ?_) (AllReadyH.cons rfl (fun K hK => ?_) AllReadyH.nil))
            · rw [if_pos (by rfl)]
              have kx := (four_at HMd.out.block).2.2.1
              go_simp
              clear kx
              refine hK.out _ _ trivial (fun hH => ?_)
              clear hK K
              try simp only [Act.put, List.setIfInBounds_toArray, List.set_cons_zero, List.set_cons_succ]
              refine wpAnyH_ready (rs := [3]) (by kernel_rfl) (by simp) (AllReadyH.cons rfl (fun K hK => ?_) AllReadyH.nil)
              · rw [if_pos (by rfl)]
                go_simp
                go_at_call 20
                refine Calls.mono (textS_any _ _) ?_
                rintro e z1 ⟨sz1, rfl, zz, hbn⟩
                have Zz1 : Hid (sz1.size ≤ 1000) := Lib.hid (by omega)
                have HMz1 := Lib.hid (HMd.out.below hbn)
                have HDz1 := Lib.hid (HDd.out.trans (hbn.mono HDd.out.size))
                refine hK.out _ _ trivial (fun hH => ?_)
                clear hK K hbn zz
                try simp only [Act.put, List.setIfInBounds_toArray, List.set_cons_zero, List.set_cons_succ]
                refine wpAnyH_takeTo (i := 4) (d := some 55) (v := .agg #[.string ⟨#[68, 97, 116, 101]⟩, .string sz1]) rfl rfl (by kernel_rfl) (by kernel_rfl) (by kernel_rfl) (fun _ _ _ h => h) (Or.inl ⟨by rfl, fun x hx => ?_⟩) hH ?_
                · have f0 := hx
                  go_simp
                try simp only [Act.put, List.setIfInBounds_toArray, List.set_cons_zero, List.set_cons_succ]
                refine wpAnyH_ready (rs := [5]) (by kernel_rfl) (by simp) (AllReadyH.cons rfl (fun K hK => ?_) AllReadyH.nil)
                · rw [if_pos (by rfl)]
                  go_simp
                  obtain ⟨z2, hy⟩ : ∃ y, z1.alloc (.cells #[.string ⟨#[68, 97, 116, 101]⟩, .string sz1] 43) = y := ⟨_, rfl⟩
                  have hbn : Below z1.heap.size z1 z2 := by rw [← hy]; exact below_al (Below.refl _ _) _
                  have HMz2 := Lib.hid (HMz1.out.below hbn)
                  have HDz2 := Lib.hid (HDz1.out.trans (hbn.mono HDz1.out.size))
                  have HFz2 : Hid (FieldsIn z2.heap.size z2 (some ⟨z1.heap.size, 0, none⟩) [(⟨#[68, 97, 116, 101]⟩, sz1)]) := Lib.hid (row_at (l := [(⟨#[68, 97, 116, 101]⟩, sz1)]) (by rw [← hy]; exact heap_alloc_new z1 _))
                  change K _ (z1.alloc (.cells #[.string ⟨#[68, 97, 116, 101]⟩, .string sz1] 43))
                  rw [hy]
                  refine hK.out _ _ trivial (fun hH => ?_)
                  clear hK K hy hbn
                  try simp only [Act.put, List.setIfInBounds_toArray, List.set_cons_zero, List.set_cons_succ]
                  refine wpAnyH_ready (rs := [6]) (by kernel_rfl) (by simp) (AllReadyH.cons rfl (fun K hK => ?_) AllReadyH.nil)
                  · rw [if_pos (by rfl)]
                    refine wp_msg_append HMz2.out (by decide) (.tmp 52) (.tmp 56) rfl 57 rfl rfl (some ⟨z1.heap.size, 0, none⟩) 1 1 [(⟨#[68, 97, 116, 101]⟩, sz1)] rfl rfl HFz2.out (fun e => by cases e) (by simp) (small_one (by decide) Zz1.out) rfl ?_
                    intro fa2 n2 fc2 x3 s2_ sf HN HF HGR
                    refine hK.out _ _ trivial (fun hH => ?_)
                    clear hK K
                    try simp only [Act.put, List.setIfInBounds_toArray, List.set_cons_zero, List.set_cons_succ]
                    refine wpAnyH_takeTo (i := 7) (d := some 58) (v := .pointer (some ⟨p, 2, none⟩)) rfl rfl (by kernel_rfl) (by kernel_rfl) (by kernel_rfl) (fun _ _ _ h => h) (Or.inl ⟨by rfl, fun x hx => ?_⟩) hH ?_
                    · have f0 := hx
                      go_simp
                    try simp only [Act.put, List.setIfInBounds_toArray, List.set_cons_zero, List.set_cons_succ]
                    refine wpAnyH_stepTo (i := 8) (d := none) (by kernel_rfl) rfl rfl (by rfl) (fun _ y => y = x3.setCell ⟨p, 2, none⟩ (.slice fa2 n2 fc2)) (fun K hK => ?_) ?_
                    · go_simp
                      exact hK (.bool true) _ rfl
                    rintro _ _ rfl
                    refine ⟨trivial, ?_⟩
                    refine wpAnyH_done (by kernel_rfl) ?_ _
                    go_wp2_with fail
                    go_meet
                    exact ⟨fa2, n2, fc2, _, HN, Lib.hid (HF.out v0 HPG.out HDz2.out)⟩
            · rw [if_pos (by rfl)]
              go_simp
              go_at_call 20
              refine Calls.mono (textS_any _ _) ?_
              rintro e z4 ⟨sz4, rfl, zz, hbn⟩
              have Zz4 : Hid (sz4.size ≤ 1000) := Lib.hid (by omega)
              have HMz4 := Lib.hid (HMd.out.below hbn)
              have HDz4 := Lib.hid (HDd.out.trans (hbn.mono HDd.out.size))
              refine hK.out _ _ trivial (fun hH => ?_)
              clear hK K hbn zz
              try simp only [Act.put, List.setIfInBounds_toArray, List.set_cons_zero, List.set_cons_succ]
              refine wpAnyH_takeTo (i := 4) (d := some 55) (v := .agg #[.string ⟨#[68, 97, 116, 101]⟩, .string sz4]) rfl rfl (by kernel_rfl) (by kernel_rfl) (by kernel_rfl) (fun _ _ _ h => h) (Or.inl ⟨by rfl, fun x hx => ?_⟩) hH ?_
              · have f0 := hx
                go_simp
              try simp only [Act.put, List.setIfInBounds_toArray, List.set_cons_zero, List.set_cons_succ]
              refine wpAnyH_ready (rs := [1, 5]) (by kernel_rfl) (by simp) (AllReadyH.cons rfl (fun K hK => ?_) (AllReadyH.cons rfl (fun K hK => ?_) AllReadyH.nil))
              · rw [if_pos (by rfl)]
                have kx := (four_at HMz4.out.block).2.2.1
                go_simp
                clear kx
                refine hK.out _ _ trivial (fun hH => ?_)
                clear hK K
                try simp only [Act.put, List.setIfInBounds_toArray, List.set_cons_zero, List.set_cons_succ]
                refine wpAnyH_ready (rs := [5]) (by kernel_rfl) (by simp) (AllReadyH.cons rfl (fun K hK => ?_) AllReadyH.nil)
                · rw [if_pos (by rfl)]
                  go_simp
                  obtain ⟨z5, hy⟩ : ∃ y, z4.alloc (.cells #[.string ⟨#[68, 97, 116, 101]⟩, .string sz4] 43) = y := ⟨_, rfl⟩
                  have hbn : Below z4.heap.size z4 z5 := by rw [← hy]; exact below_al (Below.refl _ _) _
                  have HMz5 := Lib.hid (HMz4.out.below hbn)
                  have HDz5 := Lib.hid (HDz4.out.trans (hbn.mono HDz4.out.size))
                  have HFz5 : Hid (FieldsIn z5.heap.size z5 (some ⟨z4.heap.size, 0, none⟩) [(⟨#[68, 97, 116, 101]⟩, sz4)]) := Lib.hid (row_at (l := [(⟨#[68, 97, 116, 101]⟩, sz4)]) (by rw [← hy]; exact heap_alloc_new z4 _))
                  change K _ (z4.alloc (.cells #[.string ⟨#[68, 97, 116, 101]⟩, .string sz4] 43))
                  rw [hy]
                  refine hK.out _ _ trivial (fun hH => ?_)
                  clear hK K hy hbn
                  try simp only [Act.put, List.setIfInBounds_toArray, List.set_cons_zero, List.set_cons_succ]
                  refine wpAnyH_ready (rs := [6]) (by kernel_rfl) (by simp) (AllReadyH.cons rfl (fun K hK => ?_) AllReadyH.nil)
                  · rw [if_pos (by rfl)]
                    refine wp_msg_append HMz5.out (by decide) (.tmp 52) (.tmp 56) rfl 57 rfl rfl (some ⟨z4.heap.size, 0, none⟩) 1 1 [(⟨#[68, 97, 116, 101]⟩, sz4)] rfl rfl HFz5.out (fun e => by cases e) (by simp) (small_one (by decide) Zz4.out) rfl ?_
                    intro fa2 n2 fc2 x3 s2_ sf HN HF HGR
                    refine hK.out _ _ trivial (fun hH => ?_)
                    clear hK K
                    try simp only [Act.put, List.setIfInBounds_toArray, List.set_cons_zero, List.set_cons_succ]
                    refine wpAnyH_takeTo (i := 7) (d := some 58) (v := .pointer (some ⟨p, 2, none⟩)) rfl rfl (by kernel_rfl) (by kernel_rfl) (by kernel_rfl) (fun _ _ _ h => h) (Or.inl ⟨by rfl, fun x hx => ?_⟩) hH ?_
                    · have f0 := hx
                      go_simp
                    try simp only [Act.put, List.setIfInBounds_toArray, List.set_cons_zero, List.set_cons_succ]
                    refine wpAnyH_stepTo (i := 8) (d := none) (by kernel_rfl) rfl rfl (by rfl) (fun _ y => y = x3.setCell ⟨p, 2, none⟩ (.slice fa2 n2 fc2)) (fun K hK => ?_) ?_
                    · go_simp
                      exact hK (.bool true) _ rfl
                    rintro _ _ rfl
                    refine ⟨trivial, ?_⟩
                    refine wpAnyH_done (by kernel_rfl) ?_ _
                    go_wp2_with fail
                    go_meet
                    exact ⟨fa2, n2, fc2, _, HN, Lib.hid (HF.out v0 HPG.out HDz5.out)⟩
              · rw [if_pos (by rfl)]
                go_simp
                obtain ⟨z7, hy⟩ : ∃ y, z4.alloc (.cells #[.string ⟨#[68, 97, 116, 101]⟩, .string sz4] 43) = y := ⟨_, rfl⟩
                have hbn : Below z4.heap.size z4 z7 := by rw [← hy]; exact below_al (Below.refl _ _) _
                have HMz7 := Lib.hid (HMz4.out.below hbn)
                have HDz7 := Lib.hid (HDz4.out.trans (hbn.mono HDz4.out.size))
                have HFz7 : Hid (FieldsIn z7.heap.size z7 (some ⟨z4.heap.size, 0, none⟩) [(⟨#[68, 97, 116, 101]⟩, sz4)]) := Lib.hid (row_at (l := [(⟨#[68, 97, 116, 101]⟩, sz4)]) (by rw [← hy]; exact heap_alloc_new z4 _))
                change K _ (z4.alloc (.cells #[.string ⟨#[68, 97, 116, 101]⟩, .string sz4] 43))
                rw [hy]
                refine hK.out _ _ trivial (fun hH => ?_)
                clear hK K hy hbn
                try simp only [Act.put, List.setIfInBounds_toArray, List.set_cons_zero, List.set_cons_succ]
                refine wpAnyH_ready (rs := [1]) (by kernel_rfl) (by simp) (AllReadyH.cons rfl (fun K hK => ?_) AllReadyH.nil)
                · rw [if_pos (by rfl)]
                  have kx := (four_at HMz7.out.block).2.2.1
                  go_simp
                  clear kx
                  refine hK.out _ _ trivial (fun hH => ?_)
                  clear hK K
                  try simp only [Act.put, List.setIfInBounds_toArray, List.set_cons_zero, List.set_cons_succ]
                  refine wpAnyH_ready (rs := [6]) (by kernel_rfl) (by simp) (AllReadyH.cons rfl (fun K hK => ?_) AllReadyH.nil)
                  · rw [if_pos (by rfl)]
                    refine wp_msg_append HMz7.out (by decide) (.tmp 52) (.tmp 56) rfl 57 rfl rfl (some ⟨z4.heap.size, 0, none⟩) 1 1 [(⟨#[68, 97, 116, 101]⟩, sz4)] rfl rfl HFz7.out (fun e => by cases e) (by simp) (small_one (by decide) Zz4.out) rfl ?_
                    intro fa2 n2 fc2 x3 s2_ sf HN HF HGR
                    refine hK.out _ _ trivial (fun hH => ?_)
                    clear hK K
                    try simp only [Act.put, List.setIfInBounds_toArray, List.set_cons_zero, List.set_cons_succ]
                    refine wpAnyH_takeTo (i := 7) (d := some 58) (v := .pointer (some ⟨p, 2, none⟩)) rfl rfl (by kernel_rfl) (by kernel_rfl) (by kernel_rfl) (fun _ _ _ h => h) (Or.inl ⟨by rfl, fun x hx => ?_⟩) hH ?_
                    · have f0 := hx
                      go_simp
                    try simp only [Act.put, List.setIfInBounds_toArray, List.set_cons_zero, List.set_cons_succ]
                    refine wpAnyH_stepTo (i := 8) (d := none) (by kernel_rfl) rfl rfl (by rfl) (fun _ y => y = x3.setCell ⟨p, 2, none⟩ (.slice fa2 n2 fc2)) (fun K hK => ?_) ?_
                    · go_simp
                      exact hK (.bool true) _ rfl
                    rintro _ _ rfl
                    refine ⟨trivial, ?_⟩
                    refine wpAnyH_done (by kernel_rfl) ?_ _
                    go_wp2_with fail
                    go_meet
                    exact ⟨fa2, n2, fc2, _, HN, Lib.hid (HF.out v0 HPG.out HDz7.out)⟩
          have g0_ : ((k3 : Int) == 0) = false := by simp; omega
          by_cases h1_ : k3 = 1
          · subst h1_
            have HDd : Hid (Below v0.heap.size v0 wc.drew) := Lib.hid HBW.out.drew
            have HMd := Lib.hid (HM.out.below ((Below.refl _ _).drew))
            go_upto_region 11 with (fail)
            refine wp_region_held_drew (S := fun _ => True) (by kernel_rfl) trivial (fun hH => ?_)
            obtain ⟨x0, hx0⟩ : ∃ y, wc.drew = y := ⟨_, rfl⟩
            rw [hx0] at HDd HMd ⊢
            clear hx0
            refine wpAnyH_takeTo (i := 0) (d := some 51) (v := .pointer (some ⟨p, 2, none⟩)) rfl rfl (by kernel_rfl) (by kernel_rfl) (by kernel_rfl) (fun _ _ _ h => h) (Or.inl ⟨by rfl, fun x hx => ?_⟩) hH ?_
            · have f0 := hx
              go_simp
            try simp only [Act.put, List.setIfInBounds_toArray, List.set_cons_zero, List.set_cons_succ]
            refine wpAnyH_takeTo (i := 2) (d := some 53) (v := .int .i64 now) rfl rfl (by kernel_rfl) (by kernel_rfl) (by kernel_rfl) (fun _ _ _ h => h) (Or.inl ⟨by rfl, fun x hx => ?_⟩) hH ?_
            · have f0 := hx
              go_simp
            try simp only [Act.put, List.setIfInBounds_toArray, List.set_cons_zero, List.set_cons_succ]
            refine wpAnyH_ready (rs := [1, 3]) (by kernel_rfl) (by simp) (AllReadyH.cons rfl (fun K hK => ?_) (AllReadyH.cons rfl (fun K hK => ?_) AllReadyH.nil))
            · rw [if_pos (by rfl)]
              have kx := (four_at HMd.out.block).2.2.1
              go_simp
              clear kx
              refine hK.out _ _ trivial (fun hH => ?_)
              clear hK K
              try simp only [Act.put, List.setIfInBounds_toArray, List.set_cons_zero, List.set_cons_succ]
              refine wpAnyH_ready (rs := [3]) (by kernel_rfl) (by simp) (AllReadyH.cons rfl (fun K hK => ?_) AllReadyH.nil)
              · rw [if_pos (by rfl)]
                go_simp
                go_at_call 20
                refine Calls.mono (textS_any _ _) ?_
                rintro e z1 ⟨sz1, rfl, zz, hbn⟩
                have Zz1 : Hid (sz1.size ≤ 1000) := Lib.hid (by omega)
                have HMz1 := Lib.hid (HMd.out.below hbn)
                have HDz1 := Lib.hid (HDd.out.trans (hbn.mono HDd.out.size))
                refine hK.out _ _ trivial (fun hH => ?_)
                clear hK K hbn zz
                try simp only [Act.put, List.setIfInBounds_toArray, List.set_cons_zero, List.set_cons_succ]
                refine wpAnyH_takeTo (i := 4) (d := some 55) (v := .agg #[.string ⟨#[68, 97, 116, 101]⟩, .string sz1]) rfl rfl (by kernel_rfl) (by kernel_rfl) (by kernel_rfl) (fun _ _ _ h => h) (Or.inl ⟨by rfl, fun x hx => ?_⟩) hH ?_
                · have f0 := hx
                  go_simp
                try simp only [Act.put, List.setIfInBounds_toArray, List.set_cons_zero, List.set_cons_succ]
                refine wpAnyH_ready (rs := [5]) (by kernel_rfl) (by simp) (AllReadyH.cons rfl (fun K hK => ?_) AllReadyH.nil)
                · rw [if_pos (by rfl)]
                  go_simp
                  obtain ⟨z2, hy⟩ : ∃ y, z1.alloc (.cells #[.string ⟨#[68, 97, 116, 101]⟩, .string sz1] 43) = y := ⟨_, rfl⟩
                  have hbn : Below z1.heap.size z1 z2 := by rw [← hy]; exact below_al (Below.refl _ _) _
                  have HMz2 := Lib.hid (HMz1.out.below hbn)
                  have HDz2 := Lib.hid (HDz1.out.trans (hbn.mono HDz1.out.size))
                  have HFz2 : Hid (FieldsIn z2.heap.size z2 (some ⟨z1.heap.size, 0, none⟩) [(⟨#[68, 97, 116, 101]⟩, sz1)]) := Lib.hid (row_at (l := [(⟨#[68, 97, 116, 101]⟩, sz1)]) (by rw [← hy]; exact heap_alloc_new z1 _))
                  change K _ (z1.alloc (.cells #[.string ⟨#[68, 97, 116, 101]⟩, .string sz1] 43))
                  rw [hy]
                  refine hK.out _ _ trivial (fun hH => ?_)
                  clear hK K hy hbn
                  try simp only [Act.put, List.setIfInBounds_toArray, List.set_cons_zero, List.set_cons_succ]
                  refine wpAnyH_ready (rs := [6]) (by kernel_rfl) (by simp) (AllReadyH.cons rfl (fun K hK => ?_) AllReadyH.nil)
                  · rw [if_pos (by rfl)]
                    refine wp_msg_append HMz2.out (by decide) (.tmp 52) (.tmp 56) rfl 57 rfl rfl (some ⟨z1.heap.size, 0, none⟩) 1 1 [(⟨#[68, 97, 116, 101]⟩, sz1)] rfl rfl HFz2.out (fun e => by cases e) (by simp) (small_one (by decide) Zz1.out) rfl ?_
                    intro fa2 n2 fc2 x3 s2_ sf HN HF HGR
                    refine hK.out _ _ trivial (fun hH => ?_)
                    clear hK K
                    try simp only [Act.put, List.setIfInBounds_toArray, List.set_cons_zero, List.set_cons_succ]
                    refine wpAnyH_takeTo (i := 7) (d := some 58) (v := .pointer (some ⟨p, 2, none⟩)) rfl rfl (by kernel_rfl) (by kernel_rfl) (by kernel_rfl) (fun _ _ _ h => h) (Or.inl ⟨by rfl, fun x hx => ?_⟩) hH ?_
                    · have f0 := hx
                      go_simp
                    try simp only [Act.put, List.setIfInBounds_toArray, List.set_cons_zero, List.set_cons_succ]
                    refine wpAnyH_stepTo (i := 8) (d := none) (by kernel_rfl) rfl rfl (by rfl) (fun _ y => y = x3.setCell ⟨p, 2, none⟩ (.slice fa2 n2 fc2)) (fun K hK => ?_) ?_
                    · go_simp
                      exact hK (.bool true) _ rfl
                    rintro _ _ rfl
                    refine ⟨trivial, ?_⟩
                    refine wpAnyH_done (by kernel_rfl) ?_ _
                    go_wp2_with fail
                    go_meet
                    exact ⟨fa2, n2, fc2, _, HN, Lib.hid (HF.out v0 HPG.out HDz2.out)⟩
            · rw [if_pos (by rfl)]
              go_simp
              go_at_call 20
              refine Calls.mono (textS_any _ _) ?_
              rintro e z4 ⟨sz4, rfl, zz, hbn⟩
              have Zz4 : Hid (sz4.size ≤ 1000) := Lib.hid (by omega)
              have HMz4 := Lib.hid (HMd.out.below hbn)
              have HDz4 := Lib.hid (HDd.out.trans (hbn.mono HDd.out.size))
              refine hK.out _ _ trivial (fun hH => ?_)
              clear hK K hbn zz
              try simp only [Act.put, List.setIfInBounds_toArray, List.set_cons_zero, List.set_cons_succ]
              refine wpAnyH_takeTo (i := 4) (d := some 55) (v := .agg #[.string ⟨#[68, 97, 116, 101]⟩, .string sz4]) rfl rfl (by kernel_rfl) (by kernel_rfl) (by kernel_rfl) (fun _ _ _ h => h) (Or.inl ⟨by rfl, fun x hx => ?_⟩) hH ?_
              · have f0 := hx
                go_simp
              try simp only [Act.put, List.setIfInBounds_toArray, List.set_cons_zero, List.set_cons_succ]
              refine wpAnyH_ready (rs := [1, 5]) (by kernel_rfl) (by simp) (AllReadyH.cons rfl (fun K hK => ?_) (AllReadyH.cons rfl (fun K hK => ?_) AllReadyH.nil))
              · rw [if_pos (by rfl)]
                have kx := (four_at HMz4.out.block).2.2.1
                go_simp
                clear kx
                refine hK.out _ _ trivial (fun hH => ?_)
                clear hK K
                try simp only [Act.put, List.setIfInBounds_toArray, List.set_cons_zero, List.set_cons_succ]
                refine wpAnyH_ready (rs := [5]) (by kernel_rfl) (by simp) (AllReadyH.cons rfl (fun K hK => ?_) AllReadyH.nil)
                · rw [if_pos (by rfl)]
                  go_simp
                  obtain ⟨z5, hy⟩ : ∃ y, z4.alloc (.cells #[.string ⟨#[68, 97, 116, 101]⟩, .string sz4] 43) = y := ⟨_, rfl⟩
                  have hbn : Below z4.heap.size z4 z5 := by rw [← hy]; exact below_al (Below.refl _ _) _
                  have HMz5 := Lib.hid (HMz4.out.below hbn)
                  have HDz5 := Lib.hid (HDz4.out.trans (hbn.mono HDz4.out.size))
                  have HFz5 : Hid (FieldsIn z5.heap.size z5 (some ⟨z4.heap.size, 0, none⟩) [(⟨#[68, 97, 116, 101]⟩, sz4)]) := Lib.hid (row_at (l := [(⟨#[68, 97, 116, 101]⟩, sz4)]) (by rw [← hy]; exact heap_alloc_new z4 _))
                  change K _ (z4.alloc (.cells #[.string ⟨#[68, 97, 116, 101]⟩, .string sz4] 43))
                  rw [hy]
                  refine hK.out _ _ trivial (fun hH => ?_)
                  clear hK K hy hbn
                  try simp only [Act.put, List.setIfInBounds_toArray, List.set_cons_zero, List.set_cons_succ]
                  refine wpAnyH_ready (rs := [6]) (by kernel_rfl) (by simp) (AllReadyH.cons rfl (fun K hK => ?_) AllReadyH.nil)
                  · rw [if_pos (by rfl)]
                    refine wp_msg_append HMz5.out (by decide) (.tmp 52) (.tmp 56) rfl 57 rfl rfl (some ⟨z4.heap.size, 0, none⟩) 1 1 [(⟨#[68, 97, 116, 101]⟩, sz4)] rfl rfl HFz5.out (fun e => by cases e) (by simp) (small_one (by decide) Zz4.out) rfl ?_
                    intro fa2 n2 fc2 x3 s2_ sf HN HF HGR
                    refine hK.out _ _ trivial (fun hH => ?_)
                    clear hK K
                    try simp only [Act.put, List.setIfInBounds_toArray, List.set_cons_zero, List.set_cons_succ]
                    refine wpAnyH_takeTo (i := 7) (d := some 58) (v := .pointer (some ⟨p, 2, none⟩)) rfl rfl (by kernel_rfl) (by kernel_rfl) (by kernel_rfl) (fun _ _ _ h => h) (Or.inl ⟨by rfl, fun x hx => ?_⟩) hH ?_
                    · have f0 := hx
                      go_simp
                    try simp only [Act.put, List.setIfInBounds_toArray, List.set_cons_zero, List.set_cons_succ]
                    refine wpAnyH_stepTo (i := 8) (d := none) (by kernel_rfl) rfl rfl (by rfl) (fun _ y => y = x3.setCell ⟨p, 2, none⟩ (.slice fa2 n2 fc2)) (fun K hK => ?_) ?_
                    · go_simp
                      exact hK (.bool true) _ rfl
                    rintro _ _ rfl
                    refine ⟨trivial, ?_⟩
                    refine wpAnyH_done (by kernel_rfl) ?_ _
                    go_wp2_with fail
                    go_meet
                    exact ⟨fa2, n2, fc2, _, HN, Lib.hid (HF.out v0 HPG.out HDz5.out)⟩
              · rw [if_pos (by rfl)]
                go_simp
                obtain ⟨z7, hy⟩ : ∃ y, z4.alloc (.cells #[.string ⟨#[68, 97, 116, 101]⟩, .string sz4] 43) = y := ⟨_, rfl⟩
                have hbn : Below z4.heap.size z4 z7 := by rw [← hy]; exact below_al (Below.refl _ _) _
                have HMz7 := Lib.hid (HMz4.out.below hbn)
                have HDz7 := Lib.hid (HDz4.out.trans (hbn.mono HDz4.out.size))
                have HFz7 : Hid (FieldsIn z7.heap.size z7 (some ⟨z4.heap.size, 0, none⟩) [(⟨#[68, 97, 116, 101]⟩, sz4)]) := Lib.hid (row_at (l := [(⟨#[68, 97, 116, 101]⟩, sz4)]) (by rw [← hy]; exact heap_alloc_new z4 _))
                change K _ (z4.alloc (.cells #[.string ⟨#[68, 97, 116, 101]⟩, .string sz4] 43))
                rw [hy]
                refine hK.out _ _ trivial (fun hH => ?_)
                clear hK K hy hbn
                try simp only [Act.put, List.setIfInBounds_toArray, List.set_cons_zero, List.set_cons_succ]
                refine wpAnyH_ready (rs := [1]) (by kernel_rfl) (by simp) (AllReadyH.cons rfl (fun K hK => ?_) AllReadyH.nil)
                · rw [if_pos (by rfl)]
                  have kx := (four_at HMz7.out.block).2.2.1
                  go_simp
                  clear kx
                  refine hK.out _ _ trivial (fun hH => ?_)
                  clear hK K
                  try simp only [Act.put, List.setIfInBounds_toArray, List.set_cons_zero, List.set_cons_succ]
                  refine wpAnyH_ready (rs := [6]) (by kernel_rfl) (by simp) (AllReadyH.cons rfl (fun K hK => ?_) AllReadyH.nil)
                  · rw [if_pos (by rfl)]
                    refine wp_msg_append HMz7.out (by decide) (.tmp 52) (.tmp 56) rfl 57 rfl rfl (some ⟨z4.heap.size, 0, none⟩) 1 1 [(⟨#[68, 97, 116, 101]⟩, sz4)] rfl rfl HFz7.out (fun e => by cases e) (by simp) (small_one (by decide) Zz4.out) rfl ?_
                    intro fa2 n2 fc2 x3 s2_ sf HN HF HGR
                    refine hK.out _ _ trivial (fun hH => ?_)
                    clear hK K
                    try simp only [Act.put, List.setIfInBounds_toArray, List.set_cons_zero, List.set_cons_succ]
                    refine wpAnyH_takeTo (i := 7) (d := some 58) (v := .pointer (some ⟨p, 2, none⟩)) rfl rfl (by kernel_rfl) (by kernel_rfl) (by kernel_rfl) (fun _ _ _ h => h) (Or.inl ⟨by rfl, fun x hx => ?_⟩) hH ?_
                    · have f0 := hx
                      go_simp
                    try simp only [Act.put, List.setIfInBounds_toArray, List.set_cons_zero, List.set_cons_succ]
                    refine wpAnyH_stepTo (i := 8) (d := none) (by kernel_rfl) rfl rfl (by rfl) (fun _ y => y = x3.setCell ⟨p, 2, none⟩ (.slice fa2 n2 fc2)) (fun K hK => ?_) ?_
                    · go_simp
                      exact hK (.bool true) _ rfl
                    rintro _ _ rfl
                    refine ⟨trivial, ?_⟩
                    refine wpAnyH_done (by kernel_rfl) ?_ _
                    go_wp2_with fail
                    go_meet
                    exact ⟨fa2, n2, fc2, _, HN, Lib.hid (HF.out v0 HPG.out HDz7.out)⟩
          have g1_ : ((k3 : Int) == 1) = false := by simp; omega
          by_cases h2_ : k3 = 2
          · subst h2_
            have HDd : Hid (Below v0.heap.size v0 wc.drew) := Lib.hid HBW.out.drew
            have HMd := Lib.hid (HM.out.below ((Below.refl _ _).drew))
            go_upto_region 13 with (fail)
            refine wp_region_held_drew (S := fun _ => True) (by kernel_rfl) trivial (fun hH => ?_)
            obtain ⟨x0, hx0⟩ : ∃ y, wc.drew = y := ⟨_, rfl⟩
            rw [hx0] at HDd HMd ⊢
            clear hx0
            refine wpAnyH_takeTo (i := 0) (d := some 61) (v := .pointer (some ⟨p, 2, none⟩)) rfl rfl (by kernel_rfl) (by kernel_rfl) (by kernel_rfl) (fun _ _ _ h => h) (Or.inl ⟨by rfl, fun x hx => ?_⟩) hH ?_
            · have f0 := hx
              go_simp
            try simp only [Act.put, List.setIfInBounds_toArray, List.set_cons_zero, List.set_cons_succ]
            refine wpAnyH_takeTo (i := 2) (d := some 63) (v := .int .i64 now) rfl rfl (by kernel_rfl) (by kernel_rfl) (by kernel_rfl) (fun _ _ _ h => h) (Or.inl ⟨by rfl, fun x hx => ?_⟩) hH ?_
            · have f0 := hx
              go_simp
            try simp only [Act.put, List.setIfInBounds_toArray, List.set_cons_zero, List.set_cons_succ]
            refine wpAnyH_takeTo (i := 3) (d := some 64) (v := .int .i64 (IntKind.i64.wrap (now - 3))) rfl rfl (by kernel_rfl) (by kernel_rfl) (by kernel_rfl) (fun _ _ _ h => h) (Or.inl ⟨by rfl, fun x hx => ?_⟩) hH ?_
            · have f0 := hx
              go_simp
            try simp only [Act.put, List.setIfInBounds_toArray, List.set_cons_zero, List.set_cons_succ]
            refine wpAnyH_takeTo (i := 6) (d := some 67) (v := .int .i64 now) rfl rfl (by kernel_rfl) (by kernel_rfl) (by kernel_rfl) (fun _ _ _ h => h) (Or.inl ⟨by rfl, fun x hx => ?_⟩) hH ?_
            · have f0 := hx
              go_simp
            try simp only [Act.put, List.setIfInBounds_toArray, List.set_cons_zero, List.set_cons_succ]
            refine wpAnyH_takeTo (i := 7) (d := some 68) (v := .int .i64 (IntKind.i64.wrap (now - 100))) rfl rfl (by kernel_rfl) (by kernel_rfl) (by kernel_rfl) (fun _ _ _ h => h) (Or.inl ⟨by rfl, fun x hx => ?_⟩) hH ?_
            · have f0 := hx
              go_simp
            try simp only [Act.put, List.setIfInBounds_toArray, List.set_cons_zero, List.set_cons_succ]
            refine wpAnyH_ready (rs := [1, 4]) (by kernel_rfl) (by simp) (AllReadyH.cons rfl (fun K hK => ?_) (AllReadyH.cons rfl (fun K hK => ?_) AllReadyH.nil))
            · rw [if_pos (by rfl)]
              have kx := (four_at HMd.out.block).2.2.1
              go_simp
              clear kx
              refine hK.out _ _ trivial (fun hH => ?_)
              clear hK K
              try simp only [Act.put, List.setIfInBounds_toArray, List.set_cons_zero, List.set_cons_succ]
              refine wpAnyH_ready (rs := [4]) (by kernel_rfl) (by simp) (AllReadyH.cons rfl (fun K hK => ?_) AllReadyH.nil)
              · rw [if_pos (by rfl)]
                go_simp
                go_at_call 20
                refine Calls.mono (textS_any _ _) ?_
                rintro e z1 ⟨sz1, rfl, zz, hbn⟩
                have Zz1 : Hid (sz1.size ≤ 1000) := Lib.hid (by omega)
                have HMz1 := Lib.hid (HMd.out.below hbn)
                have HDz1 := Lib.hid (HDd.out.trans (hbn.mono HDd.out.size))
                refine hK.out _ _ trivial (fun hH => ?_)
                clear hK K hbn zz
                try simp only [Act.put, List.setIfInBounds_toArray, List.set_cons_zero, List.set_cons_succ]
                refine wpAnyH_takeTo (i := 5) (d := some 66) (v := .agg #[.string ⟨#[68, 97, 116, 101]⟩, .string sz1]) rfl rfl (by kernel_rfl) (by kernel_rfl) (by kernel_rfl) (fun _ _ _ h => h) (Or.inl ⟨by rfl, fun x hx => ?_⟩) hH ?_
                · have f0 := hx
                  go_simp
                try simp only [Act.put, List.setIfInBounds_toArray, List.set_cons_zero, List.set_cons_succ]
                refine wpAnyH_ready (rs := [8]) (by kernel_rfl) (by simp) (AllReadyH.cons rfl (fun K hK => ?_) AllReadyH.nil)
                · rw [if_pos (by rfl)]
                  go_simp
                  go_at_call 20
                  refine Calls.mono (textS_any _ _) ?_
                  rintro e z2 ⟨sz2, rfl, zz, hbn⟩
                  have Zz2 : Hid (sz2.size ≤ 1000) := Lib.hid (by omega)
                  have HMz2 := Lib.hid (HMz1.out.below hbn)
                  have HDz2 := Lib.hid (HDz1.out.trans (hbn.mono HDz1.out.size))
                  refine hK.out _ _ trivial (fun hH => ?_)
                  clear hK K hbn zz
                  try simp only [Act.put, List.setIfInBounds_toArray, List.set_cons_zero, List.set_cons_succ]
                  refine wpAnyH_takeTo (i := 9) (d := some 70) (v := .agg #[.string ⟨#[76, 97, 115, 116, 45, 77, 111, 100, 105, 102, 105, 101, 100]⟩, .string sz2]) rfl rfl (by kernel_rfl) (by kernel_rfl) (by kernel_rfl) (fun _ _ _ h => h) (Or.inl ⟨by rfl, fun x hx => ?_⟩) hH ?_
                  · have f0 := hx
                    go_simp
                  try simp only [Act.put, List.setIfInBounds_toArray, List.set_cons_zero, List.set_cons_succ]
                  refine wpAnyH_ready (rs := [10]) (by kernel_rfl) (by simp) (AllReadyH.cons rfl (fun K hK => ?_) AllReadyH.nil)
                  · rw [if_pos (by rfl)]
                    go_simp
                    obtain ⟨z3, hy⟩ : ∃ y, z2.alloc (.cells #[.string ⟨#[68, 97, 116, 101]⟩, .string sz1, .string ⟨#[76, 97, 115, 116, 45, 77, 111, 100, 105, 102, 105, 101, 100]⟩, .string sz2] 43) = y := ⟨_, rfl⟩
                    have hbn : Below z2.heap.size z2 z3 := by rw [← hy]; exact below_al (Below.refl _ _) _
                    have HMz3 := Lib.hid (HMz2.out.below hbn)
                    have HDz3 := Lib.hid (HDz2.out.trans (hbn.mono HDz2.out.size))
                    have HFz3 : Hid (FieldsIn z3.heap.size z3 (some ⟨z2.heap.size, 0, none⟩) [(⟨#[68, 97, 116, 101]⟩, sz1), (⟨#[76, 97, 115, 116, 45, 77, 111, 100, 105, 102, 105, 101, 100]⟩, sz2)]) := Lib.hid (row_at (l := [(⟨#[68, 97, 116, 101]⟩, sz1), (⟨#[76, 97, 115, 116, 45, 77, 111, 100, 105, 102, 105, 101, 100]⟩, sz2)]) (by rw [← hy]; exact heap_alloc_new z2 _))
                    change K _ (z2.alloc (.cells #[.string ⟨#[68, 97, 116, 101]⟩, .string sz1, .string ⟨#[76, 97, 115, 116, 45, 77, 111, 100, 105, 102, 105, 101, 100]⟩, .string sz2] 43))
                    rw [hy]
                    refine hK.out _ _ trivial (fun hH => ?_)
                    clear hK K hy hbn
                    try simp only [Act.put, List.setIfInBounds_toArray, List.set_cons_zero, List.set_cons_succ]
                    refine wpAnyH_ready (rs := [11]) (by kernel_rfl) (by simp) (AllReadyH.cons rfl (fun K hK => ?_) AllReadyH.nil)
                    · rw [if_pos (by rfl)]
                      refine wp_msg_append HMz3.out (by decide) (.tmp 62) (.tmp 71) rfl 72 rfl rfl (some ⟨z2.heap.size, 0, none⟩) 2 2 [(⟨#[68, 97, 116, 101]⟩, sz1), (⟨#[76, 97, 115, 116, 45, 77, 111, 100, 105, 102, 105, 101, 100]⟩, sz2)] rfl rfl HFz3.out (fun e => by cases e) (by simp) (small_cons (by decide) Zz1.out (small_one (by decide) Zz2.out)) rfl ?_
                      intro fa2 n2 fc2 x3 s2_ sf HN HF HGR
                      refine hK.out _ _ trivial (fun hH => ?_)
                      clear hK K
                      try simp only [Act.put, List.setIfInBounds_toArray, List.set_cons_zero, List.set_cons_succ]
                      refine wpAnyH_takeTo (i := 12) (d := some 73) (v := .pointer (some ⟨p, 2, none⟩)) rfl rfl (by kernel_rfl) (by kernel_rfl) (by kernel_rfl) (fun _ _ _ h => h) (Or.inl ⟨by rfl, fun x hx => ?_⟩) hH ?_
                      · have f0 := hx
                        go_simp
                      try simp only [Act.put, List.setIfInBounds_toArray, List.set_cons_zero, List.set_cons_succ]
                      refine wpAnyH_stepTo (i := 13) (d := none) (by kernel_rfl) rfl rfl (by rfl) (fun _ y => y = x3.setCell ⟨p, 2, none⟩ (.slice fa2 n2 fc2)) (fun K hK => ?_) ?_
                      · go_simp
                        exact hK (.bool true) _ rfl
                      rintro _ _ rfl
                      refine ⟨trivial, ?_⟩
                      refine wpAnyH_done (by kernel_rfl) ?_ _
                      go_wp2_with fail
                      go_meet
                      exact ⟨fa2, n2, fc2, _, HN, Lib.hid (HF.out v0 HPG.out HDz3.out)⟩
            · rw [if_pos (by rfl)]
              go_simp
              go_at_call 20
              refine Calls.mono (textS_any _ _) ?_
              rintro e z5 ⟨sz5, rfl, zz, hbn⟩
              have Zz5 : Hid (sz5.size ≤ 1000) := Lib.hid (by omega)
              have HMz5 := Lib.hid (HMd.out.below hbn)
              have HDz5 := Lib.hid (HDd.out.trans (hbn.mono HDd.out.size))
              refine hK.out _ _ trivial (fun hH => ?_)
              clear hK K hbn zz
              try simp only [Act.put, List.setIfInBounds_toArray, List.set_cons_zero, List.set_cons_succ]
              refine wpAnyH_takeTo (i := 5) (d := some 66) (v := .agg #[.string ⟨#[68, 97, 116, 101]⟩, .string sz5]) rfl rfl (by kernel_rfl) (by kernel_rfl) (by kernel_rfl) (fun _ _ _ h => h) (Or.inl ⟨by rfl, fun x hx => ?_⟩) hH ?_
              · have f0 := hx
                go_simp
              try simp only [Act.put, List.setIfInBounds_toArray, List.set_cons_zero, List.set_cons_succ]
              refine wpAnyH_ready (rs := [1, 8]) (by kernel_rfl) (by simp) (AllReadyH.cons rfl (fun K hK => ?_) (AllReadyH.cons rfl (fun K hK => ?_) AllReadyH.nil))
              · rw [if_pos (by rfl)]
                have kx := (four_at HMz5.out.block).2.2.1
                go_simp
                clear kx
                refine hK.out _ _ trivial (fun hH => ?_)
                clear hK K
                try simp only [Act.put, List.setIfInBounds_toArray, List.set_cons_zero, List.set_cons_succ]
                refine wpAnyH_ready (rs := [8]) (by kernel_rfl) (by simp) (AllReadyH.cons rfl (fun K hK => ?_) AllReadyH.nil)
                · rw [if_pos (by rfl)]
                  go_simp
                  go_at_call 20
                  refine Calls.mono (textS_any _ _) ?_
                  rintro e z6 ⟨sz6, rfl, zz, hbn⟩
                  have Zz6 : Hid (sz6.size ≤ 1000) := Lib.hid (by omega)
                  have HMz6 := Lib.hid (HMz5.out.below hbn)
                  have HDz6 := Lib.hid (HDz5.out.trans (hbn.mono HDz5.out.size))
                  refine hK.out _ _ trivial (fun hH => ?_)
                  clear hK K hbn zz
                  try simp only [Act.put, List.setIfInBounds_toArray, List.set_cons_zero, List.set_cons_succ]
                  refine wpAnyH_takeTo (i := 9) (d := some 70) (v := .agg #[.string ⟨#[76, 97, 115, 116, 45, 77, 111, 100, 105, 102, 105, 101, 100]⟩, .string sz6]) rfl rfl (by kernel_rfl) (by kernel_rfl) (by kernel_rfl) (fun _ _ _ h => h) (Or.inl ⟨by rfl, fun x hx => ?_⟩) hH ?_
                  · have f0 := hx
                    go_simp
                  try simp only [Act.put, List.setIfInBounds_toArray, List.set_cons_zero, List.set_cons_succ]
                  refine wpAnyH_ready (rs := [10]) (by kernel_rfl) (by simp) (AllReadyH.cons rfl (fun K hK => ?_) AllReadyH.nil)
                  · rw [if_pos (by rfl)]
                    go_simp
                    obtain ⟨z7, hy⟩ : ∃ y, z6.alloc (.cells #[.string ⟨#[68, 97, 116, 101]⟩, .string sz5, .string ⟨#[76, 97, 115, 116, 45, 77, 111, 100, 105, 102, 105, 101, 100]⟩, .string sz6] 43) = y := ⟨_, rfl⟩
                    have hbn : Below z6.heap.size z6 z7 := by rw [← hy]; exact below_al (Below.refl _ _) _
                    have HMz7 := Lib.hid (HMz6.out.below hbn)
                    have HDz7 := Lib.hid (HDz6.out.trans (hbn.mono HDz6.out.size))
                    have HFz7 : Hid (FieldsIn z7.heap.size z7 (some ⟨z6.heap.size, 0, none⟩) [(⟨#[68, 97, 116, 101]⟩, sz5), (⟨#[76, 97, 115, 116, 45, 77, 111, 100, 105, 102, 105, 101, 100]⟩, sz6)]) := Lib.hid (row_at (l := [(⟨#[68, 97, 116, 101]⟩, sz5), (⟨#[76, 97, 115, 116, 45, 77, 111, 100, 105, 102, 105, 101, 100]⟩, sz6)]) (by rw [← hy]; exact heap_alloc_new z6 _))
                    change K _ (z6.alloc (.cells #[.string ⟨#[68, 97, 116, 101]⟩, .string sz5, .string ⟨#[76, 97, 115, 116, 45, 77, 111, 100, 105, 102, 105, 101, 100]⟩, .string sz6] 43))
                    rw [hy]
                    refine hK.out _ _ trivial (fun hH => ?_)
                    clear hK K hy hbn
                    try simp only [Act.put, List.setIfInBounds_toArray, List.set_cons_zero, List.set_cons_succ]
                    refine wpAnyH_ready (rs := [11]) (by kernel_rfl) (by simp) (AllReadyH.cons rfl (fun K hK => ?_) AllReadyH.nil)
                    · rw [if_pos (by rfl)]
                      refine wp_msg_append HMz7.out (by decide) (.tmp 62) (.tmp 71) rfl 72 rfl rfl (some ⟨z6.heap.size, 0, none⟩) 2 2 [(⟨#[68, 97, 116, 101]⟩, sz5), (⟨#[76, 97, 115, 116, 45, 77, 111, 100, 105, 102, 105, 101, 100]⟩, sz6)] rfl rfl HFz7.out (fun e => by cases e) (by simp) (small_cons (by decide) Zz5.out (small_one (by decide) Zz6.out)) rfl ?_
                      intro fa2 n2 fc2 x3 s2_ sf HN HF HGR
                      refine hK.out _ _ trivial (fun hH => ?_)
                      clear hK K
                      try simp only [Act.put, List.setIfInBounds_toArray, List.set_cons_zero, List.set_cons_succ]
                      refine wpAnyH_takeTo (i := 12) (d := some 73) (v := .pointer (some ⟨p, 2, none⟩)) rfl rfl (by kernel_rfl) (by kernel_rfl) (by kernel_rfl) (fun _ _ _ h => h) (Or.inl ⟨by rfl, fun x hx => ?_⟩) hH ?_
                      · have f0 := hx
                        go_simp
                      try simp only [Act.put, List.setIfInBounds_toArray, List.set_cons_zero, List.set_cons_succ]
                      refine wpAnyH_stepTo (i := 13) (d := none) (by kernel_rfl) rfl rfl (by rfl) (fun _ y => y = x3.setCell ⟨p, 2, none⟩ (.slice fa2 n2 fc2)) (fun K hK => ?_) ?_
                      · go_simp
                        exact hK (.bool true) _ rfl
                      rintro _ _ rfl
                      refine ⟨trivial, ?_⟩
                      refine wpAnyH_done (by kernel_rfl) ?_ _
                      go_wp2_with fail
                      go_meet
                      exact ⟨fa2, n2, fc2, _, HN, Lib.hid (HF.out v0 HPG.out HDz7.out)⟩
              · rw [if_pos (by rfl)]
                go_simp
                go_at_call 20
                refine Calls.mono (textS_any _ _) ?_
                rintro e z9 ⟨sz9, rfl, zz, hbn⟩
                have Zz9 : Hid (sz9.size ≤ 1000) := Lib.hid (by omega)
                have HMz9 := Lib.hid (HMz5.out.below hbn)
                have HDz9 := Lib.hid (HDz5.out.trans (hbn.mono HDz5.out.size))
                refine hK.out _ _ trivial (fun hH => ?_)
                clear hK K hbn zz
                try simp only [Act.put, List.setIfInBounds_toArray, List.set_cons_zero, List.set_cons_succ]
                refine wpAnyH_takeTo (i := 9) (d := some 70) (v := .agg #[.string ⟨#[76, 97, 115, 116, 45, 77, 111, 100, 105, 102, 105, 101, 100]⟩, .string sz9]) rfl rfl (by kernel_rfl) (by kernel_rfl) (by kernel_rfl) (fun _ _ _ h => h) (Or.inl ⟨by rfl, fun x hx => ?_⟩) hH ?_
                · have f0 := hx
                  go_simp
                try simp only [Act.put, List.setIfInBounds_toArray, List.set_cons_zero, List.set_cons_succ]
                refine wpAnyH_ready (rs := [1, 10]) (by kernel_rfl) (by simp) (AllReadyH.cons rfl (fun K hK => ?_) (AllReadyH.cons rfl (fun K hK => ?_) AllReadyH.nil))
                · rw [if_pos (by rfl)]
                  have kx := (four_at HMz9.out.block).2.2.1
                  go_simp
                  clear kx
                  refine hK.out _ _ trivial (fun hH => ?_)
                  clear hK K
                  try simp only [Act.put, List.setIfInBounds_toArray, List.set_cons_zero, List.set_cons_succ]
                  refine wpAnyH_ready (rs := [10]) (by kernel_rfl) (by simp) (AllReadyH.cons rfl (fun K hK => ?_) AllReadyH.nil)
                  · rw [if_pos (by rfl)]
                    go_simp
                    obtain ⟨z10, hy⟩ : ∃ y, z9.alloc (.cells #[.string ⟨#[68, 97, 116, 101]⟩, .string sz5, .string ⟨#[76, 97, 115, 116, 45, 77, 111, 100, 105, 102, 105, 101, 100]⟩, .string sz9] 43) = y := ⟨_, rfl⟩
                    have hbn : Below z9.heap.size z9 z10 := by rw [← hy]; exact below_al (Below.refl _ _) _
                    have HMz10 := Lib.hid (HMz9.out.below hbn)
                    have HDz10 := Lib.hid (HDz9.out.trans (hbn.mono HDz9.out.size))
                    have HFz10 : Hid (FieldsIn z10.heap.size z10 (some ⟨z9.heap.size, 0, none⟩) [(⟨#[68, 97, 116, 101]⟩, sz5), (⟨#[76, 97, 115, 116, 45, 77, 111, 100, 105, 102, 105, 101, 100]⟩, sz9)]) := Lib.hid (row_at (l := [(⟨#[68, 97, 116, 101]⟩, sz5), (⟨#[76, 97, 115, 116, 45, 77, 111, 100, 105, 102, 105, 101, 100]⟩, sz9)]) (by rw [← hy]; exact heap_alloc_new z9 _))
                    change K _ (z9.alloc (.cells #[.string ⟨#[68, 97, 116, 101]⟩, .string sz5, .string ⟨#[76, 97, 115, 116, 45, 77, 111, 100, 105, 102, 105, 101, 100]⟩, .string sz9] 43))
                    rw [hy]
                    refine hK.out _ _ trivial (fun hH => ?_)
                    clear hK K hy hbn
                    try simp only [Act.put, List.setIfInBounds_toArray, List.set_cons_zero, List.set_cons_succ]
                    refine wpAnyH_ready (rs := [11]) (by kernel_rfl) (by simp) (AllReadyH.cons rfl (fun K hK => ?_) AllReadyH.nil)
                    · rw [if_pos (by rfl)]
                      refine wp_msg_append HMz10.out (by decide) (.tmp 62) (.tmp 71) rfl 72 rfl rfl (some ⟨z9.heap.size, 0, none⟩) 2 2 [(⟨#[68, 97, 116, 101]⟩, sz5), (⟨#[76, 97, 115, 116, 45, 77, 111, 100, 105, 102, 105, 101, 100]⟩, sz9)] rfl rfl HFz10.out (fun e => by cases e) (by simp) (small_cons (by decide) Zz5.out (small_one (by decide) Zz9.out)) rfl ?_
                      intro fa2 n2 fc2 x3 s2_ sf HN HF HGR
                      refine hK.out _ _ trivial (fun hH => ?_)
                      clear hK K
                      try simp only [Act.put, List.setIfInBounds_toArray, List.set_cons_zero, List.set_cons_succ]
                      refine wpAnyH_takeTo (i := 12) (d := some 73) (v := .pointer (some ⟨p, 2, none⟩)) rfl rfl (by kernel_rfl) (by kernel_rfl) (by kernel_rfl) (fun _ _ _ h => h) (Or.inl ⟨by rfl, fun x hx => ?_⟩) hH ?_
                      · have f0 := hx
                        go_simp
                      try simp only [Act.put, List.setIfInBounds_toArray, List.set_cons_zero, List.set_cons_succ]
                      refine wpAnyH_stepTo (i := 13) (d := none) (by kernel_rfl) rfl rfl (by rfl) (fun _ y => y = x3.setCell ⟨p, 2, none⟩ (.slice fa2 n2 fc2)) (fun K hK => ?_) ?_
                      · go_simp
                        exact hK (.bool true) _ rfl
                      rintro _ _ rfl
                      refine ⟨trivial, ?_⟩
                      refine wpAnyH_done (by kernel_rfl) ?_ _
                      go_wp2_with fail
                      go_meet
                      exact ⟨fa2, n2, fc2, _, HN, Lib.hid (HF.out v0 HPG.out HDz10.out)⟩
                · rw [if_pos (by rfl)]
                  go_simp
                  obtain ⟨z12, hy⟩ : ∃ y, z9.alloc (.cells #[.string ⟨#[68, 97, 116, 101]⟩, .string sz5, .string ⟨#[76, 97, 115, 116, 45, 77, 111, 100, 105, 102, 105, 101, 100]⟩, .string sz9] 43) = y := ⟨_, rfl⟩
                  have hbn : Below z9.heap.size z9 z12 := by rw [← hy]; exact below_al (Below.refl _ _) _
                  have HMz12 := Lib.hid (HMz9.out.below hbn)
                  have HDz12 := Lib.hid (HDz9.out.trans (hbn.mono HDz9.out.size))
                  have HFz12 : Hid (FieldsIn z12.heap.size z12 (some ⟨z9.heap.size, 0, none⟩) [(⟨#[68, 97, 116, 101]⟩, sz5), (⟨#[76, 97, 115, 116, 45, 77, 111, 100, 105, 102, 105, 101, 100]⟩, sz9)]) := Lib.hid (row_at (l := [(⟨#[68, 97, 116, 101]⟩, sz5), (⟨#[76, 97, 115, 116, 45, 77, 111, 100, 105, 102, 105, 101, 100]⟩, sz9)]) (by rw [← hy]; exact heap_alloc_new z9 _))
                  change K _ (z9.alloc (.cells #[.string ⟨#[68, 97, 116, 101]⟩, .string sz5, .string ⟨#[76, 97, 115, 116, 45, 77, 111, 100, 105, 102, 105, 101, 100]⟩, .string sz9] 43))
                  rw [hy]
                  refine hK.out _ _ trivial (fun hH => ?_)
                  clear hK K hy hbn
                  try simp only [Act.put, List.setIfInBounds_toArray, List.set_cons_zero, List.set_cons_succ]
                  refine wpAnyH_ready (rs := [1]) (by kernel_rfl) (by simp) (AllReadyH.cons rfl (fun K hK => ?_) AllReadyH.nil)
                  · rw [if_pos (by rfl)]
                    have kx := (four_at HMz12.out.block).2.2.1
                    go_simp
                    clear kx
                    refine hK.out _ _ trivial (fun hH => ?_)
                    clear hK K
                    try simp only [Act.put, List.setIfInBounds_toArray, List.set_cons_zero, List.set_cons_succ]
                    refine wpAnyH_ready (rs := [11]) (by kernel_rfl) (by simp) (AllReadyH.cons rfl (fun K hK => ?_) AllReadyH.nil)
                    · rw [if_pos (by rfl)]
                      refine wp_msg_append HMz12.out (by decide) (.tmp 62) (.tmp 71) rfl 72 rfl rfl (some ⟨z9.heap.size, 0, none⟩) 2 2 [(⟨#[68, 97, 116, 101]⟩, sz5), (⟨#[76, 97, 115, 116, 45, 77, 111, 100, 105, 102, 105, 101, 100]⟩, sz9)] rfl rfl HFz12.out (fun e => by cases e) (by simp) (small_cons (by decide) Zz5.out (small_one (by decide) Zz9.out)) rfl ?_
                      intro fa2 n2 fc2 x3 s2_ sf HN HF HGR
                      refine hK.out _ _ trivial (fun hH => ?_)
                      clear hK K
                      try simp only [Act.put, List.setIfInBounds_toArray, List.set_cons_zero, List.set_cons_succ]
                      refine wpAnyH_takeTo (i := 12) (d := some 73) (v := .pointer (some ⟨p, 2, none⟩)) rfl rfl (by kernel_rfl) (by kernel_rfl) (by kernel_rfl) (fun _ _ _ h => h) (Or.inl ⟨by rfl, fun x hx => ?_⟩) hH ?_
                      · have f0 := hx
                        go_simp
                      try simp only [Act.put, List.setIfInBounds_toArray, List.set_cons_zero, List.set_cons_succ]
                      refine wpAnyH_stepTo (i := 13) (d := none) (by kernel_rfl) rfl rfl (by rfl) (fun _ y => y = x3.setCell ⟨p, 2, none⟩ (.slice fa2 n2 fc2)) (fun K hK => ?_) ?_
                      · go_simp
                        exact hK (.bool true) _ rfl
                      rintro _ _ rfl
                      refine ⟨trivial, ?_⟩
                      refine wpAnyH_done (by kernel_rfl) ?_ _
                      go_wp2_with fail
                      go_meet
                      exact ⟨fa2, n2, fc2, _, HN, Lib.hid (HF.out v0 HPG.out HDz12.out)⟩
          have g2_ : ((k3 : Int) == 2) = false := by simp; omega
          by_cases h3_ : k3 = 3
          · subst h3_
            have HDd : Hid (Below v0.heap.size v0 wc.drew) := Lib.hid HBW.out.drew
            have HMd := Lib.hid (HM.out.below ((Below.refl _ _).drew))
            go_upto_region 15 with (fail)
            refine wp_region_held_drew (S := fun _ => True) (by kernel_rfl) trivial (fun hH => ?_)
            obtain ⟨x0, hx0⟩ : ∃ y, wc.drew = y := ⟨_, rfl⟩
            rw [hx0] at HDd HMd ⊢
            clear hx0
            refine wpAnyH_takeTo (i := 0) (d := some 76) (v := .pointer (some ⟨p, 2, none⟩)) rfl rfl (by kernel_rfl) (by kernel_rfl) (by kernel_rfl) (fun _ _ _ h => h) (Or.inl ⟨by rfl, fun x hx => ?_⟩) hH ?_
            · have f0 := hx
              go_simp
            try simp only [Act.put, List.setIfInBounds_toArray, List.set_cons_zero, List.set_cons_succ]
            refine wpAnyH_takeTo (i := 2) (d := some 78) (v := .int .i64 now) rfl rfl (by kernel_rfl) (by kernel_rfl) (by kernel_rfl) (fun _ _ _ h => h) (Or.inl ⟨by rfl, fun x hx => ?_⟩) hH ?_
            · have f0 := hx
              go_simp
            try simp only [Act.put, List.setIfInBounds_toArray, List.set_cons_zero, List.set_cons_succ]
            refine wpAnyH_takeTo (i := 5) (d := some 81) (v := .int .i64 now) rfl rfl (by kernel_rfl) (by kernel_rfl) (by kernel_rfl) (fun _ _ _ h => h) (Or.inl ⟨by rfl, fun x hx => ?_⟩) hH ?_
            · have f0 := hx
              go_simp
            try simp only [Act.put, List.setIfInBounds_toArray, List.set_cons_zero, List.set_cons_succ]
            refine wpAnyH_takeTo (i := 6) (d := some 82) (v := .int .i64 (IntKind.i64.wrap (now + 8))) rfl rfl (by kernel_rfl) (by kernel_rfl) (by kernel_rfl) (fun _ _ _ h => h) (Or.inl ⟨by rfl, fun x hx => ?_⟩) hH ?_
            · have f0 := hx
              go_simp
            try simp only [Act.put, List.setIfInBounds_toArray, List.set_cons_zero, List.set_cons_succ]
            refine wpAnyH_ready (rs := [1, 3]) (by kernel_rfl) (by simp) (AllReadyH.cons rfl (fun K hK => ?_) (AllReadyH.cons rfl (fun K hK => ?_) AllReadyH.nil))
            · rw [if_pos (by rfl)]
              have kx := (four_at HMd.out.block).2.2.1
              go_simp
              clear kx
              refine hK.out _ _ trivial (fun hH => ?_)
              clear hK K
              try simp only [Act.put, List.setIfInBounds_toArray, List.set_cons_zero, List.set_cons_succ]
              refine wpAnyH_ready (rs := [3]) (by kernel_rfl) (by simp) (AllReadyH.cons rfl (fun K hK => ?_) AllReadyH.nil)
              · rw [if_pos (by rfl)]
                go_simp
                go_at_call 20
                refine Calls.mono (textS_any _ _) ?_
                rintro e z1 ⟨sz1, rfl, zz, hbn⟩
                have Zz1 : Hid (sz1.size ≤ 1000) := Lib.hid (by omega)
                have HMz1 := Lib.hid (HMd.out.below hbn)
                have HDz1 := Lib.hid (HDd.out.trans (hbn.mono HDd.out.size))
                refine hK.out _ _ trivial (fun hH => ?_)
                clear hK K hbn zz
                try simp only [Act.put, List.setIfInBounds_toArray, List.set_cons_zero, List.set_cons_succ]
                refine wpAnyH_takeTo (i := 4) (d := some 80) (v := .agg #[.string ⟨#[68, 97, 116, 101]⟩, .string sz1]) rfl rfl (by kernel_rfl) (by kernel_rfl) (by kernel_rfl) (fun _ _ _ h => h) (Or.inl ⟨by rfl, fun x hx => ?_⟩) hH ?_
                · have f0 := hx
                  go_simp
                try simp only [Act.put, List.setIfInBounds_toArray, List.set_cons_zero, List.set_cons_succ]
                refine wpAnyH_ready (rs := [7]) (by kernel_rfl) (by simp) (AllReadyH.cons rfl (fun K hK => ?_) AllReadyH.nil)
                · rw [if_pos (by rfl)]
                  go_simp
                  go_at_call 20
                  refine Calls.mono (textS_any _ _) ?_
                  rintro e z2 ⟨sz2, rfl, zz, hbn⟩
                  have Zz2 : Hid (sz2.size ≤ 1000) := Lib.hid (by omega)
                  have HMz2 := Lib.hid (HMz1.out.below hbn)
                  have HDz2 := Lib.hid (HDz1.out.trans (hbn.mono HDz1.out.size))
                  refine hK.out _ _ trivial (fun hH => ?_)
                  clear hK K hbn zz
                  try simp only [Act.put, List.setIfInBounds_toArray, List.set_cons_zero, List.set_cons_succ]
                  refine wpAnyH_takeTo (i := 8) (d := some 84) (v := .agg #[.string ⟨#[69, 120, 112, 105, 114, 101, 115]⟩, .string sz2]) rfl rfl (by kernel_rfl) (by kernel_rfl) (by kernel_rfl) (fun _ _ _ h => h) (Or.inl ⟨by rfl, fun x hx => ?_⟩) hH ?_
                  · have f0 := hx
                    go_simp
                  try simp only [Act.put, List.setIfInBounds_toArray, List.set_cons_zero, List.set_cons_succ]
                  refine wpAnyH_ready (rs := [9]) (by kernel_rfl) (by simp) (AllReadyH.cons rfl (fun K hK => ?_) AllReadyH.nil)
                  · rw [if_pos (by rfl)]
                    go_simp
                    obtain ⟨z3, hy⟩ : ∃ y, z2.alloc (.cells #[.string ⟨#[68, 97, 116, 101]⟩, .string sz1, .string ⟨#[69, 120, 112, 105, 114, 101, 115]⟩, .string sz2] 43) = y := ⟨_, rfl⟩
                    have hbn : Below z2.heap.size z2 z3 := by rw [← hy]; exact below_al (Below.refl _ _) _
                    have HMz3 := Lib.hid (HMz2.out.below hbn)
                    have HDz3 := Lib.hid (HDz2.out.trans (hbn.mono HDz2.out.size))
                    have HFz3 : Hid (FieldsIn z3.heap.size z3 (some ⟨z2.heap.size, 0, none⟩) [(⟨#[68, 97, 116, 101]⟩, sz1), (⟨#[69, 120, 112, 105, 114, 101, 115]⟩, sz2)]) := Lib.hid (row_at (l := [(⟨#[68, 97, 116, 101]⟩, sz1), (⟨#[69, 120, 112, 105, 114, 101, 115]⟩, sz2)]) (by rw [← hy]; exact heap_alloc_new z2 _))
                    change K _ (z2.alloc (.cells #[.string ⟨#[68, 97, 116, 101]⟩, .string sz1, .string ⟨#[69, 120, 112, 105, 114, 101, 115]⟩, .string sz2] 43))
                    rw [hy]
                    refine hK.out _ _ trivial (fun hH => ?_)
                    clear hK K hy hbn
                    try simp only [Act.put, List.setIfInBounds_toArray, List.set_cons_zero, List.set_cons_succ]
                    refine wpAnyH_ready (rs := [10]) (by kernel_rfl) (by simp) (AllReadyH.cons rfl (fun K hK => ?_) AllReadyH.nil)
                    · rw [if_pos (by rfl)]
                      refine wp_msg_append HMz3.out (by decide) (.tmp 77) (.tmp 85) rfl 86 rfl rfl (some ⟨z2.heap.size, 0, none⟩) 2 2 [(⟨#[68, 97, 116, 101]⟩, sz1), (⟨#[69, 120, 112, 105, 114, 101, 115]⟩, sz2)] rfl rfl HFz3.out (fun e => by cases e) (by simp) (small_cons (by decide) Zz1.out (small_one (by decide) Zz2.out)) rfl ?_
                      intro fa2 n2 fc2 x3 s2_ sf HN HF HGR
                      refine hK.out _ _ trivial (fun hH => ?_)
                      clear hK K
                      try simp only [Act.put, List.setIfInBounds_toArray, List.set_cons_zero, List.set_cons_succ]
                      refine wpAnyH_takeTo (i := 11) (d := some 87) (v := .pointer (some ⟨p, 2, none⟩)) rfl rfl (by kernel_rfl) (by kernel_rfl) (by kernel_rfl) (fun _ _ _ h => h) (Or.inl ⟨by rfl, fun x hx => ?_⟩) hH ?_
                      · have f0 := hx
                        go_simp
                      try simp only [Act.put, List.setIfInBounds_toArray, List.set_cons_zero, List.set_cons_succ]
                      refine wpAnyH_stepTo (i := 12) (d := none) (by kernel_rfl) rfl rfl (by rfl) (fun _ y => y = x3.setCell ⟨p, 2, none⟩ (.slice fa2 n2 fc2)) (fun K hK => ?_) ?_
                      · go_simp
                        exact hK (.bool true) _ rfl
                      rintro _ _ rfl
                      refine ⟨trivial, ?_⟩
                      refine wpAnyH_done (by kernel_rfl) ?_ _
                      go_wp2_with fail
                      go_meet
                      exact ⟨fa2, n2, fc2, _, HN, Lib.hid (HF.out v0 HPG.out HDz3.out)⟩
            · rw [if_pos (by rfl)]
              go_simp
              go_at_call 20
              refine Calls.mono (textS_any _ _) ?_
              rintro e z5 ⟨sz5, rfl, zz, hbn⟩
              have Zz5 : Hid (sz5.size ≤ 1000) := Lib.hid (by omega)
              have HMz5 := Lib.hid (HMd.out.below hbn)
              have HDz5 := Lib.hid (HDd.out.trans (hbn.mono HDd.out.size))
              refine hK.out _ _ trivial (fun hH => ?_)
              clear hK K hbn zz
              try simp only [Act.put, List.setIfInBounds_toArray, List.set_cons_zero, List.set_cons_succ]
              refine wpAnyH_takeTo (i := 4) (d := some 80) (v := .agg #[.string ⟨#[68, 97, 116, 101]⟩, .string sz5]) rfl rfl (by kernel_rfl) (by kernel_rfl) (by kernel_rfl) (fun _ _ _ h => h) (Or.inl ⟨by rfl, fun x hx => ?_⟩) hH ?_
              · have f0 := hx
                go_simp
              try simp only [Act.put, List.setIfInBounds_toArray, List.set_cons_zero, List.set_cons_succ]
              refine wpAnyH_ready (rs := [1, 7]) (by kernel_rfl) (by simp) (AllReadyH.cons rfl (fun K hK => ?_) (AllReadyH.cons rfl (fun K hK => ?_) AllReadyH.nil))
              · rw [if_pos (by rfl)]
                have kx := (four_at HMz5.out.block).2.2.1
                go_simp
                clear kx
                refine hK.out _ _ trivial (fun hH => ?_)
                clear hK K
                try simp only [Act.put, List.setIfInBounds_toArray, List.set_cons_zero, List.set_cons_succ]
                refine wpAnyH_ready (rs := [7]) (by kernel_rfl) (by simp) (AllReadyH.cons rfl (fun K hK => ?_) AllReadyH.nil)
                · rw [if_pos (by rfl)]
                  go_simp
                  go_at_call 20
                  refine Calls.mono (textS_any _ _) ?_
                  rintro e z6 ⟨sz6, rfl, zz, hbn⟩
                  have Zz6 : Hid (sz6.size ≤ 1000) := Lib.hid (by omega)
                  have HMz6 := Lib.hid (HMz5.out.below hbn)
                  have HDz6 := Lib.hid (HDz5.out.trans (hbn.mono HDz5.out.size))
                  refine hK.out _ _ trivial (fun hH => ?_)
                  clear hK K hbn zz
                  try simp only [Act.put, List.setIfInBounds_toArray, List.set_cons_zero, List.set_cons_succ]
                  refine wpAnyH_takeTo (i := 8) (d := some 84) (v := .agg #[.string ⟨#[69, 120, 112, 105, 114, 101, 115]⟩, .string sz6]) rfl rfl (by kernel_rfl) (by kernel_rfl) (by kernel_rfl) (fun _ _ _ h => h) (Or.inl ⟨by rfl, fun x hx => ?_⟩) hH ?_
                  · have f0 := hx
                    go_simp
                  try simp only [Act.put, List.setIfInBounds_toArray, List.set_cons_zero, List.set_cons_succ]
                  refine wpAnyH_ready (rs := [9]) (by kernel_rfl) (by simp) (AllReadyH.cons rfl (fun K hK => ?_) AllReadyH.nil)
                  · rw [if_pos (by rfl)]
                    go_simp
                    obtain ⟨z7, hy⟩ : ∃ y, z6.alloc (.cells #[.string ⟨#[68, 97, 116, 101]⟩, .string sz5, .string ⟨#[69, 120, 112, 105, 114, 101, 115]⟩, .string sz6] 43) = y := ⟨_, rfl⟩
                    have hbn : Below z6.heap.size z6 z7 := by rw [← hy]; exact below_al (Below.refl _ _) _
                    have HMz7 := Lib.hid (HMz6.out.below hbn)
                    have HDz7 := Lib.hid (HDz6.out.trans (hbn.mono HDz6.out.size))
                    have HFz7 : Hid (FieldsIn z7.heap.size z7 (some ⟨z6.heap.size, 0, none⟩) [(⟨#[68, 97, 116, 101]⟩, sz5), (⟨#[69, 120, 112, 105, 114, 101, 115]⟩, sz6)]) := Lib.hid (row_at (l := [(⟨#[68, 97, 116, 101]⟩, sz5), (⟨#[69, 120, 112, 105, 114, 101, 115]⟩, sz6)]) (by rw [← hy]; exact heap_alloc_new z6 _))
                    change K _ (z6.alloc (.cells #[.string ⟨#[68, 97, 116, 101]⟩, .string sz5, .string ⟨#[69, 120, 112, 105, 114, 101, 115]⟩, .string sz6] 43))
                    rw [hy]
                    refine hK.out _ _ trivial (fun hH => ?_)
                    clear hK K hy hbn
                    try simp only [Act.put, List.setIfInBounds_toArray, List.set_cons_zero, List.set_cons_succ]
                    refine wpAnyH_ready (rs := [10]) (by kernel_rfl) (by simp) (AllReadyH.cons rfl (fun K hK => ?_) AllReadyH.nil)
                    · rw [if_pos (by rfl)]
                      refine wp_msg_append HMz7.out (by decide) (.tmp 77) (.tmp 85) rfl 86 rfl rfl (some ⟨z6.heap.size, 0, none⟩) 2 2 [(⟨#[68, 97, 116, 101]⟩, sz5), (⟨#[69, 120, 112, 105, 114, 101, 115]⟩, sz6)] rfl rfl HFz7.out (fun e => by cases e) (by simp) (small_cons (by decide) Zz5.out (small_one (by decide) Zz6.out)) rfl ?_
                      intro fa2 n2 fc2 x3 s2_ sf HN HF HGR
                      refine hK.out _ _ trivial (fun hH => ?_)
                      clear hK K
                      try simp only [Act.put, List.setIfInBounds_toArray, List.set_cons_zero, List.set_cons_succ]
                      refine wpAnyH_takeTo (i := 11) (d := some 87) (v := .pointer (some ⟨p, 2, none⟩)) rfl rfl (by kernel_rfl) (by kernel_rfl) (by kernel_rfl) (fun _ _ _ h => h) (Or.inl ⟨by rfl, fun x hx => ?_⟩) hH ?_
                      · have f0 := hx
                        go_simp
                      try simp only [Act.put, List.setIfInBounds_toArray, List.set_cons_zero, List.set_cons_succ]
                      refine wpAnyH_stepTo (i := 12) (d := none) (by kernel_rfl) rfl rfl (by rfl) (fun _ y => y = x3.setCell ⟨p, 2, none⟩ (.slice fa2 n2 fc2)) (fun K hK => ?_) ?_
                      · go_simp
                        exact hK (.bool true) _ rfl
                      rintro _ _ rfl
                      refine ⟨trivial, ?_⟩
                      refine wpAnyH_done (by kernel_rfl) ?_ _
                      go_wp2_with fail
                      go_meet
                      exact ⟨fa2, n2, fc2, _, HN, Lib.hid (HF.out v0 HPG.out HDz7.out)⟩
              · rw [if_pos (by rfl)]
                go_simp
                go_at_call 20
                refine Calls.mono (textS_any _ _) ?_
                rintro e z9 ⟨sz9, rfl, zz, hbn⟩
                have Zz9 : Hid (sz9.size ≤ 1000) := Lib.hid (by omega)
                have HMz9 := Lib.hid (HMz5.out.below hbn)
                have HDz9 := Lib.hid (HDz5.out.trans (hbn.mono HDz5.out.size))
                refine hK.out _ _ trivial (fun hH => ?_)
                clear hK K hbn zz
                try simp only [Act.put, List.setIfInBounds_toArray, List.set_cons_zero, List.set_cons_succ]
                refine wpAnyH_takeTo (i := 8) (d := some 84) (v := .agg #[.string ⟨#[69, 120, 112, 105, 114, 101, 115]⟩, .string sz9]) rfl rfl (by kernel_rfl) (by kernel_rfl) (by kernel_rfl) (fun _ _ _ h => h) (Or.inl ⟨by rfl, fun x hx => ?_⟩) hH ?_
                · have f0 := hx
                  go_simp
                try simp only [Act.put, List.setIfInBounds_toArray, List.set_cons_zero, List.set_cons_succ]
                refine wpAnyH_ready (rs := [1, 9]) (by kernel_rfl) (by simp) (AllReadyH.cons rfl (fun K hK => ?_) (AllReadyH.cons rfl (fun K hK => ?_) AllReadyH.nil))
                · rw [if_pos (by rfl)]
                  have kx := (four_at HMz9.out.block).2.2.1
                  go_simp
                  clear kx
                  refine hK.out _ _ trivial (fun hH => ?_)
                  clear hK K
                  try simp only [Act.put, List.setIfInBounds_toArray, List.set_cons_zero, List.set_cons_succ]
                  refine wpAnyH_ready (rs := [9]) (by kernel_rfl) (by simp) (AllReadyH.cons rfl (fun K hK => ?_) AllReadyH.nil)
                  · rw [if_pos (by rfl)]
                    go_simp
                    obtain ⟨z10, hy⟩ : ∃ y, z9.alloc (.cells #[.string ⟨#[68, 97, 116, 101]⟩, .string sz5, .string ⟨#[69, 120, 112, 105, 114, 101, 115]⟩, .string sz9] 43) = y := ⟨_, rfl⟩
                    have hbn : Below z9.heap.size z9 z10 := by rw [← hy]; exact below_al (Below.refl _ _) _
                    have HMz10 := Lib.hid (HMz9.out.below hbn)
                    have HDz10 := Lib.hid (HDz9.out.trans (hbn.mono HDz9.out.size))
                    have HFz10 : Hid (FieldsIn z10.heap.size z10 (some ⟨z9.heap.size, 0, none⟩) [(⟨#[68, 97, 116, 101]⟩, sz5), (⟨#[69, 120, 112, 105, 114, 101, 115]⟩, sz9)]) := Lib.hid (row_at (l := [(⟨#[68, 97, 116, 101]⟩, sz5), (⟨#[69, 120, 112, 105, 114, 101, 115]⟩, sz9)]) (by rw [← hy]; exact heap_alloc_new z9 _))
                    change K _ (z9.alloc (.cells #[.string ⟨#[68, 97, 116, 101]⟩, .string sz5, .string ⟨#[69, 120, 112, 105, 114, 101, 115]⟩, .string sz9] 43))
                    rw [hy]
                    refine hK.out _ _ trivial (fun hH => ?_)
                    clear hK K hy hbn
                    try simp only [Act.put, List.setIfInBounds_toArray, List.set_cons_zero, List.set_cons_succ]
                    refine wpAnyH_ready (rs := [10]) (by kernel_rfl) (by simp) (AllReadyH.cons rfl (fun K hK => ?_) AllReadyH.nil)
                    · rw [if_pos (by rfl)]
                      refine wp_msg_append HMz10.out (by decide) (.tmp 77) (.tmp 85) rfl 86 rfl rfl (some ⟨z9.heap.size, 0, none⟩) 2 2 [(⟨#[68, 97, 116, 101]⟩, sz5), (⟨#[69, 120, 112, 105, 114, 101, 115]⟩, sz9)] rfl rfl HFz10.out (fun e => by cases e) (by simp) (small_cons (by decide) Zz5.out (small_one (by decide) Zz9.out)) rfl ?_
                      intro fa2 n2 fc2 x3 s2_ sf HN HF HGR
                      refine hK.out _ _ trivial (fun hH => ?_)
                      clear hK K
                      try simp only [Act.put, List.setIfInBounds_toArray, List.set_cons_zero, List.set_cons_succ]
                      refine wpAnyH_takeTo (i := 11) (d := some 87) (v := .pointer (some ⟨p, 2, none⟩)) rfl rfl (by kernel_rfl) (by kernel_rfl) (by kernel_rfl) (fun _ _ _ h => h) (Or.inl ⟨by rfl, fun x hx => ?_⟩) hH ?_
                      · have f0 := hx
                        go_simp
                      try simp only [Act.put, List.setIfInBounds_toArray, List.set_cons_zero, List.set_cons_succ]
                      refine wpAnyH_stepTo (i := 12) (d := none) (by kernel_rfl) rfl rfl (by rfl) (fun _ y => y = x3.setCell ⟨p, 2, none⟩ (.slice fa2 n2 fc2)) (fun K hK => ?_) ?_
                      · go_simp
                        exact hK (.bool true) _ rfl
                      rintro _ _ rfl
                      refine ⟨trivial, ?_⟩
                      refine wpAnyH_done (by kernel_rfl) ?_ _
                      go_wp2_with fail
                      go_meet
                      exact ⟨fa2, n2, fc2, _, HN, Lib.hid (HF.out v0 HPG.out HDz10.out)⟩
                · rw [if_pos (by rfl)]
                  go_simp
                  obtain ⟨z12, hy⟩ : ∃ y, z9.alloc (.cells #[.string ⟨#[68, 97, 116, 101]⟩, .string sz5, .string ⟨#[69, 120, 112, 105, 114, 101, 115]⟩, .string sz9] 43) = y := ⟨_, rfl⟩
                  have hbn : Below z9.heap.size z9 z12 := by rw [← hy]; exact below_al (Below.refl _ _) _
                  have HMz12 := Lib.hid (HMz9.out.below hbn)
                  have HDz12 := Lib.hid (HDz9.out.trans (hbn.mono HDz9.out.size))
                  have HFz12 : Hid (FieldsIn z12.heap.size z12 (some ⟨z9.heap.size, 0, none⟩) [(⟨#[68, 97, 116, 101]⟩, sz5), (⟨#[69, 120, 112, 105, 114, 101, 115]⟩, sz9)]) := Lib.hid (row_at (l := [(⟨#[68, 97, 116, 101]⟩, sz5), (⟨#[69, 120, 112, 105, 114, 101, 115]⟩, sz9)]) (by rw [← hy]; exact heap_alloc_new z9 _))
                  change K _ (z9.alloc (.cells #[.string ⟨#[68, 97, 116, 101]⟩, .string sz5, .string ⟨#[69, 120, 112, 105, 114, 101, 115]⟩, .string sz9] 43))
                  rw [hy]
                  refine hK.out _ _ trivial (fun hH => ?_)
                  clear hK K hy hbn
                  try simp only [Act.put, List.setIfInBounds_toArray, List.set_cons_zero, List.set_cons_succ]
                  refine wpAnyH_ready (rs := [1]) (by kernel_rfl) (by simp) (AllReadyH.cons rfl (fun K hK => ?_) AllReadyH.nil)
                  · rw [if_pos (by rfl)]
                    have kx := (four_at HMz12.out.block).2.2.1
                    go_simp
                    clear kx
                    refine hK.out _ _ trivial (fun hH => ?_)
                    clear hK K
                    try simp only [Act.put, List.setIfInBounds_toArray, List.set_cons_zero, List.set_cons_succ]
                    refine wpAnyH_ready (rs := [10]) (by kernel_rfl) (by simp) (AllReadyH.cons rfl (fun K hK => ?_) AllReadyH.nil)
                    · rw [if_pos (by rfl)]
                      refine wp_msg_append HMz12.out (by decide) (.tmp 77) (.tmp 85) rfl 86 rfl rfl (some ⟨z9.heap.size, 0, none⟩) 2 2 [(⟨#[68, 97, 116, 101]⟩, sz5), (⟨#[69, 120, 112, 105, 114, 101, 115]⟩, sz9)] rfl rfl HFz12.out (fun e => by cases e) (by simp) (small_cons (by decide) Zz5.out (small_one (by decide) Zz9.out)) rfl ?_
                      intro fa2 n2 fc2 x3 s2_ sf HN HF HGR
                      refine hK.out _ _ trivial (fun hH => ?_)
                      clear hK K
                      try simp only [Act.put, List.setIfInBounds_toArray, List.set_cons_zero, List.set_cons_succ]
                      refine wpAnyH_takeTo (i := 11) (d := some 87) (v := .pointer (some ⟨p, 2, none⟩)) rfl rfl (by kernel_rfl) (by kernel_rfl) (by kernel_rfl) (fun _ _ _ h => h) (Or.inl ⟨by rfl, fun x hx => ?_⟩) hH ?_
                      · have f0 := hx
                        go_simp
                      try simp only [Act.put, List.setIfInBounds_toArray, List.set_cons_zero, List.set_cons_succ]
                      refine wpAnyH_stepTo (i := 12) (d := none) (by kernel_rfl) rfl rfl (by rfl) (fun _ y => y = x3.setCell ⟨p, 2, none⟩ (.slice fa2 n2 fc2)) (fun K hK => ?_) ?_
                      · go_simp
                        exact hK (.bool true) _ rfl
                      rintro _ _ rfl
                      refine ⟨trivial, ?_⟩
                      refine wpAnyH_done (by kernel_rfl) ?_ _
                      go_wp2_with fail
                      go_meet
                      exact ⟨fa2, n2, fc2, _, HN, Lib.hid (HF.out v0 HPG.out HDz12.out)⟩
          have g3_ : ((k3 : Int) == 3) = false := by simp; omega
          by_cases h4_ : k3 = 4
          · subst h4_
            obtain ⟨y1, hy1⟩ : ∃ x, wc.alloc (.cells #[.string ⟨#[65, 103, 101]⟩, .string ⟨#[52]⟩] 43) = x := ⟨_, rfl⟩
            have HX1 := Lib.hid hy1
            have hbn : Below wc.heap.size wc y1 := by rw [← hy1]; exact below_al (Below.refl _ _) _
            have HM1 := Lib.hid (HM.out.below hbn)
            have HD1 := Lib.hid (HBW.out.trans (hbn.mono HBW.out.size))
            have HF1 : Hid (FieldsIn y1.heap.size y1 (some ⟨wc.heap.size, 0, none⟩) [(⟨#[65, 103, 101]⟩, ⟨#[52]⟩)]) := Lib.hid (row_at (l := [(⟨#[65, 103, 101]⟩, ⟨#[52]⟩)]) (by rw [← hy1]; exact heap_alloc_new wc _))
            clear hy1 hbn
            have kx := (four_at HM.out.block).2.2.1
            go_wp2_with ((with_reducible show wpList _ _ _ (⟨some 94, _, _, _, _, _⟩ :: _) _ _); (change wpList _ _ _ _ _ (wc.alloc (.cells #[.string ⟨#[65, 103, 101]⟩, .string ⟨#[52]⟩] 43))); rw [HX1.out]; refine wpList_plain rfl fun K' hK' => ?_; refine wp_msg_append HM1.out (by decide) (.tmp 91) (.tmp 93) rfl 94 rfl rfl (some ⟨wc.heap.size, 0, none⟩) 1 1 [(⟨#[65, 103, 101]⟩, ⟨#[52]⟩)] rfl rfl HF1.out (fun e => by cases e) (by simp) (small_one (by decide) (by decide)) rfl ?_; intro fa2 n2 fc2 x3 s2_ sf HN HF HGR; refine hK' _ _ ?_)
            go_meet
            exact ⟨fa2, n2, fc2, _, HN, Lib.hid (HF.out v0 HPG.out HD1.out)⟩
          have g4_ : ((k3 : Int) == 4) = false := by simp; omega
          clear h0_ h1_ h2_ h3_ h4_
          go_wp2_with fail
          go_meet
          exact ⟨_, _, _, _, Lib.hid (HM.out.more (by decide)), HBW⟩
        case rest =>
          clear HM HBW
          obtain ⟨fa, n, fc, L, HM, HBW⟩ := hcut
          have kq := (HQ.out wc HBW.out).2.2.2.2.1
          go_upto_block 1 with (fail)
          clear kq
          go_cut [] (fun wx => ∃ fa n fc L, Hid (Msg 25 p 12 wx (.int .i64 (ST : Int)) (.string ⟨#[82]⟩) (.slice fa n fc) (.slice none 0 0) L) ∧ Hid (Below v0.heap.size v0 wx))
          case first =>
            by_cases h1_ : k4 = 1
            · subst h1_
              obtain ⟨y1, hy1⟩ : ∃ x, wc.alloc (.cells #[.string ⟨#[69, 84, 97, 103]⟩, .string ⟨#[34, 97, 34]⟩] 43) = x := ⟨_, rfl⟩
              have HX1 := Lib.hid hy1
              have hbn : Below wc.heap.size wc y1 := by rw [← hy1]; exact below_al (Below.refl _ _) _
              have HM1 := Lib.hid (HM.out.below hbn)
              have HD1 := Lib.hid (HBW.out.trans (hbn.mono HBW.out.size))
              have HF1 : Hid (FieldsIn y1.heap.size y1 (some ⟨wc.heap.size, 0, none⟩) [(⟨#[69, 84, 97, 103]⟩, ⟨#[34, 97, 34]⟩)]) := Lib.hid (row_at (l := [(⟨#[69, 84, 97, 103]⟩, ⟨#[34, 97, 34]⟩)]) (by rw [← hy1]; exact heap_alloc_new wc _))
              clear hy1 hbn
              have kx := (four_at HM.out.block).2.2.1
              go_wp2_with ((with_reducible show wpList _ _ _ (⟨some 105, _, _, _, _, _⟩ :: _) _ _); (change wpList _ _ _ _ _ (wc.alloc (.cells #[.string ⟨#[69, 84, 97, 103]⟩, .string ⟨#[34, 97, 34]⟩] 43))); rw [HX1.out]; refine wpList_plain rfl fun K' hK' => ?_; refine wp_msg_append HM1.out (by decide) (.tmp 102) (.tmp 104) rfl 105 rfl rfl (some ⟨wc.heap.size, 0, none⟩) 1 1 [(⟨#[69, 84, 97, 103]⟩, ⟨#[34, 97, 34]⟩)] rfl rfl HF1.out (fun e => by cases e) (by simp) (small_one (by decide) (by decide)) rfl ?_; intro fa2 n2 fc2 x3 s2_ sf HN HF HGR; refine hK' _ _ ?_)
              go_meet
              exact ⟨fa2, n2, fc2, _, HN, Lib.hid (HF.out v0 HPG.out HD1.out)⟩
            have g1_ : ((k4 : Int) == 1) = false := by simp; omega
            by_cases h2_ : k4 = 2
            · subst h2_
              obtain ⟨y1, hy1⟩ : ∃ x, wc.alloc (.cells #[.string ⟨#[69, 84, 97, 103]⟩, .string ⟨#[87, 47, 34, 98, 34]⟩] 43) = x := ⟨_, rfl⟩
              have HX1 := Lib.hid hy1
              have hbn : Below wc.heap.size wc y1 := by rw [← hy1]; exact below_al (Below.refl _ _) _
              have HM1 := Lib.hid (HM.out.below hbn)
              have HD1 := Lib.hid (HBW.out.trans (hbn.mono HBW.out.size))
              have HF1 : Hid (FieldsIn y1.heap.size y1 (some ⟨wc.heap.size, 0, none⟩) [(⟨#[69, 84, 97, 103]⟩, ⟨#[87, 47, 34, 98, 34]⟩)]) := Lib.hid (row_at (l := [(⟨#[69, 84, 97, 103]⟩, ⟨#[87, 47, 34, 98, 34]⟩)]) (by rw [← hy1]; exact heap_alloc_new wc _))
              clear hy1 hbn
              have kx := (four_at HM.out.block).2.2.1
              go_wp2_with ((with_reducible show wpList _ _ _ (⟨some 113, _, _, _, _, _⟩ :: _) _ _); (change wpList _ _ _ _ _ (wc.alloc (.cells #[.string ⟨#[69, 84, 97, 103]⟩, .string ⟨#[87, 47, 34, 98, 34]⟩] 43))); rw [HX1.out]; refine wpList_plain rfl fun K' hK' => ?_; refine wp_msg_append HM1.out (by decide) (.tmp 110) (.tmp 112) rfl 113 rfl rfl (some ⟨wc.heap.size, 0, none⟩) 1 1 [(⟨#[69, 84, 97, 103]⟩, ⟨#[87, 47, 34, 98, 34]⟩)] rfl rfl HF1.out (fun e => by cases e) (by simp) (small_one (by decide) (by decide)) rfl ?_; intro fa2 n2 fc2 x3 s2_ sf HN HF HGR; refine hK' _ _ ?_)
              go_meet
              exact ⟨fa2, n2, fc2, _, HN, Lib.hid (HF.out v0 HPG.out HD1.out)⟩
            have g2_ : ((k4 : Int) == 2) = false := by simp; omega
            by_cases h3_ : k4 = 3
            · subst h3_
              obtain ⟨y1, hy1⟩ : ∃ x, wc.alloc (.cells #[.string ⟨#[67, 111, 110, 110, 101, 99, 116, 105, 111, 110]⟩, .string ⟨#[88, 45, 89]⟩, .string ⟨#[88, 45, 89]⟩, .string ⟨#[50]⟩] 43) = x := ⟨_, rfl⟩
              have HX1 := Lib.hid hy1
              have hbn : Below wc.heap.size wc y1 := by rw [← hy1]; exact below_al (Below.refl _ _) _
              have HM1 := Lib.hid (HM.out.below hbn)
              have HD1 := Lib.hid (HBW.out.trans (hbn.mono HBW.out.size))
              have HF1 : Hid (FieldsIn y1.heap.size y1 (some ⟨wc.heap.size, 0, none⟩) [(⟨#[67, 111, 110, 110, 101, 99, 116, 105, 111, 110]⟩, ⟨#[88, 45, 89]⟩), (⟨#[88, 45, 89]⟩, ⟨#[50]⟩)]) := Lib.hid (row_at (l := [(⟨#[67, 111, 110, 110, 101, 99, 116, 105, 111, 110]⟩, ⟨#[88, 45, 89]⟩), (⟨#[88, 45, 89]⟩, ⟨#[50]⟩)]) (by rw [← hy1]; exact heap_alloc_new wc _))
              clear hy1 hbn
              have kx := (four_at HM.out.block).2.2.1
              go_wp2_with ((with_reducible show wpList _ _ _ (⟨some 122, _, _, _, _, _⟩ :: _) _ _); (change wpList _ _ _ _ _ (wc.alloc (.cells #[.string ⟨#[67, 111, 110, 110, 101, 99, 116, 105, 111, 110]⟩, .string ⟨#[88, 45, 89]⟩, .string ⟨#[88, 45, 89]⟩, .string ⟨#[50]⟩] 43))); rw [HX1.out]; refine wpList_plain rfl fun K' hK' => ?_; refine wp_msg_append HM1.out (by decide) (.tmp 118) (.tmp 121) rfl 122 rfl rfl (some ⟨wc.heap.size, 0, none⟩) 2 2 [(⟨#[67, 111, 110, 110, 101, 99, 116, 105, 111, 110]⟩, ⟨#[88, 45, 89]⟩), (⟨#[88, 45, 89]⟩, ⟨#[50]⟩)] rfl rfl HF1.out (fun e => by cases e) (by simp) (small_cons (by decide) (by decide) (small_one (by decide) (by decide))) rfl ?_; intro fa2 n2 fc2 x3 s2_ sf HN HF HGR; refine hK' _ _ ?_)
              go_meet
              exact ⟨fa2, n2, fc2, _, HN, Lib.hid (HF.out v0 HPG.out HD1.out)⟩
            have g3_ : ((k4 : Int) == 3) = false := by simp; omega
            clear h1_ h2_ h3_
            go_wp2_with fail
            go_meet
            exact ⟨_, _, _, _, Lib.hid (HM.out.more (by decide)), HBW⟩
          case rest =>
            clear HM HBW
            obtain ⟨fa, n, fc, L, HM, HBW⟩ := hcut
            have km := (four_at HM.out.block).1
            go_upto_if 127 with (go_at_call 22; refine Calls.mono (bodiless_get _ _) ?_; rintro e wy ⟨⟨b7, rfl⟩, rfl⟩)
            clear km
            go_cut [] (fun wx => ∃ fa n fc L ba bn bc, Hid (Msg 25 p 12 wx (.int .i64 (ST : Int)) (.string ⟨#[82]⟩) (.slice fa n fc) (.slice ba bn bc) L) ∧ Hid (Below v0.heap.size v0 wx))
            case first =>
              cases b7 with
              | true =>
                go_wp2_with fail
                go_meet
                exact ⟨_, _, _, _, _, _, _, HM, HBW⟩
              | false =>
                obtain ⟨y1, hy1⟩ : ∃ x, wc.alloc (.cells #[.int .u8 97, .int .u8 98, .int .u8 99, .int .u8 100, .int .u8 101, .int .u8 102, .int .u8 103, .int .u8 104, .int .u8 105, .int .u8 106, .int .u8 107, .int .u8 108, .int .u8 109, .int .u8 110, .int .u8 111, .int .u8 112, .int .u8 113, .int .u8 114, .int .u8 115, .int .u8 116, .int .u8 117, .int .u8 118, .int .u8 119, .int .u8 120, .int .u8 121, .int .u8 122] 5 (26, 27)) = x := ⟨_, rfl⟩
                have hbn : Below wc.heap.size wc y1 := by rw [← hy1]; exact below_al (Below.refl _ _) _
                have HX1 := Lib.hid hy1
                have HM1 := Lib.hid (HM.out.below hbn)
                have HD1 := Lib.hid (HBW.out.trans (hbn.mono HBW.out.size))
                clear hy1 hbn
                have kc := Lib.run_convert_bytes_const (P := Tryz.prog) wc 23 5 #[.int .u8 97, .int .u8 98, .int .u8 99, .int .u8 100, .int .u8 101, .int .u8 102, .int .u8 103, .int .u8 104, .int .u8 105, .int .u8 106, .int .u8 107, .int .u8 108, .int .u8 109, .int .u8 110, .int .u8 111, .int .u8 112, .int .u8 113, .int .u8 114, .int .u8 115, .int .u8 116, .int .u8 117, .int .u8 118, .int .u8 119, .int .u8 120, .int .u8 121, .int .u8 122] 26 26 Tryz.underlying23 Tryz.underlying5
                have kq := (HQ.out y1 HD1.out).2.2.2.2.2
                have kb := (four_at HM1.out.block).2.2.2
                have kf := heap_frozen HM1.out.block 3
                go_wp2_with ((with_reducible show wpList _ _ _ (⟨some 130, _, _, _, _, _⟩ :: _) _ _); (change wpList _ _ _ _ _ (wc.alloc (.cells #[.int .u8 97, .int .u8 98, .int .u8 99, .int .u8 100, .int .u8 101, .int .u8 102, .int .u8 103, .int .u8 104, .int .u8 105, .int .u8 106, .int .u8 107, .int .u8 108, .int .u8 109, .int .u8 110, .int .u8 111, .int .u8 112, .int .u8 113, .int .u8 114, .int .u8 115, .int .u8 116, .int .u8 117, .int .u8 118, .int .u8 119, .int .u8 120, .int .u8 121, .int .u8 122] 5 (26, 27)))); rw [HX1.out])
                go_meet
                exact ⟨_, _, _, _, _, _, _, Lib.hid (HM1.out.body _), Lib.hid (below_cell HD1.out HPG.out _)⟩
            case rest =>
              clear HM HBW
              obtain ⟨fa, n, fc, L, ba, bn, bc, HM, HBW⟩ := hcut
              obtain ⟨fa1, fc1, hv, hin⟩ := HM.out.slice
              obtain ⟨rfl, rfl, rfl⟩ : fa = fa1 ∧ n = L.length ∧ fc = fc1 := by simpa using hv
              have hs0 := HS0.out
              have hp0 := HPW.out
              have HGZ := Lib.hid (HZ.out wc HBW.out)
              have HR2 := Lib.hid (heap_setCells (g := w.heap.size + 1) (t := 25) [.int .i64 (ST : Int), .string ⟨#[82]⟩, .slice fa L.length fc, .slice ba bn bc] [] [.int .i64 0, .string ⟨#[]⟩, .slice none 0 0, .slice none 0 0] [] wc HGZ.out rfl)
              have HM2 := Lib.hid (HM.out.far_sets (q := w.heap.size + 1) (by omega) [.int .i64 (ST : Int), .string ⟨#[82]⟩, .slice fa L.length fc, .slice ba bn bc])
              have HB2 : Hid (Below w.heap.size w (wc.setCells (w.heap.size + 1) 0 [.int .i64 (ST : Int), .string ⟨#[82]⟩, .slice fa L.length fc, .slice ba bn bc])) := Lib.hid (bl_set (HB0.out.trans (HBW.out.mono HB0.out.size)) (by omega))
              have HTH := Lib.hid (there_of HGZ.out 0 4 (by simp))
              have HBK := Lib.hid HM.out.block
              clear hv hin HGZ HM HBW hs0 hp0
              go_wp2_with (first | ((with_reducible show wpList _ _ _ (⟨some 135, _, _, _, _, _⟩ :: _) _ _); refine wpList_load_row rfl 25 (.tmp 5) rfl p rfl 25 _ (0, 0) _ HBK.out Tryz.underlying25 rfl info_resp ?_) | ((with_reducible show wpList _ _ _ (⟨none, .store 25 _ _, _, _, _, _⟩ :: _) _ _); refine wpList_store_mid rfl 25 (.tmp 4) (.tmp 135) rfl (w.heap.size + 1) 0 #[.int .i64 (ST : Int), .string ⟨#[82]⟩, .slice fa L.length fc, .slice ba bn bc] rfl rfl HTH.out info_resp (by simp [Value.oneCell']) ?_))
              obtain ⟨fa2, fc2, hv, hin⟩ := HM2.out.slice
              obtain ⟨rfl, rfl⟩ : fa = fa2 ∧ fc = fc2 := by simpa using hv
              exact bodyPost_ret (v := .agg #[.int .i64 (ST : Int), .string ⟨#[82]⟩, .slice fa L.length fc, .slice ba bn bc]) (results_cell_row rfl _ _ (w.heap.size + 1) 25 #[.int .i64 (ST : Int), .string ⟨#[82]⟩, .slice fa L.length fc, .slice ba bn bc] (0, 0) _ rfl HR2.out Tryz.underlying25 (by rfl) info_resp) rfl ⟨ST, _, fa, fc, L, ba, bn, bc, rfl, Joins.ownsRow_le HM2.out.own (by have := HPW.out; omega), few_small HM2.out.small (by have := HM2.out.len; omega), zST.out, HB2.out⟩
end Go.Proofs.YtaimhfnddolilaaGreatDoor
namespace Go.Proofs.YtaimhfnddolilaaGreatDoor
open Go.RowKit HeadMath HeadS CtrlS DateMath VaryS

theorem info_times : (Tryz.prog.info? 27).map (·.size) = some 2 := by kernel_rfl
/-- The boxes of a response and of its times; the control's. -/
def BoxesF (w : World) (q : Ctl) (wx : World) : Prop := ∃ (st : Int) (rs : ByteArray) (fa : Option Addr) (fc : Nat) (fs : Flf) (ba : Option Addr) (bn bc : Nat) (asked came : Int),
  wx.heap[w.heap.size]? = some (.cells #[.int .i64 st, .string rs, .slice fa fs.length fc, .slice ba bn bc] 25 (0, 0)) ∧ wx.heap[w.heap.size + 1]? = some (.cells #[.int .i64 asked, .int .i64 came] 27 (0, 0)) ∧ CtlAt wx (w.heap.size + 1 + 1) q ∧ FieldsIn wx.heap.size wx fa fs ∧ FewF fs ∧ Below w.heap.size w wx
theorem Told.lifeR {v : World} {st : Int} {fs : Flf} {fa : Option Addr} {fc : Nat} (h : Told v st fs fa fc) {L : Int} (hL : lifeF st fs = L) (rs : ByteArray) (ba : Option Addr) (bn bc : Nat) : ∀ y, Below v.heap.size v y →
    Calls Tryz.prog 12 #[.agg #[.int .i64 st, .string rs, .slice fa fs.length fc, .slice ba bn bc]] y (NumPost L y) := fun y hy => by
  rw [← hL]
  have h' := h.up hy
  exact refLife_any fs st rs fa ba fc bn bc y h'.ins h'.few
theorem Told.ageR {v : World} {st : Int} {fs : Flf} {fa : Option Addr} {fc : Nat} (h : Told v st fs fa fc) {asked came now L : Int} (hL : ageF fs asked came now = L) (rs : ByteArray) (ba : Option Addr) (bn bc : Nat) : ∀ y, Below v.heap.size v y →
    Calls Tryz.prog 14 #[.agg #[.int .i64 st, .string rs, .slice fa fs.length fc, .slice ba bn bc], .agg #[.int .i64 asked, .int .i64 came], .int .i64 now] y (NumPost L y) := fun y hy => by
  rw [← hL]
  have h' := h.up hy
  exact refAge_any fs st asked came now rs fa ba fc bn bc y h'.ins h'.few
theorem Told.servR {v : World} {st : Int} {fs : Flf} {fa : Option Addr} {fc : Nat} (h : Told v st fs fa fc) {q : Ctl} {asked came now : Int} {b : Bool} (hb : servF q st fs asked came now = b) (rs : ByteArray) (ba : Option Addr) (bn bc : Nat) : ∀ y, Below v.heap.size v y →
    Calls Tryz.prog 16 #[ctlV q, .agg #[.int .i64 st, .string rs, .slice fa fs.length fc, .slice ba bn bc], .agg #[.int .i64 asked, .int .i64 came], .int .i64 now] y (BoolPost b y) := fun y hy => by
  rw [← hb]
  have h' := h.up hy
  exact refServ_any q fs st asked came now rs fa ba fc bn bc y h'.ins h'.few
set_option maxRecDepth 100000 in
set_option maxHeartbeats 32000000 in
theorem counts_law (w : World) (st : Int) (rs : ByteArray) (fs : Flf) (fa : Option Addr) (fc : Nat) (ba : Option Addr) (bn bc : Nat) (asked came now : Int) (q : Ctl) (r0 r1 r2 r3 r4 r5 : Nat) (mk : Bool)
    (z0 : r0 < 256) (z1 : r1 < 256) (z2 : r2 < 256) (z3 : r3 < 256) (z4 : r4 < 256) (z5 : r5 < 256) (t1 : TabP w) (t2 : TabS w)
    (hin : FieldsIn w.heap.size w fa fs) (hw : WideF fs) (hrs : rs.size ≤ maxLen) (hbn : bn ≤ maxLen) :
    Calls Tryz.prog 3 #[.agg #[.int .i64 st, .string rs, .slice fa fs.length fc, .slice ba bn bc], .agg #[.int .i64 asked, .int .i64 came], .int .i64 now, ctlV q, .agg #[.int .u8 r0, .int .u8 r1, .int .u8 r2, .int .u8 r3, .int .u8 r4, .int .u8 r5], .bool mk] w (BoolPost true w) := by
  obtain ⟨a0, a1, a2, a3, a4, a5, a6, a7, y8, y9, y10, y11⟩ := q
  show Calls _ _ #[_, _, _, .agg #[.bool a0, .bool a1, .bool a2, .bool a3, .bool a4, .bool a5, .bool a6, .bool a7, .int .i64 y8, .int .i64 y9, .int .i64 y10, .int .i64 y11], _, _] _ _
  obtain ⟨v, hv⟩ : ∃ v, (((w.alloc (.cells #[.int .i64 st, .string rs, .slice fa fs.length fc, .slice ba bn bc] 25)).alloc (.cells #[.int .i64 asked, .int .i64 came] 27)).alloc (.cells #[.bool a0, .bool a1, .bool a2, .bool a3, .bool a4, .bool a5, .bool a6, .bool a7, .int .i64 y8, .int .i64 y9, .int .i64 y10, .int .i64 y11] 29)).alloc (.cells #[.int .u8 r0, .int .u8 r1, .int .u8 r2, .int .u8 r3, .int .u8 r4, .int .u8 r5] 31) = v := ⟨_, rfl⟩
  have h4 := four_blocksF w (.cells #[.int .i64 st, .string rs, .slice fa fs.length fc, .slice ba bn bc] 25) (.cells #[.int .i64 asked, .int .i64 came] 27) (.cells #[.bool a0, .bool a1, .bool a2, .bool a3, .bool a4, .bool a5, .bool a6, .bool a7, .int .i64 y8, .int .i64 y9, .int .i64 y10, .int .i64 y11] 29) (.cells #[.int .u8 r0, .int .u8 r1, .int .u8 r2, .int .u8 r3, .int .u8 r4, .int .u8 r5] 31)
  simp only at h4
  rw [hv] at h4
  obtain ⟨h0, h1, h2, h3, hsz, hb⟩ := h4
  have HR : Hid (∀ y, Below v.heap.size v y → y.heap[w.heap.size]? = some (.cells #[.int .i64 st, .string rs, .slice fa fs.length fc, .slice ba bn bc] 25 (0, 0))) := Lib.hid (fun y hy => stood3 hy h0)
  have HT : Hid (∀ y, Below v.heap.size v y → y.heap[w.heap.size + 1]? = some (.cells #[.int .i64 asked, .int .i64 came] 27 (0, 0))) := Lib.hid (fun y hy => stood3 hy h1)
  have HQ : Hid (∀ y, Below v.heap.size v y → CtlAt y (w.heap.size + 1 + 1) ⟨a0, a1, a2, a3, a4, a5, a6, a7, y8, y9, y10, y11⟩) := Lib.hid (fun y hy => stood3 hy h2)
  have HXR : Hid (∀ y, Below v.heap.size v y → y.heap[w.heap.size + 1 + 1 + 1]? = some (.cells #[.int .u8 r0, .int .u8 r1, .int .u8 r2, .int .u8 r3, .int .u8 r4, .int .u8 r5] 31 (0, 0))) := Lib.hid (fun y hy => stood3 hy h3)
  have HI : Hid (∀ y, Below v.heap.size v y → FieldsIn y.heap.size y fa fs) := Lib.hid (fun y hy => kin_in (w := w) ⟨y, hb.trans (hy.mono hb.size)⟩ hin)
  have CG : Hid (∀ y, Below v.heap.size v y → Calls Tryz.prog 9 #[.agg #[.int .i64 st, .string rs, .slice fa fs.length fc, .slice ba bn bc]] y (LightRPost fs y)) := Lib.hid (fun y hy => lightR_any fs st rs fa ba fc bn bc y (HI.out y hy) hw hrs hbn)
  have CR : Hid (∀ y, Calls Tryz.prog 10 #[.agg #[.int .u8 r0, .int .u8 r1, .int .u8 r2, .int .u8 r3, .int .u8 r4, .int .u8 r5], .int .i64 1000000000] y (RespMade y)) := Lib.hid (fun y => seatResp_any y _ r0 r1 r2 r3 r4 r5 z0 z1 z2 z3 z4 z5)
  have hvs : Spares nowhere w v := Below.spares hb (fun k hk => .inr hk)
  have HKN := Lib.hid (fknown_any v (t1.spares hvs (fun h => h)) (t2.spares hvs (fun h => h)))
  have HT1 := Lib.hid t1
  have HT2 := Lib.hid t2
  have HV := Lib.hid hv
  have HB := Lib.hid hb
  have HSZ := Lib.hid hsz
  obtain ⟨n, hn1⟩ : ∃ n, fs.length = n := ⟨_, rfl⟩
  have HN1 := Lib.hid hn1
  rw [hn1] at CG HR HV ⊢
  clear hin hw hrs hbn hv hb hsz h0 h1 h2 h3 hn1 z0 z1 z2 z3 z4 z5 t1 t2 hvs
  unfold BoolPost at HKN ⊢
  go_enter Tryz.func3, Tryz.ntmps3
  go_wp2_with fail
  change Calls _ _ _ ((((w.alloc (.cells #[.int .i64 st, .string rs, .slice fa n fc, .slice ba bn bc] 25)).alloc (.cells #[.int .i64 asked, .int .i64 came] 27)).alloc (.cells #[.bool a0, .bool a1, .bool a2, .bool a3, .bool a4, .bool a5, .bool a6, .bool a7, .int .i64 y8, .int .i64 y9, .int .i64 y10, .int .i64 y11] 29)).alloc (.cells #[.int .u8 r0, .int .u8 r1, .int .u8 r2, .int .u8 r3, .int .u8 r4, .int .u8 r5] 31)) _
  rw [HV.out]
  refine HKN.out.mono ?_
  rintro e w1 ⟨rfl, hb1⟩
  have HB1 := Lib.hid hb1
  obtain ⟨k0, k1, k2, k3⟩ := four_at (HR.out w1 hb1)
  have CG1 := Lib.hid (CG.out w1 hb1)
  clear hb1 HKN CG
  unfold LightRPost at CG1
  go_wp2_with fail
  refine CG1.out.mono ?_
  rintro e w2 ⟨b, rfl, hb2, hl⟩
  have hb2' := HB1.out.trans (hb2.mono HB1.out.size)
  have HB2 := Lib.hid hb2'
  have HL := Lib.hid hl
  clear k0 k1 k2 k3 CG1 hb2 hb2' hl
  cases b with
  | false =>
    go_wp2
    go_ret
    exact ⟨rfl, HB.out.trans (HB2.out.mono HB.out.size)⟩
  | true =>
    have HLR := Lib.hid ((HL.out rfl).few (by decide))
    clear HL
    go_upto_if 18 with (fail)
    go_cut [2] (fun s2 wx => ∃ now' : Int, s2 = .int .i64 now' ∧ Hid (BoxesF w ⟨a0, a1, a2, a3, a4, a5, a6, a7, y8, y9, y10, y11⟩ wx))
    case first =>
      cases mk with
      | false =>
        go_wp2_with fail
        go_meet
        refine ⟨_, rfl, Lib.hid ⟨st, rs, fa, fc, fs, ba, bn, bc, asked, came, ?_, HT.out _ HB2.out, HQ.out _ HB2.out, HI.out _ HB2.out, HLR.out, HB.out.trans (HB2.out.mono HB.out.size)⟩⟩
        rw [HN1.out]; exact HR.out _ HB2.out
      | true =>
        obtain ⟨g0, g1, g2, g3, g4, g5⟩ := six_at (HXR.out w2 HB2.out)
        go_wp2_with fail
        refine (CR.out _).mono ?_
        rintro e w3 ⟨st2, t2, fa2, fc2, fs2, ba2, bn2, bc2, rfl, ho2, hf2, _, hb3⟩
        have HB3 := Lib.hid (HB2.out.trans (hb3.mono HB2.out.size))
        have HO2 := Lib.hid ho2
        have HF2 := Lib.hid hf2
        have hsz := HSZ.out
        have hs2 := HB2.out.size
        have HLT : Hid (w.heap.size + 4 ≤ w2.heap.size) := Lib.hid (by omega)
        have HTH := Lib.hid (there_of (HR.out w3 HB3.out) 0 4 (by simp))
        have b3 := HB.out.trans (HB3.out.mono HB.out.size)
        have R3 := HR.out w3 HB3.out
        have T3 := HT.out w3 HB3.out
        have Q3 := HQ.out w3 HB3.out
        clear ho2 hb3 g0 g1 g2 g3 g4 g5 hsz hs2
        obtain ⟨x4, hx4⟩ : ∃ y, w3.setCells w.heap.size 0 [.int .i64 (st2 : Int), .string t2, .slice fa2 fs2.length fc2, .slice ba2 bn2 bc2] = y := ⟨_, rfl⟩
        have G0 : x4.heap[w.heap.size]? = some (.cells #[.int .i64 (st2 : Int), .string t2, .slice fa2 fs2.length fc2, .slice ba2 bn2 bc2] 25 (0, 0)) := by rw [← hx4]; exact heap_setCells (g := w.heap.size) (t := 25) [.int .i64 (st2 : Int), .string t2, .slice fa2 fs2.length fc2, .slice ba2 bn2 bc2] [] [.int .i64 st, .string rs, .slice fa n fc, .slice ba bn bc] [] w3 R3 rfl
        have G1 : x4.heap[w.heap.size + 1]? = some (.cells #[.int .i64 asked, .int .i64 came] 27 (0, 0)) := by rw [← hx4]; exact (heap_other _ _ (by omega) _ _ _).trans T3
        have G2 : CtlAt x4 (w.heap.size + 1 + 1) ⟨a0, a1, a2, a3, a4, a5, a6, a7, y8, y9, y10, y11⟩ := by rw [← hx4]; exact (heap_other _ _ (by omega) _ _ _).trans Q3
        have O4 : x4.ownsRow w2.heap.size 43 2 (.slice fa2 fs2.length fc2) fs2.length (fieldCells fs2) := by rw [← hx4]; exact own_sets (by have := HLT.out; omega) _ _ _ HO2.out
        have B4 : Below w.heap.size w x4 := by rw [← hx4]; exact bl_set b3 (Nat.le_refl _)
        have HX4 := Lib.hid hx4
        obtain ⟨x5, hx5⟩ : ∃ y, x4.setCells (w.heap.size + 1) 0 [.int .i64 (wrap64 (1000000000 - asked.tmod 9)), .int .i64 1000000000] = y := ⟨_, rfl⟩
        have K0 : Hid (x5.heap[w.heap.size]? = some (.cells #[.int .i64 (st2 : Int), .string t2, .slice fa2 fs2.length fc2, .slice ba2 bn2 bc2] 25 (0, 0))) := Lib.hid (by rw [← hx5]; exact (heap_other _ _ (by omega) _ _ _).trans G0)
        have K1 : Hid (x5.heap[w.heap.size + 1]? = some (.cells #[.int .i64 (wrap64 (1000000000 - asked.tmod 9)), .int .i64 1000000000] 27 (0, 0))) := Lib.hid (by rw [← hx5]; exact heap_setCells (g := w.heap.size + 1) (t := 27) [.int .i64 (wrap64 (1000000000 - asked.tmod 9)), .int .i64 1000000000] [] [.int .i64 asked, .int .i64 came] [] x4 G1 rfl)
        have K2 : Hid (CtlAt x5 (w.heap.size + 1 + 1) ⟨a0, a1, a2, a3, a4, a5, a6, a7, y8, y9, y10, y11⟩) := Lib.hid (by rw [← hx5]; exact (heap_other _ _ (by omega) _ _ _).trans G2)
        have K3 : Hid (FieldsIn x5.heap.size x5 fa2 fs2) := Lib.hid (by rw [← hx5]; exact own_in (own_sets (by have := HLT.out; omega) _ _ _ O4))
        have K4 : Hid (Below w.heap.size w x5) := Lib.hid (by rw [← hx5]; exact bl_set B4 (by omega))
        have HX5 := Lib.hid hx5
        have HTH2 := Lib.hid (there_of G1 0 2 (by simp))
        have kt := (two_at G1).1
        clear hx4 hx5 R3 T3 Q3 G0 G1 G2 O4 B4 b3 HO2
        go_upto_region 7 with ((with_reducible show wpList _ _ _ (⟨none, .store 25 _ _, _, _, _, _⟩ :: _) _ _); refine wpList_store_mid rfl 25 (.tmp 6) (.tmp 20) rfl w.heap.size 0 #[.int .i64 (st2 : Int), .string t2, .slice fa2 fs2.length fc2, .slice ba2 bn2 bc2] rfl rfl HTH.out info_resp (by simp [Value.oneCell']) ?_)
        rw [HX4.out]
        simp only [Act.put]
        go_upto_region 8 with ((with_reducible show wpList _ _ _ (⟨none, .store 27 _ _, _, _, _, _⟩ :: _) _ _); refine wpList_store_mid rfl 27 (.tmp 7) (.tmp 25) rfl (w.heap.size + 1) 0 #[.int .i64 (wrap64 (1000000000 - asked.tmod 9)), .int .i64 1000000000] rfl rfl HTH2.out info_times (by simp [Value.oneCell']) ?_)
        rw [HX5.out]
        simp only [Act.put]
        clear kt
        go_wp2_with fail
        go_meet
        exact ⟨_, rfl, Lib.hid ⟨_, t2, fa2, fc2, fs2, ba2, bn2, bc2, _, _, K0.out, K1.out, K2.out, K3.out, HF2.out, K4.out⟩⟩
    case rest =>
      obtain ⟨now, rfl, HC⟩ := hcut
      obtain ⟨st, rs, fa, fc, fs, ba, bn, bc, asked, came, HA0, HA1, HA2, HF0, HF1, HBX⟩ := HC.out
      have hws : Spares nowhere w wc := Below.spares HBX (fun k hk => .inr hk)
      have told : Told wc st fs fa fc := ⟨HT1.out.spares hws (fun h => h), HT2.out.spares hws (fun h => h), HF0, HF1⟩
      obtain ⟨L, hL⟩ : ∃ L, lifeF st fs = L := ⟨_, rfl⟩
      obtain ⟨G, hG⟩ : ∃ G, ageF fs asked came now = G := ⟨_, rfl⟩
      obtain ⟨S, hS⟩ : ∃ S, servF ⟨a0, a1, a2, a3, a4, a5, a6, a7, y8, y9, y10, y11⟩ st fs asked came now = S := ⟨_, rfl⟩
      obtain ⟨u, hu⟩ : ∃ u, heurF st = u := ⟨_, rfl⟩
      have M1 := Lib.hid (fun x : Kin wc => Kin.calls (told.life hL rs ba bn bc x.wd x.below))
      have M2 := Lib.hid (fun x : Kin wc => Kin.calls (told.lifeR hL rs ba bn bc x.wd x.below))
      have M3 := Lib.hid (fun x : Kin wc => Kin.calls (told.age hG rs ba bn bc x.wd x.below))
      have M4 := Lib.hid (fun x : Kin wc => Kin.calls (told.ageR hG rs ba bn bc x.wd x.below))
      have M5 := Lib.hid (fun x : Kin wc => Kin.calls (told.serv hS rs ba bn bc x.wd x.below))
      have M6 := Lib.hid (fun x : Kin wc => Kin.calls (told.servR hS rs ba bn bc x.wd x.below))
      have M7 : Hid (∀ x : Kin wc, Calls Tryz.prog 17 #[.int .i64 st] x.wd fun e w'' => e = .returned (.bool u) ∧ ∃ y : Kin wc, w'' = y.wd) := Lib.hid (fun x => (heur_any st x.wd).mono fun e w' ⟨h, h'⟩ => ⟨by rw [h, hu], x, h'⟩)
      have M8 : Hid (∀ x : Kin wc, Calls Tryz.prog 18 #[.int .i64 st] x.wd fun e w'' => e = .returned (.bool u) ∧ ∃ y : Kin wc, w'' = y.wd) := Lib.hid (fun x => Kin.calls ((refHeur_any st x.wd).mono fun e w' ⟨h, h'⟩ => ⟨by rw [h, hu], h'⟩))
      unfold ctlV at M5 M6
      have KA : Hid (∀ x : Kin wc, x.wd.cell? ⟨w.heap.size, 0, none⟩ = some (.int .i64 st) ∧ x.wd.cell? ⟨w.heap.size, 1, none⟩ = some (.string rs) ∧ x.wd.cell? ⟨w.heap.size, 2, none⟩ = some (.slice fa fs.length fc) ∧ x.wd.cell? ⟨w.heap.size, 3, none⟩ = some (.slice ba bn bc)) := Lib.hid (fun x => four_at (stood3 x.below HA0))
      have KB : Hid (∀ x : Kin wc, x.wd.cell? ⟨w.heap.size + 1, 0, none⟩ = some (.int .i64 asked) ∧ x.wd.cell? ⟨w.heap.size + 1, 1, none⟩ = some (.int .i64 came)) := Lib.hid (fun x => two_at (stood3 x.below HA1))
      have KC := Lib.hid (fun x : Kin wc => ctl_reads (c := ⟨a0, a1, a2, a3, a4, a5, a6, a7, y8, y9, y10, y11⟩) (stood3 x.below HA2))
      simp only at KC
      have HBX' := Lib.hid HBX
      obtain ⟨n, hn1⟩ : ∃ n, fs.length = n := ⟨_, rfl⟩
      rw [hn1] at M1 M2 M3 M4 M5 M6 KA
      clear HC HA0 HA1 HA2 HF0 HF1 HBX hn1 hws told hL hG hS hu
      go_upto_region 9 with (fail)
      have a0' := fun x => (KA.out x).1
      have a1' := fun x => (KA.out x).2.1
      have a2' := fun x => (KA.out x).2.2.1
      have a3' := fun x => (KA.out x).2.2.2
      have t0' := fun x => (KB.out x).1
      have t1' := fun x => (KB.out x).2
      have c0' := fun x => (KC.out x).1
      have c1' := fun x => (KC.out x).2.1
      have c2' := fun x => (KC.out x).2.2.1
      have c3' := fun x => (KC.out x).2.2.2.1
      have c4' := fun x => (KC.out x).2.2.2.2.1
      have c5' := fun x => (KC.out x).2.2.2.2.2.1
      have c6' := fun x => (KC.out x).2.2.2.2.2.2.1
      have c7' := fun x => (KC.out x).2.2.2.2.2.2.2.1
      have c8' := fun x => (KC.out x).2.2.2.2.2.2.2.2.1
      have c9' := fun x => (KC.out x).2.2.2.2.2.2.2.2.2.1
      have c10' := fun x => (KC.out x).2.2.2.2.2.2.2.2.2.2.1
      have c11' := fun x => (KC.out x).2.2.2.2.2.2.2.2.2.2.2
      have e1 : (L == L) = true := beq_self_eq_true L
      have e2 : (G == G) = true := beq_self_eq_true G
      have e3 : (S == S) = true := beq_self_eq_true S
      have e4 : (u == u) = true := beq_self_eq_true u
      refine wp_region_kin (by kernel_rfl) (by kernel_rfl) ?_
      repeat (go_big_quiet_step (first | (go_at_call 11; with_reducible exact M1.out _) | (go_at_call 12; with_reducible exact M2.out _) | (go_at_call 13; with_reducible exact M3.out _) | (go_at_call 14; with_reducible exact M4.out _) | (go_at_call 15; with_reducible exact M5.out _) | (go_at_call 16; with_reducible exact M6.out _) | (go_at_call 17; with_reducible exact M7.out _) | (go_at_call 18; with_reducible exact M8.out _)))
      refine wpQuiet_nil ?_
      intro _ hx
      obtain ⟨x, rfl⟩ := hx
      clear a0' a1' a2' a3' t0' t1' c0' c1' c2' c3' c4' c5' c6' c7' c8' c9' c10' c11'
      go_wp2
      go_ret
      exact ⟨rfl, HBX'.out.trans (x.below.mono HBX'.out.size)⟩
end Go.Proofs.YtaimhfnddolilaaGreatDoor
namespace Go.Proofs.YtaimhfnddolilaaGreatDoor
open Go.RowKit Go.Deep
open Go.WideShapes Go.ChangeAt

set_option maxRecDepth 100000
theorem aggN_openS {H : Type} {enc : TypeId × Value → H} {P : Program} {W : World} {t : TypeId} {fs : Array Field} {v : Value} {d : DataW H} {p : List MemPlace} {r : Reach} {b0 : Nat} (hs : P.underlying t = some (.struct fs)) (hone : oneCellFields P fs = true) (hC : P.cellsOf t = fs.size)
    (hv : Value.okWide P W r b0 t v) (h : DataW.Trod enc P W 0 (fun _ => true) true t v d p) :
    ∃ cs : Array Value, v = .agg cs ∧ cs.size = fs.size ∧ ∃ n, ∀ (j : Nat) (f : Field), fs[j]? = some f → ∃ u y, cs[j]? = some u ∧ DataW.trod enc P W 0 (fun _ => true) true n f.type [u] = some y := by
  obtain ⟨cs, rfl, hsz⟩ := okWide_struct hs hv
  obtain ⟨fuel, hf⟩ := h
  obtain ⟨ys, n', _, _, hl, hyl, hy⟩ := DataW.trod_struct hs hf
  refine ⟨cs, rfl, hsz.trans hC, n', fun j f hj => ?_⟩
  have hjl : j < fs.size := (Array.getElem?_eq_some_iff.1 hj).1
  have hcj : j < cs.size := by omega
  obtain ⟨h1, h2⟩ := hone_of hone j f hj
  have h3 := hy j f hj
  have e : (Value.agg cs).cells.toList = cs.toList := by simp [Value.cells]
  rw [e, h1, h2, List.drop_eq_getElem_cons (by simpa using hcj)] at h3
  refine ⟨cs[j], ys[j]'(by omega), Array.getElem?_eq_getElem _, ?_⟩
  rw [List.getElem?_eq_getElem (by omega)] at h3
  simpa using h3
theorem array6 {cs : Array Value} (h : cs.size = 6) : ∃ v0 v1 v2 v3 v4 v5, cs = #[v0, v1, v2, v3, v4, v5] := by
  obtain ⟨l⟩ := cs
  match l, h with
  | [v0, v1, v2, v3, v4, v5], _ => exact ⟨_, _, _, _, _, _, rfl⟩
section
variable {H : Type} {W : World} {enc : TypeId × Value → H}
theorem seatR_open {v : Value} {d : DataW H} {p : List MemPlace} {r : Reach} {b0 : Nat} (hv : Value.okWide Tryz.prog W r b0 31 v) (h : DataW.Trod enc Tryz.prog W 0 (fun _ => true) true 31 v d p) :
    ∃ a0 a1 a2 a3 a4 a5 : Nat, v = .agg #[.int .u8 a0, .int .u8 a1, .int .u8 a2, .int .u8 a3, .int .u8 a4, .int .u8 a5] ∧ a0 < 256 ∧ a1 < 256 ∧ a2 < 256 ∧ a3 < 256 ∧ a4 < 256 ∧ a5 < 256 := by
  obtain ⟨cs, rfl, hsz, n, hg⟩ := aggN_openS Tryz.underlying31 (by kernel_rfl) (by kernel_rfl) hv h
  obtain ⟨v0, v1, v2, v3, v4, v5, rfl⟩ := array6 (hsz.trans rfl)
  obtain ⟨u, y, hu, ht⟩ := hg 0 _ rfl
  obtain rfl : v0 = u := by simpa using hu
  obtain ⟨z0, e0, _, w0⟩ := DataW.trod_int Tryz.underlying5 ht
  injection e0 with e0
  subst e0
  obtain ⟨a0, rfl, l0⟩ := VaryS.u8_open w0
  clear hu ht
  obtain ⟨u, y, hu, ht⟩ := hg 1 _ rfl
  obtain rfl : v1 = u := by simpa using hu
  obtain ⟨z1, e1, _, w1⟩ := DataW.trod_int Tryz.underlying5 ht
  injection e1 with e1
  subst e1
  obtain ⟨a1, rfl, l1⟩ := VaryS.u8_open w1
  clear hu ht
  obtain ⟨u, y, hu, ht⟩ := hg 2 _ rfl
  obtain rfl : v2 = u := by simpa using hu
  obtain ⟨z2, e2, _, w2⟩ := DataW.trod_int Tryz.underlying5 ht
  injection e2 with e2
  subst e2
  obtain ⟨a2, rfl, l2⟩ := VaryS.u8_open w2
  clear hu ht
  obtain ⟨u, y, hu, ht⟩ := hg 3 _ rfl
  obtain rfl : v3 = u := by simpa using hu
  obtain ⟨z3, e3, _, w3⟩ := DataW.trod_int Tryz.underlying5 ht
  injection e3 with e3
  subst e3
  obtain ⟨a3, rfl, l3⟩ := VaryS.u8_open w3
  clear hu ht
  obtain ⟨u, y, hu, ht⟩ := hg 4 _ rfl
  obtain rfl : v4 = u := by simpa using hu
  obtain ⟨z4, e4, _, w4⟩ := DataW.trod_int Tryz.underlying5 ht
  injection e4 with e4
  subst e4
  obtain ⟨a4, rfl, l4⟩ := VaryS.u8_open w4
  clear hu ht
  obtain ⟨u, y, hu, ht⟩ := hg 5 _ rfl
  obtain rfl : v5 = u := by simpa using hu
  obtain ⟨z5, e5, _, w5⟩ := DataW.trod_int Tryz.underlying5 ht
  injection e5 with e5
  subst e5
  obtain ⟨a5, rfl, l5⟩ := VaryS.u8_open w5
  clear hu ht
  exact ⟨a0, a1, a2, a3, a4, a5, rfl, l0, l1, l2, l3, l4, l5⟩
end
end Go.Proofs.YtaimhfnddolilaaGreatDoor
namespace Go.Proofs.YtaimhfnddolilaaGreatDoor
open Go.ChangeShapes Go.WideShapes Go.ChangeAt Go.RowKit Go.Deep

theorem u16_openF {x : Int} (h : (Lit.int .u16 x).wf = true) : ∃ t : Nat, x = (t : Int) ∧ t < 65536 := by
  have hb : 0 ≤ x ∧ x ≤ 65535 := by
    simp [Lit.wf, IntKind.bits, IntKind.signed, IntKind.min, IntKind.max] at h
    omega
  exact ⟨x.toNat, by omega, by omega⟩
theorem u32_openF {x : Int} (h : (Lit.int .u32 x).wf = true) : ∃ t : Nat, x = (t : Int) ∧ t < 4294967296 := by
  have hb : 0 ≤ x ∧ x ≤ 4294967295 := by
    simp [Lit.wf, IntKind.bits, IntKind.signed, IntKind.min, IntKind.max] at h
    omega
  exact ⟨x.toNat, by omega, by omega⟩
theorem array2F {cs : Array Value} (h : cs.size = 2) : ∃ v0 v1, cs = #[v0, v1] := by
  obtain ⟨l⟩ := cs
  match l, h with
  | [v0, v1], _ => exact ⟨_, _, rfl⟩
section
variable {H : Type} {W : World} {enc : TypeId × Value → H}
set_option maxRecDepth 100000 in
theorem times_open {v : Value} {d : DataW H} {p : List MemPlace} {r : Reach} {b0 : Nat} (hv : Value.okWide Tryz.prog W r b0 27 v) (h : DataW.Trod enc Tryz.prog W 0 (fun _ => true) true 27 v d p) :
    ∃ a c : Int, v = .agg #[.int .i64 a, .int .i64 c] := by
  obtain ⟨cs, rfl, hsz, n, hg⟩ := aggN_openS Tryz.underlying27 (by kernel_rfl) (by kernel_rfl) hv h
  obtain ⟨v0, v1, rfl⟩ := array2F (hsz.trans rfl)
  obtain ⟨u, y, hu, ht⟩ := hg 0 _ rfl
  obtain rfl : v0 = u := by simpa using hu
  obtain ⟨z0, e0, _, w0⟩ := DataW.trod_int Tryz.underlying2 ht
  injection e0 with e0
  subst e0
  clear hu ht
  obtain ⟨u, y, hu, ht⟩ := hg 1 _ rfl
  obtain rfl : v1 = u := by simpa using hu
  obtain ⟨z1, e1, _, w1⟩ := DataW.trod_int Tryz.underlying2 ht
  injection e1 with e1
  subst e1
  exact ⟨z0, z1, rfl⟩
end
end Go.Proofs.YtaimhfnddolilaaGreatDoor
namespace Go.Proofs.YtaimhfnddolilaaGreatDoor
open Go.RowKit HeadMath HeadS CtrlS DateMath VaryS

def sufV : Nat → ByteArray
  | 0 => ⟨#[]⟩
  | 1 => ⟨#[44, 32, 109, 117, 115, 116, 45, 114, 101, 118, 97, 108, 105, 100, 97, 116, 101]⟩
  | 2 => ⟨#[44, 32, 112, 114, 111, 120, 121, 45, 114, 101, 118, 97, 108, 105, 100, 97, 116, 101]⟩
  | 3 => ⟨#[44, 32, 115, 45, 109, 97, 120, 97, 103, 101, 61, 48]⟩
  | 4 => ⟨#[44, 32, 110, 111, 45, 99, 97, 99, 104, 101]⟩
  | _ => ⟨#[44, 32, 112, 117, 98, 108, 105, 99]⟩
theorem suf_all (K : Nat) (hK : K < 6) : (⟨#[109, 97, 120, 45, 97, 103, 101, 61, 48]⟩ : ByteArray) ++ sufV K = staleV K := by
  match K, hK with
  | 0, _ | 1, _ | 2, _ | 3, _ | 4, _ | 5, _ => rfl
theorem suf_cell (x : World) (K : Nat) (hK : K < 6) : (x.alloc (.cells #[.string ⟨#[]⟩, .string ⟨#[44, 32, 109, 117, 115, 116, 45, 114, 101, 118, 97, 108, 105, 100, 97, 116, 101]⟩, .string ⟨#[44, 32, 112, 114, 111, 120, 121, 45, 114, 101, 118, 97, 108, 105, 100, 97, 116, 101]⟩, .string ⟨#[44, 32, 115, 45, 109, 97, 120, 97, 103, 101, 61, 48]⟩, .string ⟨#[44, 32, 110, 111, 45, 99, 97, 99, 104, 101]⟩, .string ⟨#[44, 32, 112, 117, 98, 108, 105, 99]⟩] 9)).cell? ⟨x.heap.size, K, none⟩ = some (.string (sufV K)) := by
  rw [Lib.cell_of_heap (heap_alloc_new x _)]
  match K, hK with
  | 0, _ | 1, _ | 2, _ | 3, _ | 4, _ | 5, _ => rfl
theorem suf_size (K : Nat) (hK : K < 6) : (sufV K).size ≤ 50 := by
  match K, hK with
  | 0, _ | 1, _ | 2, _ | 3, _ | 4, _ | 5, _ => decide
theorem staleV_few (K : Nat) (hK : K < 6) : FewF [(ccN, staleV K)] := by
  match K, hK with
  | 0, _ | 1, _ | 2, _ | 3, _ | 4, _ | 5, _ => exact few_lit (by decide +kernel)
set_option maxRecDepth 100000 in
set_option maxHeartbeats 32000000 in
theorem stale_law (t stale most : Nat) (any : Bool) (w : World) (ht : t < 256) (hs : stale < 256) (hm : most < 256) (h1 : TabP w) (h2 : TabS w) : Calls Tryz.prog 5 #[.int .u8 t, .int .u8 stale, .int .u8 most, .bool any] w (BoolPost true w) := by
  obtain ⟨K, hK⟩ : ∃ K, t % 6 = K := ⟨_, rfl⟩
  have hK6 : K < 6 := by omega
  have hm1 : (t : Int) % 6 = (K : Int) := by omega
  have hm2 : (t : Int).tmod 6 = (K : Int) := by rw [Int.tmod_eq_emod_of_nonneg (by omega)]; omega
  have kl : (K : Int) < 6 := by omega
  have hserv := stale_serv K hK6 stale most any hs hm
  have hfew := staleV_few K hK6
  have hcell := fun x => suf_cell x K hK6
  have hall := suf_all K hK6
  have hsz := suf_size K hK6
  obtain ⟨V, hV⟩ : ∃ V, sufV K = V := ⟨_, rfl⟩
  obtain ⟨S, hS⟩ : ∃ S, staleV K = S := ⟨_, rfl⟩
  rw [hV, hS] at hall
  rw [hV] at hcell hsz
  rw [hS] at hserv hfew
  obtain ⟨m1, d1⟩ : ∃ b, decide (stale ≤ most) = b := ⟨_, rfl⟩
  obtain ⟨k1, d2⟩ : ∃ b, decide (1 ≤ K) = b := ⟨_, rfl⟩
  obtain ⟨k4, d3⟩ : ∃ b, decide (K ≤ 4) = b := ⟨_, rfl⟩
  rw [d1, d2, d3] at hserv
  have d1i : decide ((stale : Int) ≤ (most : Int)) = m1 := by rw [← d1]; exact decide_eq_decide.2 (by omega)
  have d2i : decide (1 ≤ (K : Int)) = k1 := by rw [← d2]; exact decide_eq_decide.2 (by omega)
  have d3i : decide ((K : Int) ≤ 4) = k4 := by rw [← d3]; exact decide_eq_decide.2 (by omega)
  have wst : IntKind.i64.wrap (stale : Int) = (stale : Int) := by rw [IntKind.wrap_i64]; omega
  have wmo : IntKind.i64.wrap (most : Int) = (most : Int) := by rw [IntKind.wrap_i64]; omega
  have wsu : IntKind.i64.wrap (100 + (stale : Int)) = 100 + (stale : Int) := by rw [IntKind.wrap_i64]; omega
  have CK := Lib.hid (fknown_any w h1 h2)
  unfold BoolPost at CK ⊢
  have HS := Lib.hid hall
  have HSZ := Lib.hid hsz
  have HT1 := Lib.hid h1
  have HT2 := Lib.hid h2
  have HFEW := Lib.hid hfew
  have HSERV := Lib.hid hserv
  have hsum : ((⟨#[109, 97, 120, 45, 97, 103, 101, 61, 48]⟩ : ByteArray) ++ V).size ≤ 100 := by rw [ByteArray.size_append]; show 9 + V.size ≤ 100; omega
  have HSUM := Lib.hid hsum
  have HW := Lib.hid (And.intro wst (And.intro wmo wsu))
  have HD := Lib.hid (And.intro d1 (And.intro d2 (And.intro d3 (And.intro d1i (And.intro d2i d3i)))))
  clear hK hV hS h1 h2 hall hfew hserv hsz hsum wst wmo wsu d1 d2 d3 d1i d2i d3i
  go_enter Tryz.func5, Tryz.ntmps5
  go_wp2_with fail
  refine CK.out.mono ?_
  rintro e w1 ⟨rfl, hb1⟩
  have HB1 := Lib.hid hb1
  clear hb1 CK
  obtain ⟨x, hx⟩ : ∃ x, ((((w1.alloc (.cells #[.string ⟨#[]⟩, .string ⟨#[44, 32, 109, 117, 115, 116, 45, 114, 101, 118, 97, 108, 105, 100, 97, 116, 101]⟩, .string ⟨#[44, 32, 112, 114, 111, 120, 121, 45, 114, 101, 118, 97, 108, 105, 100, 97, 116, 101]⟩, .string ⟨#[44, 32, 115, 45, 109, 97, 120, 97, 103, 101, 61, 48]⟩, .string ⟨#[44, 32, 110, 111, 45, 99, 97, 99, 104, 101]⟩, .string ⟨#[44, 32, 112, 117, 98, 108, 105, 99]⟩] 9)).alloc (.cells #[.string ⟨#[67, 97, 99, 104, 101, 45, 67, 111, 110, 116, 114, 111, 108]⟩, .string (⟨#[109, 97, 120, 45, 97, 103, 101, 61, 48]⟩ ++ V)] 43)).alloc (.cells #[.int .i64 200, .string ⟨#[]⟩, .slice (some ⟨w1.heap.size + 1, 0, none⟩) 1 1, .slice none 0 0] 25)).alloc (.cells #[.int .i64 100, .int .i64 100] 27)).alloc (.cells #[.bool false, .bool false, .bool false, .bool false, .bool false, .bool false, .bool false, .bool any, .int .i64 (-1), .int .i64 (-1), .int .i64 (-1), .int .i64 most] 29) = x := ⟨_, rfl⟩
  have z1 : (w1.alloc (.cells #[.string ⟨#[]⟩, .string ⟨#[44, 32, 109, 117, 115, 116, 45, 114, 101, 118, 97, 108, 105, 100, 97, 116, 101]⟩, .string ⟨#[44, 32, 112, 114, 111, 120, 121, 45, 114, 101, 118, 97, 108, 105, 100, 97, 116, 101]⟩, .string ⟨#[44, 32, 115, 45, 109, 97, 120, 97, 103, 101, 61, 48]⟩, .string ⟨#[44, 32, 110, 111, 45, 99, 97, 99, 104, 101]⟩, .string ⟨#[44, 32, 112, 117, 98, 108, 105, 99]⟩] 9)).heap.size = w1.heap.size + 1 := by simp
  have h4 := four_blocksF (w1.alloc (.cells #[.string ⟨#[]⟩, .string ⟨#[44, 32, 109, 117, 115, 116, 45, 114, 101, 118, 97, 108, 105, 100, 97, 116, 101]⟩, .string ⟨#[44, 32, 112, 114, 111, 120, 121, 45, 114, 101, 118, 97, 108, 105, 100, 97, 116, 101]⟩, .string ⟨#[44, 32, 115, 45, 109, 97, 120, 97, 103, 101, 61, 48]⟩, .string ⟨#[44, 32, 110, 111, 45, 99, 97, 99, 104, 101]⟩, .string ⟨#[44, 32, 112, 117, 98, 108, 105, 99]⟩] 9)) (.cells #[.string ⟨#[67, 97, 99, 104, 101, 45, 67, 111, 110, 116, 114, 111, 108]⟩, .string (⟨#[109, 97, 120, 45, 97, 103, 101, 61, 48]⟩ ++ V)] 43) (.cells #[.int .i64 200, .string ⟨#[]⟩, .slice (some ⟨w1.heap.size + 1, 0, none⟩) 1 1, .slice none 0 0] 25) (.cells #[.int .i64 100, .int .i64 100] 27) (.cells #[.bool false, .bool false, .bool false, .bool false, .bool false, .bool false, .bool false, .bool any, .int .i64 (-1), .int .i64 (-1), .int .i64 (-1), .int .i64 most] 29)
  simp only at h4
  rw [hx, z1] at h4
  obtain ⟨g0, g1, g2, g3, hsz, hb⟩ := h4
  have hwx : Below w.heap.size w x := by
    have h0 : Below w1.heap.size w1 (w1.alloc (.cells #[.string ⟨#[]⟩, .string ⟨#[44, 32, 109, 117, 115, 116, 45, 114, 101, 118, 97, 108, 105, 100, 97, 116, 101]⟩, .string ⟨#[44, 32, 112, 114, 111, 120, 121, 45, 114, 101, 118, 97, 108, 105, 100, 97, 116, 101]⟩, .string ⟨#[44, 32, 115, 45, 109, 97, 120, 97, 103, 101, 61, 48]⟩, .string ⟨#[44, 32, 110, 111, 45, 99, 97, 99, 104, 101]⟩, .string ⟨#[44, 32, 112, 117, 98, 108, 105, 99]⟩] 9)) := (Below.refl _ _).alloc (Nat.le_refl _) _
    have hb' : Below (w1.alloc (.cells #[.string ⟨#[]⟩, .string ⟨#[44, 32, 109, 117, 115, 116, 45, 114, 101, 118, 97, 108, 105, 100, 97, 116, 101]⟩, .string ⟨#[44, 32, 112, 114, 111, 120, 121, 45, 114, 101, 118, 97, 108, 105, 100, 97, 116, 101]⟩, .string ⟨#[44, 32, 115, 45, 109, 97, 120, 97, 103, 101, 61, 48]⟩, .string ⟨#[44, 32, 110, 111, 45, 99, 97, 99, 104, 101]⟩, .string ⟨#[44, 32, 112, 117, 98, 108, 105, 99]⟩] 9)).heap.size (w1.alloc (.cells #[.string ⟨#[]⟩, .string ⟨#[44, 32, 109, 117, 115, 116, 45, 114, 101, 118, 97, 108, 105, 100, 97, 116, 101]⟩, .string ⟨#[44, 32, 112, 114, 111, 120, 121, 45, 114, 101, 118, 97, 108, 105, 100, 97, 116, 101]⟩, .string ⟨#[44, 32, 115, 45, 109, 97, 120, 97, 103, 101, 61, 48]⟩, .string ⟨#[44, 32, 110, 111, 45, 99, 97, 99, 104, 101]⟩, .string ⟨#[44, 32, 112, 117, 98, 108, 105, 99]⟩] 9)) x := by rw [z1]; exact hb
    exact HB1.out.trans ((h0.trans (hb'.mono h0.size)).mono HB1.out.size)
  have hvs : Spares nowhere w x := Below.spares hwx (fun k hk => .inr hk)
  rw [HS.out] at g0
  have told : Told x 200 [(ccN, S)] (some ⟨w1.heap.size + 1, 0, none⟩) 1 := ⟨HT1.out.spares hvs (fun h => h), HT2.out.spares hvs (fun h => h), one_at (p := w1.heap.size + 1) (f := (ccN, S)) g0, HFEW.out⟩
  have C5 := Lib.hid (told.serv HSERV.out ⟨#[]⟩ none 0 0)
  unfold BoolPost staleQ ctlV at C5
  simp only [List.length_cons, List.length_nil] at C5
  obtain ⟨r0, r1, r2, r3⟩ := four_at g1
  obtain ⟨u0, u1⟩ := two_at g2
  have gc : CtlAt x (w1.heap.size + 1 + 1 + 1 + 1) ⟨false, false, false, false, false, false, false, any, -1, -1, -1, most⟩ := g3
  obtain ⟨n0, n1, n2, n3, n4, n5, n6, n7, n8, n9, n10, n11⟩ := ctl_reads gc
  simp only at n0 n1 n2 n3 n4 n5 n6 n7 n8 n9 n10 n11
  have HCELLS := Lib.hid (And.intro r0 (And.intro r1 (And.intro r2 (And.intro r3 (And.intro u0 (And.intro u1 (And.intro n0 (And.intro n1 (And.intro n2 (And.intro n3 (And.intro n4 (And.intro n5 (And.intro n6 (And.intro n7 (And.intro n8 (And.intro n9 (And.intro n10 n11)))))))))))))))))
  have HX := Lib.hid hx
  have HBX := Lib.hid hwx
  have hc1 := hcell w1
  obtain ⟨wst, wmo, wsu⟩ := HW.out
  have hsum : ¬ (9223372036854775807 < 9 + V.size) := by have := HSZ.out; omega
  clear hx hwx g0 g1 g2 g3 gc hb hvs told z1 hsz hcell r0 r1 r2 r3 u0 u1 n0 n1 n2 n3 n4 n5 n6 n7 n8 n9 n10 n11
  obtain ⟨q1, q2, q3, q1i, q2i, q3i⟩ := HD.out
  obtain ⟨b, hb⟩ : ∃ b, ((any || m1) && !(k1 && k4)) = b := ⟨_, rfl⟩
  rw [hb] at C5
  have HBB := Lib.hid hb
  have hself : (b == b) = true := beq_self_eq_true b
  clear hb HSERV HFEW HT1 HT2
  have hbb := HBB.out
  cases any with
  | true =>
    cases k1
    all_goals
      have hbb := HBB.out
      simp only [Bool.true_or, Bool.and_true, Bool.true_and, Bool.false_and, Bool.not_false] at hbb
      subst hbb
      go_upto_region 9 with (fail)
      rw [HX.out]
      obtain ⟨r0, r1, r2, r3, u0, u1, n0, n1, n2, n3, n4, n5, n6, n7, n8, n9, n10, n11⟩ := HCELLS.out
      clear q1 q2 q3 q1i q2i q3i hc1 hsum
      go_wp2_with fail
      refine (C5.out x (Below.refl _ _)).mono ?_
      rintro e w5 ⟨rfl, hb5⟩
      have HB5 := Lib.hid (HBX.out.trans (hb5.mono HBX.out.size))
      clear hb5 r0 r1 r2 r3 u0 u1 n0 n1 n2 n3 n4 n5 n6 n7 n8 n9 n10 n11
      go_wp2
      go_ret
      exact ⟨rfl, HB5.out⟩
  | false =>
    cases m1 <;> cases k1
    all_goals
      have hbb := HBB.out
      simp only [Bool.or_true, Bool.or_false, Bool.and_true, Bool.true_and, Bool.false_and, Bool.not_false] at hbb
      subst hbb
      go_upto_region 9 with (fail)
      rw [HX.out]
      obtain ⟨r0, r1, r2, r3, u0, u1, n0, n1, n2, n3, n4, n5, n6, n7, n8, n9, n10, n11⟩ := HCELLS.out
      clear q1 q2 q3 q1i q2i q3i hc1 hsum
      go_wp2_with fail
      refine (C5.out x (Below.refl _ _)).mono ?_
      rintro e w5 ⟨rfl, hb5⟩
      have HB5 := Lib.hid (HBX.out.trans (hb5.mono HBX.out.size))
      clear hb5 r0 r1 r2 r3 u0 u1 n0 n1 n2 n3 n4 n5 n6 n7 n8 n9 n10 n11
      go_wp2
      go_ret
      exact ⟨rfl, HB5.out⟩
end Go.Proofs.YtaimhfnddolilaaGreatDoor
namespace Go.Proofs.YtaimhfnddolilaaGreatDoor
open Go.RowKit HeadMath HeadS CtrlS DateMath VaryS

set_option maxRecDepth 100000 in
set_option maxHeartbeats 32000000 in
theorem heur_law (st : Int) (ago : Nat) (pub : Bool) (w : World) (ha : ago < 4294967296) (h1 : TabP w) (h2 : TabS w) : Calls Tryz.prog 6 #[.int .i64 st, .int .u32 ago, .bool pub] w (BoolPost true w) := by
  obtain ⟨K, hK⟩ : ∃ K, ago % 1000000000 = K := ⟨_, rfl⟩
  have hKb : K < 1000000000 := by omega
  have hm1 : (ago : Int) % 1000000000 = (K : Int) := by omega
  have hm2 : (ago : Int).tmod 1000000000 = (K : Int) := by rw [Int.tmod_eq_emod_of_nonneg (by omega)]; omega
  have wa : IntKind.i64.wrap (ago : Int) = (ago : Int) := by rw [IntKind.wrap_i64]; omega
  have wk : IntKind.i64.wrap (1000000000 - (K : Int)) = 1000000000 - (K : Int) := by rw [IntKind.wrap_i64]; omega
  obtain ⟨T, hT⟩ : ∃ T, K / 10 = T := ⟨_, rfl⟩
  have hd1 : (K : Int) / 10 = (T : Int) := by omega
  have hd2 : (K : Int).tdiv 10 = (T : Int) := by rw [Int.tdiv_eq_ediv_of_nonneg (by omega)]; omega
  have wt : IntKind.i64.wrap (T : Int) = (T : Int) := by rw [IntKind.wrap_i64]; omega
  have HLIFE := Lib.hid (heur_life st K hKb pub)
  rw [hd1] at HLIFE
  have HU : Hid (∀ v : World, Calls Tryz.prog 17 #[.int .i64 st] v fun e w' => e = .returned (.bool (heurF st)) ∧ w' = v) := Lib.hid (fun v => heur_any st v)
  obtain ⟨u, hu⟩ : ∃ u, heurF st = u := ⟨_, rfl⟩
  rw [hu] at HLIFE HU
  have CT : Hid (∀ (t : Int) (x : World), Calls Tryz.prog 20 #[.int .i64 t] x fun e w' => e = .returned (.string (textT t)) ∧ Below x.heap.size x w') := Lib.hid (fun t x => refText_any t x)
  have CK := Lib.hid (fknown_any w h1 h2)
  unfold BoolPost at CK ⊢
  have z1 := textT_size 1000000000
  have z2 := textT_size (1000000000 - K)
  obtain ⟨D, hD⟩ : ∃ D, textT 1000000000 = D := ⟨_, rfl⟩
  obtain ⟨E, hE⟩ : ∃ E, textT (1000000000 - K) = E := ⟨_, rfl⟩
  have C1 := Lib.hid (CT.out 1000000000)
  have C2 := Lib.hid (CT.out (1000000000 - K))
  rw [hD] at C1 z1 HLIFE
  rw [hE] at C2 z2 HLIFE
  have HT1 := Lib.hid h1
  have HT2 := Lib.hid h2
  have HFEW : Hid (FewF (heurFs D E pub)) := Lib.hid (few_mem (by unfold heurFs; cases pub <;> simp) (by
    intro f hf
    unfold heurFs at hf
    rcases List.mem_append.1 hf with h | h
    · rcases List.mem_cons.1 h with rfl | h
      · exact ⟨show dateN.size ≤ 1000000 by decide, show D.size ≤ 1000000 by omega⟩
      · obtain rfl : f = (lastN, E) := by simpa using h
        exact ⟨show lastN.size ≤ 1000000 by decide, show E.size ≤ 1000000 by omega⟩
    · cases pub with
      | false => cases h
      | true =>
        obtain rfl : f = (ccN, vPublic) := by simpa using h
        exact ⟨by decide, by decide⟩))
  have HDT := Lib.hid (And.intro hd1 (And.intro hd2 wt))
  clear hK hT hu hD hE h1 h2 CT z1 z2 hd1 hd2 wt ha hKb
  go_enter Tryz.func6, Tryz.ntmps6
  go_wp2_with fail
  refine CK.out.mono ?_
  rintro e w1 ⟨rfl, hb1⟩
  have HB1 := Lib.hid hb1
  clear hb1 CK
  go_wp2_with fail
  refine (C1.out _).mono ?_
  rintro e w2 ⟨rfl, hb2⟩
  have HB2 := Lib.hid (HB1.out.trans (hb2.mono HB1.out.size))
  clear hb2
  go_wp2_with fail
  refine (C2.out _).mono ?_
  rintro e w3 ⟨rfl, hb3⟩
  have HB3 := Lib.hid (HB2.out.trans (hb3.mono HB2.out.size))
  clear hb3 hm1 hm2 wa wk
  obtain ⟨x, hx⟩ : ∃ x, ((w3.alloc (.cells #[.string ⟨#[68, 97, 116, 101]⟩, .string D, .string ⟨#[76, 97, 115, 116, 45, 77, 111, 100, 105, 102, 105, 101, 100]⟩, .string E] 43)).alloc (.cells #[.int .i64 st, .string ⟨#[]⟩, .slice (some ⟨w3.heap.size, 0, none⟩) 2 2, .slice none 0 0] 25)) = x := ⟨_, rfl⟩
  have hbox := box_lit (w := w3) [(dateN, D), (lastN, E)] st (by simp) hx
  have HM := Lib.hid hbox.1
  have HBW := Lib.hid (HB3.out.trans (hbox.2.1.mono HB3.out.size))
  have HBB : Hid (w3.heap.size ≤ w3.heap.size) := Lib.hid (Nat.le_refl _)
  have HX := Lib.hid hx
  have HX3 : Hid (w3.heap.size ≤ x.heap.size) := Lib.hid hbox.2.1.size
  clear hx hbox
  go_upto_if 24 with (fail)
  change Code.wp _ _ _ _ ((w3.alloc (.cells #[.string ⟨#[68, 97, 116, 101]⟩, .string D, .string ⟨#[76, 97, 115, 116, 45, 77, 111, 100, 105, 102, 105, 101, 100]⟩, .string E] 43)).alloc (.cells #[.int .i64 st, .string ⟨#[]⟩, .slice (some ⟨w3.heap.size, 0, none⟩) 2 2, .slice none 0 0] 25))
  rw [HX.out]
  obtain ⟨p, hp⟩ : ∃ p, w3.heap.size + 1 = p := ⟨_, rfl⟩
  obtain ⟨B, hB⟩ : ∃ B, w3.heap.size = B := ⟨_, rfl⟩
  have HPG : Hid (w.heap.size ≤ p ∧ w.heap.size ≤ B) := Lib.hid (by have := HB3.out.size; omega)
  rw [hp, hB] at HM ⊢
  rw [hB] at HX3
  clear hp hB HX HBB
  go_cut [] (fun wx => ∃ fa n fc, Hid (Box p B wx (.int .i64 st) (.string ⟨#[]⟩) (.slice fa n fc) (.slice none 0 0) (heurFs D E pub)) ∧ Hid (Below w.heap.size w wx))
  case first =>
    cases pub with
    | false =>
      go_wp2_with fail
      go_meet
      exact ⟨_, _, _, HM, HBW⟩
    | true =>
      obtain ⟨y1, hy1⟩ : ∃ z, x.alloc (.cells #[.string ⟨#[67, 97, 99, 104, 101, 45, 67, 111, 110, 116, 114, 111, 108]⟩, .string ⟨#[112, 117, 98, 108, 105, 99]⟩] 43) = z := ⟨_, rfl⟩
      have HX1 := Lib.hid hy1
      have hbn : Below x.heap.size x y1 := by rw [← hy1]; exact below_al (Below.refl _ _) _
      have HM1 := Lib.hid (HM.out.below hbn)
      have HD1 := Lib.hid (HBW.out.trans (hbn.mono HBW.out.size))
      have HF1 : Hid (y1.heap[x.heap.size]? = some (.cells #[.string ⟨#[67, 97, 99, 104, 101, 45, 67, 111, 110, 116, 114, 111, 108]⟩, .string ⟨#[112, 117, 98, 108, 105, 99]⟩] 43 (0, 0))) := Lib.hid (by rw [← hy1]; exact heap_alloc_new x _)
      clear hy1 hbn
      have kx := (four_at HM.out.block).2.2.1
      go_wp2_with ((with_reducible show wpList _ _ _ (⟨some 29, _, _, _, _, _⟩ :: _) _ _); (change wpList _ _ _ _ _ (x.alloc (.cells #[.string ⟨#[67, 97, 99, 104, 101, 45, 67, 111, 110, 116, 114, 111, 108]⟩, .string ⟨#[112, 117, 98, 108, 105, 99]⟩] 43))); rw [HX1.out]; refine wpList_plain rfl fun K' hK' => ?_; refine wp_box_append HM1.out (by simp) (by simp) (.tmp 26) (.tmp 28) rfl 29 rfl rfl x.heap.size (ccN, vPublic) rfl HF1.out rfl ?_; intro fa2 n2 fc2 x3 s2_ sf HN HF; refine hK' _ _ ?_)
      go_meet
      exact ⟨fa2, n2, fc2, HN, Lib.hid (HF.out w HPG.out.1 HPG.out.2 HD1.out)⟩
  case rest =>
    clear HM HBW HX3
    obtain ⟨fa, n, fc, HM, HBW⟩ := hcut
    obtain ⟨fa1, fc1, hv, hin⟩ := HM.out.slice (by unfold heurFs; simp)
    obtain ⟨rfl, hn, rfl⟩ : fa = fa1 ∧ n = (heurFs D E pub).length ∧ fc = fc1 := by simpa using hv
    have hws : Spares nowhere w wc := Below.spares HBW.out (fun k hk => .inr hk)
    have told : Told wc st (heurFs D E pub) fa fc := ⟨HT1.out.spares hws (fun h => h), HT2.out.spares hws (fun h => h), hin, HFEW.out⟩
    have CL := Lib.hid (told.life HLIFE.out ⟨#[]⟩ none 0 0 wc (Below.refl _ _))
    rw [← hn] at CL
    unfold NumPost at CL
    have HC4 := Lib.hid (four_at HM.out.block)
    obtain ⟨hd1, hd2, wt⟩ := HDT.out
    clear hv hin told hws hn
    obtain ⟨r0, r1, r2, r3⟩ := HC4.out
    cases pub with
    | true =>
      simp only [Bool.true_or, if_true] at CL
      have hself : (min (T : Int) 86400 == min (T : Int) 86400) = true := beq_self_eq_true _
      go_wp2_with fail
      refine CL.out.mono ?_
      rintro e w5 ⟨rfl, hb5⟩
      have HB5 := Lib.hid (HBW.out.trans (hb5.mono HBW.out.size))
      clear hb5
      go_wp2
      go_ret
      exact ⟨by simp, HB5.out⟩
    | false =>
      go_wp2_with fail
      refine (HU.out _).mono ?_
      rintro e w4 ⟨rfl, hw4⟩
      replace hw4 := hw4.symm
      subst hw4
      cases u with
      | true =>
        simp only [Bool.false_or, if_true] at CL
        go_wp2_with fail
        refine CL.out.mono ?_
        rintro e w5 ⟨rfl, hb5⟩
        have HB5 := Lib.hid (HBW.out.trans (hb5.mono HBW.out.size))
        clear hb5
        go_wp2
        go_ret
        exact ⟨by simp, HB5.out⟩
      | false =>
        simp only [Bool.false_or, Bool.false_eq_true, if_false] at CL
        go_wp2_with fail
        refine CL.out.mono ?_
        rintro e w5 ⟨rfl, hb5⟩
        have HB5 := Lib.hid (HBW.out.trans (hb5.mono HBW.out.size))
        clear hb5
        go_wp2
        go_ret
        exact ⟨by simp, HB5.out⟩
end Go.Proofs.YtaimhfnddolilaaGreatDoor
