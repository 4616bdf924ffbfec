/-
  ambryseat.Response: whatever the numbers and the hour, a response of few fields.
-/
import Derived.Lib.SlBytesConst
import Derived.Test.YtgfinhkplijhbaaGreatDoorMg30
import Derived.Test.YtgfinhkplijhbaaGreatDoorMg35
import Derived.Test.YtgfinhkplijhbaaGreatDoorMg42
namespace Go.Proofs.YtgfinhkplijhbaaGreatDoor
open Go.RowKit HeadMath HeadS CtrlS VaryS

def rsayB (k : Nat) : ByteArray := ([⟨#[109, 97, 120, 45, 97, 103, 101, 61, 49, 48]⟩, ⟨#[109, 97, 120, 45, 97, 103, 101, 61, 49, 48]⟩, ⟨#[109, 97, 120, 45, 97, 103, 101, 61, 51, 48]⟩, ⟨#[]⟩, ⟨#[110, 111, 45, 115, 116, 111, 114, 101]⟩, ⟨#[112, 114, 105, 118, 97, 116, 101]⟩, ⟨#[110, 111, 45, 99, 97, 99, 104, 101]⟩, ⟨#[112, 117, 98, 108, 105, 99]⟩, ⟨#[115, 45, 109, 97, 120, 97, 103, 101, 61, 55]⟩, ⟨#[109, 97, 120, 45, 97, 103, 101, 61, 49, 48, 44, 32, 109, 117, 115, 116, 45, 114, 101, 118, 97, 108, 105, 100, 97, 116, 101]⟩, ⟨#[109, 97, 120, 45, 97, 103, 101, 61, 48]⟩, ⟨#[109, 97, 120, 45, 97, 103, 101, 61, 49, 48, 44, 32, 112, 117, 98, 108, 105, 99]⟩] : List ByteArray).getD k ⟨#[]⟩
theorem rsay_cell (x : World) (k : Nat) (hk : k < 12) : (x.alloc (.cells #[.string ⟨#[109, 97, 120, 45, 97, 103, 101, 61, 49, 48]⟩, .string ⟨#[109, 97, 120, 45, 97, 103, 101, 61, 49, 48]⟩, .string ⟨#[109, 97, 120, 45, 97, 103, 101, 61, 51, 48]⟩, .string ⟨#[]⟩, .string ⟨#[110, 111, 45, 115, 116, 111, 114, 101]⟩, .string ⟨#[112, 114, 105, 118, 97, 116, 101]⟩, .string ⟨#[110, 111, 45, 99, 97, 99, 104, 101]⟩, .string ⟨#[112, 117, 98, 108, 105, 99]⟩, .string ⟨#[115, 45, 109, 97, 120, 97, 103, 101, 61, 55]⟩, .string ⟨#[109, 97, 120, 45, 97, 103, 101, 61, 49, 48, 44, 32, 109, 117, 115, 116, 45, 114, 101, 118, 97, 108, 105, 100, 97, 116, 101]⟩, .string ⟨#[109, 97, 120, 45, 97, 103, 101, 61, 48]⟩, .string ⟨#[109, 97, 120, 45, 97, 103, 101, 61, 49, 48, 44, 32, 112, 117, 98, 108, 105, 99]⟩] 9)).cell? ⟨x.heap.size, k, none⟩ = some (.string (rsayB k)) := by
  rw [Lib.cell_of_heap (heap_alloc_new x _)]
  match k, hk with
  | 0, _ | 1, _ | 2, _ | 3, _ | 4, _ | 5, _ | 6, _ | 7, _ | 8, _ | 9, _ | 10, _ | 11, _ => rfl
theorem rsay_small (k : Nat) (hk : k < 12) : (rsayB k).size ≤ 100 := by
  match k, hk with
  | 0, _ | 1, _ | 2, _ | 3, _ | 4, _ | 5, _ | 6, _ | 7, _ | 8, _ | 9, _ | 10, _ | 11, _ => decide +kernel
def rvaryB (k : Nat) : ByteArray := ([⟨#[]⟩, ⟨#[]⟩, ⟨#[]⟩, ⟨#[65, 99, 99, 101, 112, 116]⟩, ⟨#[97, 99, 99, 101, 112, 116, 44, 32, 108, 97, 110, 103]⟩, ⟨#[42]⟩] : List ByteArray).getD k ⟨#[]⟩
theorem rvary_cell (x : World) (k : Nat) (hk : k < 6) : (x.alloc (.cells #[.string ⟨#[]⟩, .string ⟨#[]⟩, .string ⟨#[]⟩, .string ⟨#[65, 99, 99, 101, 112, 116]⟩, .string ⟨#[97, 99, 99, 101, 112, 116, 44, 32, 108, 97, 110, 103]⟩, .string ⟨#[42]⟩] 9)).cell? ⟨x.heap.size, k, none⟩ = some (.string (rvaryB k)) := by
  rw [Lib.cell_of_heap (heap_alloc_new x _)]
  match k, hk with
  | 0, _ | 1, _ | 2, _ | 3, _ | 4, _ | 5, _ => rfl
theorem rvary_small (k : Nat) (hk : k < 6) : (rvaryB k).size ≤ 100 := by
  match k, hk with
  | 0, _ | 1, _ | 2, _ | 3, _ | 4, _ | 5, _ => decide +kernel
def rstatN (k : Nat) : Nat := ([200, 200, 200, 200, 304, 404, 500, 204, 301, 206] : List Nat).getD k 200
theorem rstat_cell (x : World) (k : Nat) (hk : k < 10) : (x.alloc (.cells #[.int .i64 200, .int .i64 200, .int .i64 200, .int .i64 200, .int .i64 304, .int .i64 404, .int .i64 500, .int .i64 204, .int .i64 301, .int .i64 206] 3)).cell? ⟨x.heap.size, k, none⟩ = some (.int .i64 (rstatN k : Int)) := by
  rw [Lib.cell_of_heap (heap_alloc_new x _)]
  match k, hk with
  | 0, _ | 1, _ | 2, _ | 3, _ | 4, _ | 5, _ | 6, _ | 7, _ | 8, _ | 9, _ => rfl
theorem rstat_small (k : Nat) (hk : k < 10) : rstatN k ≤ 999 := by
  match k, hk with
  | 0, _ | 1, _ | 2, _ | 3, _ | 4, _ | 5, _ | 6, _ | 7, _ | 8, _ | 9, _ => decide +kernel
theorem bodiless_get (st : Int) (w : World) : Calls Tryz.prog 25 #[.int .i64 st, .string ⟨#[71, 69, 84]⟩] w fun e w' => (∃ b, e = .returned (.bool b)) ∧ w = w' := by
  obtain ⟨b1, h1⟩ : ∃ b, (st == 204) = b := ⟨_, rfl⟩
  obtain ⟨b2, h2⟩ : ∃ b, (st == 304) = b := ⟨_, rfl⟩
  obtain ⟨b3, h3⟩ : ∃ b, decide (st < 200) = b := ⟨_, rfl⟩
  cases b1 <;> cases b2 <;> cases b3 <;>
    (go_enter Tryz.func25, Tryz.ntmps25
     go_wp2
     go_ret
     exact ⟨⟨_, rfl⟩, rfl⟩)
def RespMade (w : World) (e : Ending) (w' : World) : Prop := ∃ (st : Nat) (t : ByteArray) (fa : Option Addr) (fc : Nat) (fs : Fls) (ba : Option Addr) (bn bc : Nat), e = .returned (.agg #[.int .i64 (st : Int), .string t, .slice fa fs.length fc, .slice ba bn bc]) ∧ w'.ownsRow w.heap.size 48 2 (.slice fa fs.length fc) fs.length (fieldCells fs) ∧ FewF fs ∧ st ≤ 999 ∧ Below w.heap.size w w'
set_option maxRecDepth 100000 in
set_option maxHeartbeats 32000000 in
theorem seatResp_any (w : World) (now : Int) (q0 q1 q2 q3 q4 q5 : Nat) (z0 : q0 < 256) (z1 : q1 < 256) (z2 : q2 < 256) (z3 : q3 < 256) (z4 : q4 < 256) (z5 : q5 < 256) :
    Calls Tryz.prog 13 #[.agg #[.int .u8 q0, .int .u8 q1, .int .u8 q2, .int .u8 q3, .int .u8 q4, .int .u8 q5], .int .i64 now] w (RespMade w) := by
  obtain ⟨v0, hv⟩ : ∃ v0, (w.alloc (.cells #[.int .u8 q0, .int .u8 q1, .int .u8 q2, .int .u8 q3, .int .u8 q4, .int .u8 q5] 31)).alloc (.cells #[.int .i64 0, .string ⟨#[]⟩, .slice none 0 0, .slice none 0 0] 27) = v0 := ⟨_, rfl⟩
  have hb0 : Below w.heap.size w v0 := by rw [← hv]; exact below_al (below_al (Below.refl _ _) _) _
  have hs0 : v0.heap.size = w.heap.size + 2 := by rw [← hv]; simp
  have hq := (two_reqs w (.cells #[.int .u8 q0, .int .u8 q1, .int .u8 q2, .int .u8 q3, .int .u8 q4, .int .u8 q5] 31) (.cells #[.int .i64 0, .string ⟨#[]⟩, .slice none 0 0, .slice none 0 0] 27)).1
  have hz := (two_reqs w (.cells #[.int .u8 q0, .int .u8 q1, .int .u8 q2, .int .u8 q3, .int .u8 q4, .int .u8 q5] 31) (.cells #[.int .i64 0, .string ⟨#[]⟩, .slice none 0 0, .slice none 0 0] 27)).2
  rw [hv] at hq hz
  have HQ : Hid (∀ y, Below v0.heap.size v0 y → y.cell? ⟨w.heap.size, 0, none⟩ = some (.int .u8 q0) ∧ y.cell? ⟨w.heap.size, 1, none⟩ = some (.int .u8 q1) ∧ y.cell? ⟨w.heap.size, 2, none⟩ = some (.int .u8 q2) ∧ y.cell? ⟨w.heap.size, 3, none⟩ = some (.int .u8 q3) ∧ y.cell? ⟨w.heap.size, 4, none⟩ = some (.int .u8 q4) ∧ y.cell? ⟨w.heap.size, 5, none⟩ = some (.int .u8 q5)) := Lib.hid (fun y hy => six_at (stood3 hy hq))
  have HZ : Hid (∀ y, Below v0.heap.size v0 y → y.heap[w.heap.size + 1]? = some (.cells #[.int .i64 0, .string ⟨#[]⟩, .slice none 0 0, .slice none 0 0] 27 (0, 0))) := Lib.hid (fun y hy => stood3 hy hz)
  obtain ⟨a0, ha0⟩ : ∃ k, q0 % 10 = k := ⟨_, rfl⟩
  obtain ⟨a1, ha1⟩ : ∃ k, q1 % 12 = k := ⟨_, rfl⟩
  obtain ⟨s2, hs2⟩ : ∃ k, q2 % 6 = k := ⟨_, rfl⟩
  obtain ⟨k3, hk3⟩ : ∃ k, q3 % 6 = k := ⟨_, rfl⟩
  obtain ⟨k4, hk4⟩ : ∃ k, q4 % 4 = k := ⟨_, rfl⟩
  obtain ⟨k5, hk5⟩ : ∃ k, q5 % 27 = k := ⟨_, rfl⟩
  have l0 : a0 < 10 := by omega
  have l1 : a1 < 12 := by omega
  have l2 : s2 < 6 := by omega
  obtain ⟨ST, hST⟩ : ∃ M, rstatN a0 = M := ⟨_, rfl⟩
  obtain ⟨SV, hSV⟩ : ∃ M, rsayB a1 = M := ⟨_, rfl⟩
  obtain ⟨VV, hVV⟩ : ∃ M, rvaryB s2 = M := ⟨_, rfl⟩
  have MC := Lib.hid (fun x => hST ▸ rstat_cell x a0 l0)
  have SVC := Lib.hid (fun x => hSV ▸ rsay_cell x a1 l1)
  have VVC := Lib.hid (fun x => hVV ▸ rvary_cell x s2 l2)
  have zST : Hid (ST ≤ 999) := Lib.hid (hST ▸ rstat_small a0 l0)
  have zSV : Hid (SV.size ≤ 1000) := Lib.hid (by have := rsay_small a1 l1; rw [hSV] at this; omega)
  have zVV : Hid (VV.size ≤ 1000) := Lib.hid (by have := rvary_small s2 l2; rw [hVV] at this; omega)
  have ma0 : (q0 : Int) % 10 = (a0 : Int) := by omega
  have ma0t : (q0 : Int).tmod 10 = (a0 : Int) := by rw [Int.tmod_eq_emod_of_nonneg (by omega)]; omega
  have ma1 : (q1 : Int) % 12 = (a1 : Int) := by omega
  have ma1t : (q1 : Int).tmod 12 = (a1 : Int) := by rw [Int.tmod_eq_emod_of_nonneg (by omega)]; omega
  have ms2 : (q2 : Int) % 6 = (s2 : Int) := by omega
  have ms2t : (q2 : Int).tmod 6 = (s2 : Int) := by rw [Int.tmod_eq_emod_of_nonneg (by omega)]; omega
  have mk3 : (q3 : Int) % 6 = (k3 : Int) := by omega
  have mk3t : (q3 : Int).tmod 6 = (k3 : Int) := by rw [Int.tmod_eq_emod_of_nonneg (by omega)]; omega
  have mk4 : (q4 : Int) % 4 = (k4 : Int) := by omega
  have mk4t : (q4 : Int).tmod 4 = (k4 : Int) := by rw [Int.tmod_eq_emod_of_nonneg (by omega)]; omega
  have mk5 : (q5 : Int) % 27 = (k5 : Int) := by omega
  have mk5t : (q5 : Int).tmod 27 = (k5 : Int) := by rw [Int.tmod_eq_emod_of_nonneg (by omega)]; omega
  have i0 : (a0 : Int) < 10 := by omega
  have i1 : (a1 : Int) < 12 := by omega
  have i2 : (s2 : Int) < 6 := by omega
  have i5 : (k5 : Int) ≤ 26 := by omega
  have HV := Lib.hid hv
  have HB0 := Lib.hid hb0
  have HS0 := Lib.hid hs0
  clear hv hb0 hs0 hq hz ha0 ha1 hs2 hk3 hk4 hk5 l1 l0 l2 hST hSV hVV z0 z1 z2 z3 z4 z5
  unfold RespMade
  go_enter Tryz.func13, Tryz.ntmps13
  go_upto_region 1 with (fail)
  change Code.wp _ _ _ _ ((w.alloc (.cells #[.int .u8 q0, .int .u8 q1, .int .u8 q2, .int .u8 q3, .int .u8 q4, .int .u8 q5] 31)).alloc (.cells #[.int .i64 0, .string ⟨#[]⟩, .slice none 0 0, .slice none 0 0] 27))
  rw [HV.out]
  go_cut [5] (fun s5 wx => ∃ p : Nat, s5 = .pointer (some ⟨p, 0, none⟩) ∧ Hid (v0.heap.size ≤ p) ∧ Hid (Msg 27 p 0 wx (.int .i64 (ST : Int)) (.string ⟨#[82]⟩) (.slice none 0 0) (.slice none 0 0) []) ∧ Hid (Below v0.heap.size v0 wx))
  case first =>
    obtain ⟨y1, hy1⟩ : ∃ x, v0.alloc (.cells #[.int .i64 200, .int .i64 200, .int .i64 200, .int .i64 200, .int .i64 304, .int .i64 404, .int .i64 500, .int .i64 204, .int .i64 301, .int .i64 206] 3) = x := ⟨_, rfl⟩
    have HX1 := Lib.hid hy1
    have hb1 : Below v0.heap.size v0 y1 := by rw [← hy1]; exact below_al (Below.refl _ _) _
    have kq := (HQ.out y1 hb1).1
    have ks := MC.out v0
    rw [hy1] at ks
    obtain ⟨y2, hy2⟩ : ∃ x, y1.alloc (.cells #[.int .i64 0, .string ⟨#[]⟩, .slice none 0 0, .slice none 0 0] 27) = x := ⟨_, rfl⟩
    have HX2 := Lib.hid hy2
    have HZ2 : Hid (y2.heap[y1.heap.size]? = some (.cells #[.int .i64 0, .string ⟨#[]⟩, .slice none 0 0, .slice none 0 0] 27 (0, 0))) := Lib.hid (by rw [← hy2]; exact heap_alloc_new _ _)
    have HB2 : Hid (Below v0.heap.size v0 y2) := Lib.hid (by rw [← hy2]; exact below_al hb1 _)
    have HP1 : Hid (v0.heap.size ≤ y1.heap.size) := Lib.hid hb1.size
    clear hy1 hy2 hb1
    go_wp2_with (first | ((with_reducible show wpList _ _ _ (⟨some 9, _, _, _, _, _⟩ :: _) _ _); (change wpList _ _ _ _ _ (v0.alloc (.cells #[.int .i64 200, .int .i64 200, .int .i64 200, .int .i64 200, .int .i64 304, .int .i64 404, .int .i64 500, .int .i64 204, .int .i64 301, .int .i64 206] 3))); rw [HX1.out]) | ((with_reducible show wpList _ _ _ (⟨none, .store 27 _ _, _, _, _, _⟩ :: _) _ _); (change wpList _ _ _ _ _ (y1.alloc (.cells #[.int .i64 0, .string ⟨#[]⟩, .slice none 0 0, .slice none 0 0] 27))); rw [HX2.out]; refine wpList_store_mid rfl 27 (.tmp 5) (.tmp 14) rfl y1.heap.size 0 #[.int .i64 (ST : Int), .string ⟨#[82]⟩, .slice none 0 0, .slice none 0 0] rfl rfl (there_of HZ2.out 0 4 (by simp)) info_resp (by simp [Value.oneCell']) ?_))
    go_meet
    exact ⟨_, rfl, HP1, Lib.hid ⟨heap_setCells (g := y1.heap.size) (t := 27) [.int .i64 (ST : Int), .string ⟨#[82]⟩, .slice none 0 0, .slice none 0 0] [] [.int .i64 0, .string ⟨#[]⟩, .slice none 0 0, .slice none 0 0] [] y2 HZ2.out rfl, World.ownsRow_nil _ _ _ _, Nat.le_refl _, small_nil⟩, Lib.hid (bl_set HB2.out HP1.out)⟩
  case rest =>
    obtain ⟨p, rfl, HPG, HM, HBW⟩ := hcut
    have HPW : Hid (w.heap.size + 2 ≤ p) := Lib.hid (by have := HPG.out; have := HS0.out; omega)
    obtain ⟨w3, hw3⟩ : ∃ x, wc.alloc (.cells #[.string ⟨#[109, 97, 120, 45, 97, 103, 101, 61, 49, 48]⟩, .string ⟨#[109, 97, 120, 45, 97, 103, 101, 61, 49, 48]⟩, .string ⟨#[109, 97, 120, 45, 97, 103, 101, 61, 51, 48]⟩, .string ⟨#[]⟩, .string ⟨#[110, 111, 45, 115, 116, 111, 114, 101]⟩, .string ⟨#[112, 114, 105, 118, 97, 116, 101]⟩, .string ⟨#[110, 111, 45, 99, 97, 99, 104, 101]⟩, .string ⟨#[112, 117, 98, 108, 105, 99]⟩, .string ⟨#[115, 45, 109, 97, 120, 97, 103, 101, 61, 55]⟩, .string ⟨#[109, 97, 120, 45, 97, 103, 101, 61, 49, 48, 44, 32, 109, 117, 115, 116, 45, 114, 101, 118, 97, 108, 105, 100, 97, 116, 101]⟩, .string ⟨#[109, 97, 120, 45, 97, 103, 101, 61, 48]⟩, .string ⟨#[109, 97, 120, 45, 97, 103, 101, 61, 49, 48, 44, 32, 112, 117, 98, 108, 105, 99]⟩] 9) = x := ⟨_, rfl⟩
    have hbn : Below wc.heap.size wc w3 := by rw [← hw3]; exact below_al (Below.refl _ _) _
    have HX3 := Lib.hid hw3
    have HM3 := Lib.hid (HM.out.below hbn)
    have HB3 := Lib.hid (HBW.out.trans (hbn.mono HBW.out.size))
    have kq := (HQ.out w3 HB3.out).2.1
    have ks := SVC.out wc
    rw [hw3] at ks
    clear hw3 hbn
    go_upto_if 22 with ((with_reducible show wpList _ _ _ (⟨some 16, _, _, _, _, _⟩ :: _) _ _); (change wpList _ _ _ _ _ (wc.alloc (.cells #[.string ⟨#[109, 97, 120, 45, 97, 103, 101, 61, 49, 48]⟩, .string ⟨#[109, 97, 120, 45, 97, 103, 101, 61, 49, 48]⟩, .string ⟨#[109, 97, 120, 45, 97, 103, 101, 61, 51, 48]⟩, .string ⟨#[]⟩, .string ⟨#[110, 111, 45, 115, 116, 111, 114, 101]⟩, .string ⟨#[112, 114, 105, 118, 97, 116, 101]⟩, .string ⟨#[110, 111, 45, 99, 97, 99, 104, 101]⟩, .string ⟨#[112, 117, 98, 108, 105, 99]⟩, .string ⟨#[115, 45, 109, 97, 120, 97, 103, 101, 61, 55]⟩, .string ⟨#[109, 97, 120, 45, 97, 103, 101, 61, 49, 48, 44, 32, 109, 117, 115, 116, 45, 114, 101, 118, 97, 108, 105, 100, 97, 116, 101]⟩, .string ⟨#[109, 97, 120, 45, 97, 103, 101, 61, 48]⟩, .string ⟨#[109, 97, 120, 45, 97, 103, 101, 61, 49, 48, 44, 32, 112, 117, 98, 108, 105, 99]⟩] 9))); rw [HX3.out])
    clear kq ks HX3
    go_cut [] (fun wx => ∃ fa n fc L, Hid (Msg 27 p 3 wx (.int .i64 (ST : Int)) (.string ⟨#[82]⟩) (.slice fa n fc) (.slice none 0 0) L) ∧ Hid (Below v0.heap.size v0 wx))
    case first =>
      obtain ⟨b5, hb5⟩ : ∃ b, (!SV.toList.isEmpty) = b := ⟨_, rfl⟩
      rw [hb5]
      clear hb5
      cases b5 with
      | false =>
        go_wp2_with fail
        go_meet
        exact ⟨_, _, _, _, Lib.hid (HM3.out.more (by decide)), HB3⟩
      | true =>
        obtain ⟨y1, hy1⟩ : ∃ x, w3.alloc (.cells #[.string ⟨#[67, 97, 99, 104, 101, 45, 67, 111, 110, 116, 114, 111, 108]⟩, .string SV] 48) = x := ⟨_, rfl⟩
        have HX1 := Lib.hid hy1
        have hbn : Below w3.heap.size w3 y1 := by rw [← hy1]; exact below_al (Below.refl _ _) _
        have HM1 := Lib.hid (HM3.out.below hbn)
        have HD1 := Lib.hid (HB3.out.trans (hbn.mono HB3.out.size))
        have HF1 : Hid (FieldsIn y1.heap.size y1 (some ⟨w3.heap.size, 0, none⟩) [(⟨#[67, 97, 99, 104, 101, 45, 67, 111, 110, 116, 114, 111, 108]⟩, SV)]) := Lib.hid (row_at (l := [(⟨#[67, 97, 99, 104, 101, 45, 67, 111, 110, 116, 114, 111, 108]⟩, SV)]) (by rw [← hy1]; exact heap_alloc_new w3 _))
        clear hy1 hbn
        have kx := (four_at HM3.out.block).2.2.1
        go_wp2_with ((with_reducible show wpList _ _ _ (⟨some 28, _, _, _, _, _⟩ :: _) _ _); (change wpList _ _ _ _ _ (w3.alloc (.cells #[.string ⟨#[67, 97, 99, 104, 101, 45, 67, 111, 110, 116, 114, 111, 108]⟩, .string SV] 48))); rw [HX1.out]; refine wpList_plain rfl fun K' hK' => ?_; refine wp_msg_append HM1.out (by decide) (.tmp 24) (.tmp 27) rfl 28 rfl rfl (some ⟨w3.heap.size, 0, none⟩) 1 1 [(⟨#[67, 97, 99, 104, 101, 45, 67, 111, 110, 116, 114, 111, 108]⟩, SV)] rfl rfl HF1.out (fun e => by cases e) (by simp) (small_one (by decide) zSV.out) rfl ?_; intro fa2 n2 fc2 x3 s2_ sf HN HF HGR; refine hK' _ _ ?_)
        go_meet
        exact ⟨fa2, n2, fc2, _, HN, Lib.hid (HF.out v0 HPG.out HD1.out)⟩
    case rest =>
      clear HM HBW HM3 HB3
      obtain ⟨fa, n, fc, L, HM, HBW⟩ := hcut
      obtain ⟨w3, hw3⟩ : ∃ x, wc.alloc (.cells #[.string ⟨#[]⟩, .string ⟨#[]⟩, .string ⟨#[]⟩, .string ⟨#[65, 99, 99, 101, 112, 116]⟩, .string ⟨#[97, 99, 99, 101, 112, 116, 44, 32, 108, 97, 110, 103]⟩, .string ⟨#[42]⟩] 9) = x := ⟨_, rfl⟩
      have hbn : Below wc.heap.size wc w3 := by rw [← hw3]; exact below_al (Below.refl _ _) _
      have HX3 := Lib.hid hw3
      have HM3 := Lib.hid (HM.out.below hbn)
      have HB3 := Lib.hid (HBW.out.trans (hbn.mono HBW.out.size))
      have kq := (HQ.out w3 HB3.out).2.2.1
      have ks := VVC.out wc
      rw [hw3] at ks
      clear hw3 hbn
      go_upto_if 37 with ((with_reducible show wpList _ _ _ (⟨some 31, _, _, _, _, _⟩ :: _) _ _); (change wpList _ _ _ _ _ (wc.alloc (.cells #[.string ⟨#[]⟩, .string ⟨#[]⟩, .string ⟨#[]⟩, .string ⟨#[65, 99, 99, 101, 112, 116]⟩, .string ⟨#[97, 99, 99, 101, 112, 116, 44, 32, 108, 97, 110, 103]⟩, .string ⟨#[42]⟩] 9))); rw [HX3.out])
      clear kq ks HX3
      go_cut [] (fun wx => ∃ fa n fc L, Hid (Msg 27 p 6 wx (.int .i64 (ST : Int)) (.string ⟨#[82]⟩) (.slice fa n fc) (.slice none 0 0) L) ∧ Hid (Below v0.heap.size v0 wx))
      case first =>
        obtain ⟨b5, hb5⟩ : ∃ b, (!VV.toList.isEmpty) = b := ⟨_, rfl⟩
        rw [hb5]
        clear hb5
        cases b5 with
        | false =>
          go_wp2_with fail
          go_meet
          exact ⟨_, _, _, _, Lib.hid (HM3.out.more (by decide)), HB3⟩
        | true =>
          obtain ⟨y1, hy1⟩ : ∃ x, w3.alloc (.cells #[.string ⟨#[86, 97, 114, 121]⟩, .string VV] 48) = x := ⟨_, rfl⟩
          have HX1 := Lib.hid hy1
          have hbn : Below w3.heap.size w3 y1 := by rw [← hy1]; exact below_al (Below.refl _ _) _
          have HM1 := Lib.hid (HM3.out.below hbn)
          have HD1 := Lib.hid (HB3.out.trans (hbn.mono HB3.out.size))
          have HF1 : Hid (FieldsIn y1.heap.size y1 (some ⟨w3.heap.size, 0, none⟩) [(⟨#[86, 97, 114, 121]⟩, VV)]) := Lib.hid (row_at (l := [(⟨#[86, 97, 114, 121]⟩, VV)]) (by rw [← hy1]; exact heap_alloc_new w3 _))
          clear hy1 hbn
          have kx := (four_at HM3.out.block).2.2.1
          go_wp2_with ((with_reducible show wpList _ _ _ (⟨some 43, _, _, _, _, _⟩ :: _) _ _); (change wpList _ _ _ _ _ (w3.alloc (.cells #[.string ⟨#[86, 97, 114, 121]⟩, .string VV] 48))); rw [HX1.out]; refine wpList_plain rfl fun K' hK' => ?_; refine wp_msg_append HM1.out (by decide) (.tmp 39) (.tmp 42) rfl 43 rfl rfl (some ⟨w3.heap.size, 0, none⟩) 1 1 [(⟨#[86, 97, 114, 121]⟩, VV)] rfl rfl HF1.out (fun e => by cases e) (by simp) (small_one (by decide) zVV.out) rfl ?_; intro fa2 n2 fc2 x3 s2_ sf HN HF HGR; refine hK' _ _ ?_)
          go_meet
          exact ⟨fa2, n2, fc2, _, HN, Lib.hid (HF.out v0 HPG.out HD1.out)⟩
      case rest =>
        clear HM HBW HM3 HB3
        obtain ⟨fa, n, fc, L, HM, HBW⟩ := hcut
        have kq := (HQ.out wc HBW.out).2.2.2.1
        go_upto_block 0 with (fail)
        clear kq
        go_cut [] (fun wx => ∃ fa n fc L, Hid (Msg 27 p 9 wx (.int .i64 (ST : Int)) (.string ⟨#[82]⟩) (.slice fa n fc) (.slice none 0 0) L) ∧ Hid (Below v0.heap.size v0 wx))
        case first =>
          by_cases h0_ : k3 = 0
          · subst h0_
            have HDd : Hid (Below v0.heap.size v0 wc.drew) := Lib.hid HBW.out.drew
            have HMd := Lib.hid (HM.out.below ((Below.refl _ _).drew))
            go_upto_region 11 with (fail)
            refine wp_region_held_drew (S := fun _ => True) (by kernel_rfl) trivial (fun hH => ?_)
            obtain ⟨x0, hx0⟩ : ∃ y, wc.drew = y := ⟨_, rfl⟩
            rw [hx0] at HDd HMd ⊢
            clear hx0
            refine wpAnyH_takeTo (i := 0) (d := some 51) (v := .pointer (some ⟨p, 2, none⟩)) rfl rfl (by kernel_rfl) (by kernel_rfl) (by kernel_rfl) (fun _ _ _ h => h) (Or.inl ⟨by rfl, fun x hx => ?_⟩) hH ?_
            · have f0 := hx
              go_simp
            try simp only [Act.put, List.setIfInBounds_toArray, List.set_cons_zero, List.set_cons_succ]
            refine wpAnyH_takeTo (i := 2) (d := some 53) (v := .int .i64 now) rfl rfl (by kernel_rfl) (by kernel_rfl) (by kernel_rfl) (fun _ _ _ h => h) (Or.inl ⟨by rfl, fun x hx => ?_⟩) hH ?_
            · have f0 := hx
              go_simp
            try simp only [Act.put, List.setIfInBounds_toArray, List.set_cons_zero, List.set_cons_succ]
            refine wpAnyH_ready (rs := [1, 3]) (by kernel_rfl) (by simp) (AllReadyH.cons rfl (fun K hK => ?_) (AllReadyH.cons rfl (fun K hK => ?_) AllReadyH.nil))
            · rw [if_pos (by rfl)]
              have kx := (four_at HMd.out.block).2.2.1
              go_simp
              clear kx
              refine hK.out _ _ trivial (fun hH => ?_)
              clear hK K
              try simp only [Act.put, List.setIfInBounds_toArray, List.set_cons_zero, List.set_cons_succ]
              refine wpAnyH_ready (rs := [3]) (by kernel_rfl) (by simp) (AllReadyH.cons rfl (fun K hK => ?_) AllReadyH.nil)
              · rw [if_pos (by rfl)]
                go_simp
                go_at_call 24
                refine Calls.mono (textS_any _ _) ?_
                rintro e z1 ⟨sz1, rfl, zz, hbn⟩
                have Zz1 : Hid (sz1.size ≤ 1000) := Lib.hid (by omega)
                have HMz1 := Lib.hid (HMd.out.below hbn)
                have HDz1 := Lib.hid (HDd.out.trans (hbn.mono HDd.out.size))
                refine hK.out _ _ trivial (fun hH => ?_)
                clear hK K hbn zz
                try simp only [Act.put, List.setIfInBounds_toArray, List.set_cons_zero, List.set_cons_succ]
                refine wpAnyH_takeTo (i := 4) (d := some 55) (v := .agg #[.string ⟨#[68, 97, 116, 101]⟩, .string sz1]) rfl rfl (by kernel_rfl) (by kernel_rfl) (by kernel_rfl) (fun _ _ _ h => h) (Or.inl ⟨by rfl, fun x hx => ?_⟩) hH ?_
                · have f0 := hx
                  go_simp
                try simp only [Act.put, List.setIfInBounds_toArray, List.set_cons_zero, List.set_cons_succ]
                refine wpAnyH_ready (rs := [5]) (by kernel_rfl) (by simp) (AllReadyH.cons rfl (fun K hK => ?_) AllReadyH.nil)
                · rw [if_pos (by rfl)]
                  go_simp
                  obtain ⟨z2, hy⟩ : ∃ y, z1.alloc (.cells #[.string ⟨#[68, 97, 116, 101]⟩, .string sz1] 48) = y := ⟨_, rfl⟩
                  have hbn : Below z1.heap.size z1 z2 := by rw [← hy]; exact below_al (Below.refl _ _) _
                  have HMz2 := Lib.hid (HMz1.out.below hbn)
                  have HDz2 := Lib.hid (HDz1.out.trans (hbn.mono HDz1.out.size))
                  have HFz2 : Hid (FieldsIn z2.heap.size z2 (some ⟨z1.heap.size, 0, none⟩) [(⟨#[68, 97, 116, 101]⟩, sz1)]) := Lib.hid (row_at (l := [(⟨#[68, 97, 116, 101]⟩, sz1)]) (by rw [← hy]; exact heap_alloc_new z1 _))
                  change K _ (z1.alloc (.cells #[.string ⟨#[68, 97, 116, 101]⟩, .string sz1] 48))
                  rw [hy]
                  refine hK.out _ _ trivial (fun hH => ?_)
                  clear hK K hy hbn
                  try simp only [Act.put, List.setIfInBounds_toArray, List.set_cons_zero, List.set_cons_succ]
                  refine wpAnyH_ready (rs := [6]) (by kernel_rfl) (by simp) (AllReadyH.cons rfl (fun K hK => ?_) AllReadyH.nil)
                  · rw [if_pos (by rfl)]
                    refine wp_msg_append HMz2.out (by decide) (.tmp 52) (.tmp 56) rfl 57 rfl rfl (some ⟨z1.heap.size, 0, none⟩) 1 1 [(⟨#[68, 97, 116, 101]⟩, sz1)] rfl rfl HFz2.out (fun e => by cases e) (by simp) (small_one (by decide) Zz1.out) rfl ?_
                    intro fa2 n2 fc2 x3 s2_ sf HN HF HGR
                    refine hK.out _ _ trivial (fun hH => ?_)
                    clear hK K
                    try simp only [Act.put, List.setIfInBounds_toArray, List.set_cons_zero, List.set_cons_succ]
                    refine wpAnyH_takeTo (i := 7) (d := some 58) (v := .pointer (some ⟨p, 2, none⟩)) rfl rfl (by kernel_rfl) (by kernel_rfl) (by kernel_rfl) (fun _ _ _ h => h) (Or.inl ⟨by rfl, fun x hx => ?_⟩) hH ?_
                    · have f0 := hx
                      go_simp
                    try simp only [Act.put, List.setIfInBounds_toArray, List.set_cons_zero, List.set_cons_succ]
                    refine wpAnyH_stepTo (i := 8) (d := none) (by kernel_rfl) rfl rfl (by rfl) (fun _ y => y = x3.setCell ⟨p, 2, none⟩ (.slice fa2 n2 fc2)) (fun K hK => ?_) ?_
                    · go_simp
                      exact hK (.bool true) _ rfl
                    rintro _ _ rfl
                    refine ⟨trivial, ?_⟩
                    refine wpAnyH_done (by kernel_rfl) ?_ _
                    go_wp2_with fail
                    go_meet
                    exact ⟨fa2, n2, fc2, _, HN, Lib.hid (HF.out v0 HPG.out HDz2.out)⟩
            · rw [if_pos (by rfl)]
              go_simp
              go_at_call 24
              refine Calls.mono (textS_any _ _) ?_
              rintro e z4 ⟨sz4, rfl, zz, hbn⟩
              have Zz4 : Hid (sz4.size ≤ 1000) := Lib.hid (by omega)
              have HMz4 := Lib.hid (HMd.out.below hbn)
              have HDz4 := Lib.hid (HDd.out.trans (hbn.mono HDd.out.size))
              refine hK.out _ _ trivial (fun hH => ?_)
              clear hK K hbn zz
              try simp only [Act.put, List.setIfInBounds_toArray, List.set_cons_zero, List.set_cons_succ]
              refine wpAnyH_takeTo (i := 4) (d := some 55) (v := .agg #[.string ⟨#[68, 97, 116, 101]⟩, .string sz4]) rfl rfl (by kernel_rfl) (by kernel_rfl) (by kernel_rfl) (fun _ _ _ h => h) (Or.inl ⟨by rfl, fun x hx => ?_⟩) hH ?_
              · have f0 := hx
                go_simp
              try simp only [Act.put, List.setIfInBounds_toArray, List.set_cons_zero, List.set_cons_succ]
              refine wpAnyH_ready (rs := [1, 5]) (by kernel_rfl) (by simp) (AllReadyH.cons rfl (fun K hK => ?_) (AllReadyH.cons rfl (fun K hK => ?_) AllReadyH.nil))
              · rw [if_pos (by rfl)]
                have kx := (four_at HMz4.out.block).2.2.1
                go_simp
                clear kx
                refine hK.out _ _ trivial (fun hH => ?_)
                clear hK K
                try simp only [Act.put, List.setIfInBounds_toArray, List.set_cons_zero, List.set_cons_succ]
                refine wpAnyH_ready (rs := [5]) (by kernel_rfl) (by simp) (AllReadyH.cons rfl (fun K hK => ?_) AllReadyH.nil)
                · rw [if_pos (by rfl)]
                  go_simp
                  obtain ⟨z5, hy⟩ : ∃ y, z4.alloc (.cells #[.string ⟨#[68, 97, 116, 101]⟩, .string sz4] 48) = y := ⟨_, rfl⟩
                  have hbn : Below z4.heap.size z4 z5 := by rw [← hy]; exact below_al (Below.refl _ _) _
                  have HMz5 := Lib.hid (HMz4.out.below hbn)
                  have HDz5 := Lib.hid (HDz4.out.trans (hbn.mono HDz4.out.size))
                  have HFz5 : Hid (FieldsIn z5.heap.size z5 (some ⟨z4.heap.size, 0, none⟩) [(⟨#[68, 97, 116, 101]⟩, sz4)]) := Lib.hid (row_at (l := [(⟨#[68, 97, 116, 101]⟩, sz4)]) (by rw [← hy]; exact heap_alloc_new z4 _))
                  change K _ (z4.alloc (.cells #[.string ⟨#[68, 97, 116, 101]⟩, .string sz4] 48))
                  rw [hy]
                  refine hK.out _ _ trivial (fun hH => ?_)
                  clear hK K hy hbn
                  try simp only [Act.put, List.setIfInBounds_toArray, List.set_cons_zero, List.set_cons_succ]
                  refine wpAnyH_ready (rs := [6]) (by kernel_rfl) (by simp) (AllReadyH.cons rfl (fun K hK => ?_) AllReadyH.nil)
                  · rw [if_pos (by rfl)]
                    refine wp_msg_append HMz5.out (by decide) (.tmp 52) (.tmp 56) rfl 57 rfl rfl (some ⟨z4.heap.size, 0, none⟩) 1 1 [(⟨#[68, 97, 116, 101]⟩, sz4)] rfl rfl HFz5.out (fun e => by cases e) (by simp) (small_one (by decide) Zz4.out) rfl ?_
                    intro fa2 n2 fc2 x3 s2_ sf HN HF HGR
                    refine hK.out _ _ trivial (fun hH => ?_)
                    clear hK K
                    try simp only [Act.put, List.setIfInBounds_toArray, List.set_cons_zero, List.set_cons_succ]
                    refine wpAnyH_takeTo (i := 7) (d := some 58) (v := .pointer (some ⟨p, 2, none⟩)) rfl rfl (by kernel_rfl) (by kernel_rfl) (by kernel_rfl) (fun _ _ _ h => h) (Or.inl ⟨by rfl, fun x hx => ?_⟩) hH ?_
                    · have f0 := hx
                      go_simp
                    try simp only [Act.put, List.setIfInBounds_toArray, List.set_cons_zero, List.set_cons_succ]
                    refine wpAnyH_stepTo (i := 8) (d := none) (by kernel_rfl) rfl rfl (by rfl) (fun _ y => y = x3.setCell ⟨p, 2, none⟩ (.slice fa2 n2 fc2)) (fun K hK => ?_) ?_
                    · go_simp
                      exact hK (.bool true) _ rfl
                    rintro _ _ rfl
                    refine ⟨trivial, ?_⟩
                    refine wpAnyH_done (by kernel_rfl) ?_ _
                    go_wp2_with fail
                    go_meet
                    exact ⟨fa2, n2, fc2, _, HN, Lib.hid (HF.out v0 HPG.out HDz5.out)⟩
              · rw [if_pos (by rfl)]
                go_simp
                obtain ⟨z7, hy⟩ : ∃ y, z4.alloc (.cells #[.string ⟨#[68, 97, 116, 101]⟩, .string sz4] 48) = y := ⟨_, rfl⟩
                have hbn : Below z4.heap.size z4 z7 := by rw [← hy]; exact below_al (Below.refl _ _) _
                have HMz7 := Lib.hid (HMz4.out.below hbn)
                have HDz7 := Lib.hid (HDz4.out.trans (hbn.mono HDz4.out.size))
                have HFz7 : Hid (FieldsIn z7.heap.size z7 (some ⟨z4.heap.size, 0, none⟩) [(⟨#[68, 97, 116, 101]⟩, sz4)]) := Lib.hid (row_at (l := [(⟨#[68, 97, 116, 101]⟩, sz4)]) (by rw [← hy]; exact heap_alloc_new z4 _))
                change K _ (z4.alloc (.cells #[.string ⟨#[68, 97, 116, 101]⟩, .string sz4] 48))
                rw [hy]
                refine hK.out _ _ trivial (fun hH => ?_)
                clear hK K hy hbn
                try simp only [Act.put, List.setIfInBounds_toArray, List.set_cons_zero, List.set_cons_succ]
                refine wpAnyH_ready (rs := [1]) (by kernel_rfl) (by simp) (AllReadyH.cons rfl (fun K hK => ?_) AllReadyH.nil)
                · rw [if_pos (by rfl)]
                  have kx := (four_at HMz7.out.block).2.2.1
                  go_simp
                  clear kx
                  refine hK.out _ _ trivial (fun hH => ?_)
                  clear hK K
                  try simp only [Act.put, List.setIfInBounds_toArray, List.set_cons_zero, List.set_cons_succ]
                  refine wpAnyH_ready (rs := [6]) (by kernel_rfl) (by simp) (AllReadyH.cons rfl (fun K hK => ?_) AllReadyH.nil)
                  · rw [if_pos (by rfl)]
                    refine wp_msg_append HMz7.out (by decide) (.tmp 52) (.tmp 56) rfl 57 rfl rfl (some ⟨z4.heap.size, 0, none⟩) 1 1 [(⟨#[68, 97, 116, 101]⟩, sz4)] rfl rfl HFz7.out (fun e => by cases e) (by simp) (small_one (by decide) Zz4.out) rfl ?_
                    intro fa2 n2 fc2 x3 s2_ sf HN HF HGR
                    refine hK.out _ _ trivial (fun hH => ?_)
                    clear hK K
                    try simp only [Act.put, List.setIfInBounds_toArray, List.set_cons_zero, List.set_cons_succ]
                    refine wpAnyH_takeTo (i := 7) (d := some 58) (v := .pointer (some ⟨p, 2, none⟩)) rfl rfl (by kernel_rfl) (by kernel_rfl) (by kernel_rfl) (fun _ _ _ h => h) (Or.inl ⟨by rfl, fun x hx => ?_⟩) hH ?_
                    · have f0 := hx
                      go_simp
                    try simp only [Act.put, List.setIfInBounds_toArray, List.set_cons_zero, List.set_cons_succ]
                    refine wpAnyH_stepTo (i := 8) (d := none) (by kernel_rfl) rfl rfl (by rfl) (fun _ y => y = x3.setCell ⟨p, 2, none⟩ (.slice fa2 n2 fc2)) (fun K hK => ?_) ?_
                    · go_simp
                      exact hK (.bool true) _ rfl
                    rintro _ _ rfl
                    refine ⟨trivial, ?_⟩
                    refine wpAnyH_done (by kernel_rfl) ?_ _
                    go_wp2_with fail
                    go_meet
                    exact ⟨fa2, n2, fc2, _, HN, Lib.hid (HF.out v0 HPG.out HDz7.out)⟩
          have g0_ : ((k3 : Int) == 0) = false := by simp; omega
          by_cases h1_ : k3 = 1
          · subst h1_
            have HDd : Hid (Below v0.heap.size v0 wc.drew) := Lib.hid HBW.out.drew
            have HMd := Lib.hid (HM.out.below ((Below.refl _ _).drew))
            go_upto_region 11 with (fail)
            refine wp_region_held_drew (S := fun _ => True) (by kernel_rfl) trivial (fun hH => ?_)
            obtain ⟨x0, hx0⟩ : ∃ y, wc.drew = y := ⟨_, rfl⟩
            rw [hx0] at HDd HMd ⊢
            clear hx0
            refine wpAnyH_takeTo (i := 0) (d := some 51) (v := .pointer (some ⟨p, 2, none⟩)) rfl rfl (by kernel_rfl) (by kernel_rfl) (by kernel_rfl) (fun _ _ _ h => h) (Or.inl ⟨by rfl, fun x hx => ?_⟩) hH ?_
            · have f0 := hx
              go_simp
            try simp only [Act.put, List.setIfInBounds_toArray, List.set_cons_zero, List.set_cons_succ]
            refine wpAnyH_takeTo (i := 2) (d := some 53) (v := .int .i64 now) rfl rfl (by kernel_rfl) (by kernel_rfl) (by kernel_rfl) (fun _ _ _ h => h) (Or.inl ⟨by rfl, fun x hx => ?_⟩) hH ?_
            · have f0 := hx
              go_simp
            try simp only [Act.put, List.setIfInBounds_toArray, List.set_cons_zero, List.set_cons_succ]
            refine wpAnyH_ready (rs := [1, 3]) (by kernel_rfl) (by simp) (AllReadyH.cons rfl (fun K hK => ?_) (AllReadyH.cons rfl (fun K hK => ?_) AllReadyH.nil))
            · rw [if_pos (by rfl)]
              have kx := (four_at HMd.out.block).2.2.1
              go_simp
              clear kx
              refine hK.out _ _ trivial (fun hH => ?_)
              clear hK K
              try simp only [Act.put, List.setIfInBounds_toArray, List.set_cons_zero, List.set_cons_succ]
              refine wpAnyH_ready (rs := [3]) (by kernel_rfl) (by simp) (AllReadyH.cons rfl (fun K hK => ?_) AllReadyH.nil)
              · rw [if_pos (by rfl)]
                go_simp
                go_at_call 24
                refine Calls.mono (textS_any _ _) ?_
                rintro e z1 ⟨sz1, rfl, zz, hbn⟩
                have Zz1 : Hid (sz1.size ≤ 1000) := Lib.hid (by omega)
                have HMz1 := Lib.hid (HMd.out.below hbn)
                have HDz1 := Lib.hid (HDd.out.trans (hbn.mono HDd.out.size))
                refine hK.out _ _ trivial (fun hH => ?_)
                clear hK K hbn zz
                try simp only [Act.put, List.setIfInBounds_toArray, List.set_cons_zero, List.set_cons_succ]
                refine wpAnyH_takeTo (i := 4) (d := some 55) (v := .agg #[.string ⟨#[68, 97, 116, 101]⟩, .string sz1]) rfl rfl (by kernel_rfl) (by kernel_rfl) (by kernel_rfl) (fun _ _ _ h => h) (Or.inl ⟨by rfl, fun x hx => ?_⟩) hH ?_
                · have f0 := hx
                  go_simp
                try simp only [Act.put, List.setIfInBounds_toArray, List.set_cons_zero, List.set_cons_succ]
                refine wpAnyH_ready (rs := [5]) (by kernel_rfl) (by simp) (AllReadyH.cons rfl (fun K hK => ?_) AllReadyH.nil)
                · rw [if_pos (by rfl)]
                  go_simp
                  obtain ⟨z2, hy⟩ : ∃ y, z1.alloc (.cells #[.string ⟨#[68, 97, 116, 101]⟩, .string sz1] 48) = y := ⟨_, rfl⟩
                  have hbn : Below z1.heap.size z1 z2 := by rw [← hy]; exact below_al (Below.refl _ _) _
                  have HMz2 := Lib.hid (HMz1.out.below hbn)
                  have HDz2 := Lib.hid (HDz1.out.trans (hbn.mono HDz1.out.size))
                  have HFz2 : Hid (FieldsIn z2.heap.size z2 (some ⟨z1.heap.size, 0, none⟩) [(⟨#[68, 97, 116, 101]⟩, sz1)]) := Lib.hid (row_at (l := [(⟨#[68, 97, 116, 101]⟩, sz1)]) (by rw [← hy]; exact heap_alloc_new z1 _))
                  change K _ (z1.alloc (.cells #[.string ⟨#[68, 97, 116, 101]⟩, .string sz1] 48))
                  rw [hy]
                  refine hK.out _ _ trivial (fun hH => ?_)
                  clear hK K hy hbn
                  try simp only [Act.put, List.setIfInBounds_toArray, List.set_cons_zero, List.set_cons_succ]
                  refine wpAnyH_ready (rs := [6]) (by kernel_rfl) (by simp) (AllReadyH.cons rfl (fun K hK => ?_) AllReadyH.nil)
                  · rw [if_pos (by rfl)]
                    refine wp_msg_append HMz2.out (by decide) (.tmp 52) (.tmp 56) rfl 57 rfl rfl (some ⟨z1.heap.size, 0, none⟩) 1 1 [(⟨#[68, 97, 116, 101]⟩, sz1)] rfl rfl HFz2.out (fun e => by cases e) (by simp) (small_one (by decide) Zz1.out) rfl ?_
                    intro fa2 n2 fc2 x3 s2_ sf HN HF HGR
                    refine hK.out _ _ trivial (fun hH => ?_)
                    clear hK K
                    try simp only [Act.put, List.setIfInBounds_toArray, List.set_cons_zero, List.set_cons_succ]
                    refine wpAnyH_takeTo (i := 7) (d := some 58) (v := .pointer (some ⟨p, 2, none⟩)) rfl rfl (by kernel_rfl) (by kernel_rfl) (by kernel_rfl) (fun _ _ _ h => h) (Or.inl ⟨by rfl, fun x hx => ?_⟩) hH ?_
                    · have f0 := hx
                      go_simp
                    try simp only [Act.put, List.setIfInBounds_toArray, List.set_cons_zero, List.set_cons_succ]
                    refine wpAnyH_stepTo (i := 8) (d := none) (by kernel_rfl) rfl rfl (by rfl) (fun _ y => y = x3.setCell ⟨p, 2, none⟩ (.slice fa2 n2 fc2)) (fun K hK => ?_) ?_
                    · go_simp
                      exact hK (.bool true) _ rfl
                    rintro _ _ rfl
                    refine ⟨trivial, ?_⟩
                    refine wpAnyH_done (by kernel_rfl) ?_ _
                    go_wp2_with fail
                    go_meet
                    exact ⟨fa2, n2, fc2, _, HN, Lib.hid (HF.out v0 HPG.out HDz2.out)⟩
            · rw [if_pos (by rfl)]
              go_simp
              go_at_call 24
              refine Calls.mono (textS_any _ _) ?_
              rintro e z4 ⟨sz4, rfl, zz, hbn⟩
              have Zz4 : Hid (sz4.size ≤ 1000) := Lib.hid (by omega)
              have HMz4 := Lib.hid (HMd.out.below hbn)
              have HDz4 := Lib.hid (HDd.out.trans (hbn.mono HDd.out.size))
              refine hK.out _ _ trivial (fun hH => ?_)
              clear hK K hbn zz
              try simp only [Act.put, List.setIfInBounds_toArray, List.set_cons_zero, List.set_cons_succ]
              refine wpAnyH_takeTo (i := 4) (d := some 55) (v := .agg #[.string ⟨#[68, 97, 116, 101]⟩, .string sz4]) rfl rfl (by kernel_rfl) (by kernel_rfl) (by kernel_rfl) (fun _ _ _ h => h) (Or.inl ⟨by rfl, fun x hx => ?_⟩) hH ?_
              · have f0 := hx
                go_simp
              try simp only [Act.put, List.setIfInBounds_toArray, List.set_cons_zero, List.set_cons_succ]
              refine wpAnyH_ready (rs := [1, 5]) (by kernel_rfl) (by simp) (AllReadyH.cons rfl (fun K hK => ?_) (AllReadyH.cons rfl (fun K hK => ?_) AllReadyH.nil))
              · rw [if_pos (by rfl)]
                have kx := (four_at HMz4.out.block).2.2.1
                go_simp
                clear kx
                refine hK.out _ _ trivial (fun hH => ?_)
                clear hK K
                try simp only [Act.put, List.setIfInBounds_toArray, List.set_cons_zero, List.set_cons_succ]
                refine wpAnyH_ready (rs := [5]) (by kernel_rfl) (by simp) (AllReadyH.cons rfl (fun K hK => ?_) AllReadyH.nil)
                · rw [if_pos (by rfl)]
                  go_simp
                  obtain ⟨z5, hy⟩ : ∃ y, z4.alloc (.cells #[.string ⟨#[68, 97, 116, 101]⟩, .string sz4] 48) = y := ⟨_, rfl⟩
                  have hbn : Below z4.heap.size z4 z5 := by rw [← hy]; exact below_al (Below.refl _ _) _
                  have HMz5 := Lib.hid (HMz4.out.below hbn)
                  have HDz5 := Lib.hid (HDz4.out.trans (hbn.mono HDz4.out.size))
                  have HFz5 : Hid (FieldsIn z5.heap.size z5 (some ⟨z4.heap.size, 0, none⟩) [(⟨#[68, 97, 116, 101]⟩, sz4)]) := Lib.hid (row_at (l := [(⟨#[68, 97, 116, 101]⟩, sz4)]) (by rw [← hy]; exact heap_alloc_new z4 _))
                  change K _ (z4.alloc (.cells #[.string ⟨#[68, 97, 116, 101]⟩, .string sz4] 48))
                  rw [hy]
                  refine hK.out _ _ trivial (fun hH => ?_)
                  clear hK K hy hbn
                  try simp only [Act.put, List.setIfInBounds_toArray, List.set_cons_zero, List.set_cons_succ]
                  refine wpAnyH_ready (rs := [6]) (by kernel_rfl) (by simp) (AllReadyH.cons rfl (fun K hK => ?_) AllReadyH.nil)
                  · rw [if_pos (by rfl)]
                    refine wp_msg_append HMz5.out (by decide) (.tmp 52) (.tmp 56) rfl 57 rfl rfl (some ⟨z4.heap.size, 0, none⟩) 1 1 [(⟨#[68, 97, 116, 101]⟩, sz4)] rfl rfl HFz5.out (fun e => by cases e) (by simp) (small_one (by decide) Zz4.out) rfl ?_
                    intro fa2 n2 fc2 x3 s2_ sf HN HF HGR
                    refine hK.out _ _ trivial (fun hH => ?_)
                    clear hK K
                    try simp only [Act.put, List.setIfInBounds_toArray, List.set_cons_zero, List.set_cons_succ]
                    refine wpAnyH_takeTo (i := 7) (d := some 58) (v := .pointer (some ⟨p, 2, none⟩)) rfl rfl (by kernel_rfl) (by kernel_rfl) (by kernel_rfl) (fun _ _ _ h => h) (Or.inl ⟨by rfl, fun x hx => ?_⟩) hH ?_
                    · have f0 := hx
                      go_simp
                    try simp only [Act.put, List.setIfInBounds_toArray, List.set_cons_zero, List.set_cons_succ]
                    refine wpAnyH_stepTo (i := 8) (d := none) (by kernel_rfl) rfl rfl (by rfl) (fun _ y => y = x3.setCell ⟨p, 2, none⟩ (.slice fa2 n2 fc2)) (fun K hK => ?_) ?_
                    · go_simp
                      exact hK (.bool true) _ rfl
                    rintro _ _ rfl
                    refine ⟨trivial, ?_⟩
                    refine wpAnyH_done (by kernel_rfl) ?_ _
                    go_wp2_with fail
                    go_meet
                    exact ⟨fa2, n2, fc2, _, HN, Lib.hid (HF.out v0 HPG.out HDz5.out)⟩
              · rw [if_pos (by rfl)]
                go_simp
                obtain ⟨z7, hy⟩ : ∃ y, z4.alloc (.cells #[.string ⟨#[68, 97, 116, 101]⟩, .string sz4] 48) = y := ⟨_, rfl⟩
                have hbn : Below z4.heap.size z4 z7 := by rw [← hy]; exact below_al (Below.refl _ _) _
                have HMz7 := Lib.hid (HMz4.out.below hbn)
                have HDz7 := Lib.hid (HDz4.out.trans (hbn.mono HDz4.out.size))
                have HFz7 : Hid (FieldsIn z7.heap.size z7 (some ⟨z4.heap.size, 0, none⟩) [(⟨#[68, 97, 116, 101]⟩, sz4)]) := Lib.hid (row_at (l := [(⟨#[68, 97, 116, 101]⟩, sz4)]) (by rw [← hy]; exact heap_alloc_new z4 _))
                change K _ (z4.alloc (.cells #[.string ⟨#[68, 97, 116, 101]⟩, .string sz4] 48))
                rw [hy]
                refine hK.out _ _ trivial (fun hH => ?_)
                clear hK K hy hbn
                try simp only [Act.put, List.setIfInBounds_toArray, List.set_cons_zero, List.set_cons_succ]
                refine wpAnyH_ready (rs := [1]) (by kernel_rfl) (by simp) (AllReadyH.cons rfl (fun K hK => ?_) AllReadyH.nil)
                · rw [if_pos (by rfl)]
                  have kx := (four_at HMz7.out.block).2.2.1
                  go_simp
                  clear kx
                  refine hK.out _ _ trivial (fun hH => ?_)
                  clear hK K
                  try simp only [Act.put, List.setIfInBounds_toArray, List.set_cons_zero, List.set_cons_succ]
                  refine wpAnyH_ready (rs := [6]) (by kernel_rfl) (by simp) (AllReadyH.cons rfl (fun K hK => ?_) AllReadyH.nil)
                  · rw [if_pos (by rfl)]
                    refine wp_msg_append HMz7.out (by decide) (.tmp 52) (.tmp 56) rfl 57 rfl rfl (some ⟨z4.heap.size, 0, none⟩) 1 1 [(⟨#[68, 97, 116, 101]⟩, sz4)] rfl rfl HFz7.out (fun e => by cases e) (by simp) (small_one (by decide) Zz4.out) rfl ?_
                    intro fa2 n2 fc2 x3 s2_ sf HN HF HGR
                    refine hK.out _ _ trivial (fun hH => ?_)
                    clear hK K
                    try simp only [Act.put, List.setIfInBounds_toArray, List.set_cons_zero, List.set_cons_succ]
                    refine wpAnyH_takeTo (i := 7) (d := some 58) (v := .pointer (some ⟨p, 2, none⟩)) rfl rfl (by kernel_rfl) (by kernel_rfl) (by kernel_rfl) (fun _ _ _ h => h) (Or.inl ⟨by rfl, fun x hx => ?_⟩) hH ?_
                    · have f0 := hx
                      go_simp
                    try simp only [Act.put, List.setIfInBounds_toArray, List.set_cons_zero, List.set_cons_succ]
                    refine wpAnyH_stepTo (i := 8) (d := none) (by kernel_rfl) rfl rfl (by rfl) (fun _ y => y = x3.setCell ⟨p, 2, none⟩ (.slice fa2 n2 fc2)) (fun K hK => ?_) ?_
                    · go_simp
                      exact hK (.bool true) _ rfl
                    rintro _ _ rfl
                    refine ⟨trivial, ?_⟩
                    refine wpAnyH_done (by kernel_rfl) ?_ _
                    go_wp2_with fail
                    go_meet
                    exact ⟨fa2, n2, fc2, _, HN, Lib.hid (HF.out v0 HPG.out HDz7.out)⟩
          have g1_ : ((k3 : Int) == 1) = false := by simp; omega
          by_cases h2_ : k3 = 2
          · subst h2_
            have HDd : Hid (Below v0.heap.size v0 wc.drew) := Lib.hid HBW.out.drew
            have HMd := Lib.hid (HM.out.below ((Below.refl _ _).drew))
            go_upto_region 13 with (fail)
            refine wp_region_held_drew (S := fun _ => True) (by kernel_rfl) trivial (fun hH => ?_)
            obtain ⟨x0, hx0⟩ : ∃ y, wc.drew = y := ⟨_, rfl⟩
            rw [hx0] at HDd HMd ⊢
            clear hx0
            refine wpAnyH_takeTo (i := 0) (d := some 61) (v := .pointer (some ⟨p, 2, none⟩)) rfl rfl (by kernel_rfl) (by kernel_rfl) (by kernel_rfl) (fun _ _ _ h => h) (Or.inl ⟨by rfl, fun x hx => ?_⟩) hH ?_
            · have f0 := hx
              go_simp
            try simp only [Act.put, List.setIfInBounds_toArray, List.set_cons_zero, List.set_cons_succ]
            refine wpAnyH_takeTo (i := 2) (d := some 63) (v := .int .i64 now) rfl rfl (by kernel_rfl) (by kernel_rfl) (by kernel_rfl) (fun _ _ _ h => h) (Or.inl ⟨by rfl, fun x hx => ?_⟩) hH ?_
            · have f0 := hx
              go_simp
            try simp only [Act.put, List.setIfInBounds_toArray, List.set_cons_zero, List.set_cons_succ]
            refine wpAnyH_takeTo (i := 3) (d := some 64) (v := .int .i64 (IntKind.i64.wrap (now - 3))) rfl rfl (by kernel_rfl) (by kernel_rfl) (by kernel_rfl) (fun _ _ _ h => h) (Or.inl ⟨by rfl, fun x hx => ?_⟩) hH ?_
            · have f0 := hx
              go_simp
            try simp only [Act.put, List.setIfInBounds_toArray, List.set_cons_zero, List.set_cons_succ]
            refine wpAnyH_takeTo (i := 6) (d := some 67) (v := .int .i64 now) rfl rfl (by kernel_rfl) (by kernel_rfl) (by kernel_rfl) (fun _ _ _ h => h) (Or.inl ⟨by rfl, fun x hx => ?_⟩) hH ?_
            · have f0 := hx
              go_simp
            try simp only [Act.put, List.setIfInBounds_toArray, List.set_cons_zero, List.set_cons_succ]
            refine wpAnyH_takeTo (i := 7) (d := some 68) (v := .int .i64 (IntKind.i64.wrap (now - 100))) rfl rfl (by kernel_rfl) (by kernel_rfl) (by kernel_rfl) (fun _ _ _ h => h) (Or.inl ⟨by rfl, fun x hx => ?_⟩) hH ?_
            · have f0 := hx
              go_simp
            try simp only [Act.put, List.setIfInBounds_toArray, List.set_cons_zero, List.set_cons_succ]
            refine wpAnyH_ready (rs := [1, 4]) (by kernel_rfl) (by simp) (AllReadyH.cons rfl (fun K hK => ?_) (AllReadyH.cons rfl (fun K hK => ?_) AllReadyH.nil))
            · rw [if_pos (by rfl)]
              have kx := (four_at HMd.out.block).2.2.1
              go_simp
              clear kx
              refine hK.out _ _ trivial (fun hH => ?_)
              clear hK K
              try simp only [Act.put, List.setIfInBounds_toArray, List.set_cons_zero, List.set_cons_succ]
              refine wpAnyH_ready (rs := [4]) (by kernel_rfl) (by simp) (AllReadyH.cons rfl (fun K hK => ?_) AllReadyH.nil)
              · rw [if_pos (by rfl)]
                go_simp
                go_at_call 24
                refine Calls.mono (textS_any _ _) ?_
                rintro e z1 ⟨sz1, rfl, zz, hbn⟩
                have Zz1 : Hid (sz1.size ≤ 1000) := Lib.hid (by omega)
                have HMz1 := Lib.hid (HMd.out.below hbn)
                have HDz1 := Lib.hid (HDd.out.trans (hbn.mono HDd.out.size))
                refine hK.out _ _ trivial (fun hH => ?_)
                clear hK K hbn zz
                try simp only [Act.put, List.setIfInBounds_toArray, List.set_cons_zero, List.set_cons_succ]
                refine wpAnyH_takeTo (i := 5) (d := some 66) (v := .agg #[.string ⟨#[68, 97, 116, 101]⟩, .string sz1]) rfl rfl (by kernel_rfl) (by kernel_rfl) (by kernel_rfl) (fun _ _ _ h => h) (Or.inl ⟨by rfl, fun x hx => ?_⟩) hH ?_
                · have f0 := hx
                  go_simp
                try simp only [Act.put, List.setIfInBounds_toArray, List.set_cons_zero, List.set_cons_succ]
                refine wpAnyH_ready (rs := [8]) (by kernel_rfl) (by simp) (AllReadyH.cons rfl (fun K hK => ?_) AllReadyH.nil)
                · rw [if_pos (by rfl)]
                  go_simp
                  go_at_call 24
                  refine Calls.mono (textS_any _ _) ?_
                  rintro e z2 ⟨sz2, rfl, zz, hbn⟩
                  have Zz2 : Hid (sz2.size ≤ 1000) := Lib.hid (by omega)
                  have HMz2 := Lib.hid (HMz1.out.below hbn)
                  have HDz2 := Lib.hid (HDz1.out.trans (hbn.mono HDz1.out.size))
                  refine hK.out _ _ trivial (fun hH => ?_)
                  clear hK K hbn zz
                  try simp only [Act.put, List.setIfInBounds_toArray, List.set_cons_zero, List.set_cons_succ]
                  refine wpAnyH_takeTo (i := 9) (d := some 70) (v := .agg #[.string ⟨#[76, 97, 115, 116, 45, 77, 111, 100, 105, 102, 105, 101, 100]⟩, .string sz2]) rfl rfl (by kernel_rfl) (by kernel_rfl) (by kernel_rfl) (fun _ _ _ h => h) (Or.inl ⟨by rfl, fun x hx => ?_⟩) hH ?_
                  · have f0 := hx
                    go_simp
                  try simp only [Act.put, List.setIfInBounds_toArray, List.set_cons_zero, List.set_cons_succ]
                  refine wpAnyH_ready (rs := [10]) (by kernel_rfl) (by simp) (AllReadyH.cons rfl (fun K hK => ?_) AllReadyH.nil)
                  · rw [if_pos (by rfl)]
                    go_simp
                    obtain ⟨z3, hy⟩ : ∃ y, z2.alloc (.cells #[.string ⟨#[68, 97, 116, 101]⟩, .string sz1, .string ⟨#[76, 97, 115, 116, 45, 77, 111, 100, 105, 102, 105, 101, 100]⟩, .string sz2] 48) = y := ⟨_, rfl⟩
                    have hbn : Below z2.heap.size z2 z3 := by rw [← hy]; exact below_al (Below.refl _ _) _
                    have HMz3 := Lib.hid (HMz2.out.below hbn)
                    have HDz3 := Lib.hid (HDz2.out.trans (hbn.mono HDz2.out.size))
                    have HFz3 : Hid (FieldsIn z3.heap.size z3 (some ⟨z2.heap.size, 0, none⟩) [(⟨#[68, 97, 116, 101]⟩, sz1), (⟨#[76, 97, 115, 116, 45, 77, 111, 100, 105, 102, 105, 101, 100]⟩, sz2)]) := Lib.hid (row_at (l := [(⟨#[68, 97, 116, 101]⟩, sz1), (⟨#[76, 97, 115, 116, 45, 77, 111, 100, 105, 102, 105, 101, 100]⟩, sz2)]) (by rw [← hy]; exact heap_alloc_new z2 _))
                    change K _ (z2.alloc (.cells #[.string ⟨#[68, 97, 116, 101]⟩, .string sz1, .string ⟨#[76, 97, 115, 116, 45, 77, 111, 100, 105, 102, 105, 101, 100]⟩, .string sz2] 48))
                    rw [hy]
                    refine hK.out _ _ trivial (fun hH => ?_)
                    clear hK K hy hbn
                    try simp only [Act.put, List.setIfInBounds_toArray, List.set_cons_zero, List.set_cons_succ]
                    refine wpAnyH_ready (rs := [11]) (by kernel_rfl) (by simp) (AllReadyH.cons rfl (fun K hK => ?_) AllReadyH.nil)
                    · rw [if_pos (by rfl)]
                      refine wp_msg_append HMz3.out (by decide) (.tmp 62) (.tmp 71) rfl 72 rfl rfl (some ⟨z2.heap.size, 0, none⟩) 2 2 [(⟨#[68, 97, 116, 101]⟩, sz1), (⟨#[76, 97, 115, 116, 45, 77, 111, 100, 105, 102, 105, 101, 100]⟩, sz2)] rfl rfl HFz3.out (fun e => by cases e) (by simp) (small_cons (by decide) Zz1.out (small_one (by decide) Zz2.out)) rfl ?_
                      intro fa2 n2 fc2 x3 s2_ sf HN HF HGR
                      refine hK.out _ _ trivial (fun hH => ?_)
                      clear hK K
                      try simp only [Act.put, List.setIfInBounds_toArray, List.set_cons_zero, List.set_cons_succ]
                      refine wpAnyH_takeTo (i := 12) (d := some 73) (v := .pointer (some ⟨p, 2, none⟩)) rfl rfl (by kernel_rfl) (by kernel_rfl) (by kernel_rfl) (fun _ _ _ h => h) (Or.inl ⟨by rfl, fun x hx => ?_⟩) hH ?_
                      · have f0 := hx
                        go_simp
                      try simp only [Act.put, List.setIfInBounds_toArray, List.set_cons_zero, List.set_cons_succ]
                      refine wpAnyH_stepTo (i := 13) (d := none) (by kernel_rfl) rfl rfl (by rfl) (fun _ y => y = x3.setCell ⟨p, 2, none⟩ (.slice fa2 n2 fc2)) (fun K hK => ?_) ?_
                      · go_simp
                        exact hK (.bool true) _ rfl
                      rintro _ _ rfl
                      refine ⟨trivial, ?_⟩
                      refine wpAnyH_done (by kernel_rfl) ?_ _
                      go_wp2_with fail
                      go_meet
                      exact ⟨fa2, n2, fc2, _, HN, Lib.hid (HF.out v0 HPG.out HDz3.out)⟩
            · rw [if_pos (by rfl)]
              go_simp
              go_at_call 24
              refine Calls.mono (textS_any _ _) ?_
              rintro e z5 ⟨sz5, rfl, zz, hbn⟩
              have Zz5 : Hid (sz5.size ≤ 1000) := Lib.hid (by omega)
              have HMz5 := Lib.hid (HMd.out.below hbn)
              have HDz5 := Lib.hid (HDd.out.trans (hbn.mono HDd.out.size))
              refine hK.out _ _ trivial (fun hH => ?_)
              clear hK K hbn zz
              try simp only [Act.put, List.setIfInBounds_toArray, List.set_cons_zero, List.set_cons_succ]
              refine wpAnyH_takeTo (i := 5) (d := some 66) (v := .agg #[.string ⟨#[68, 97, 116, 101]⟩, .string sz5]) rfl rfl (by kernel_rfl) (by kernel_rfl) (by kernel_rfl) (fun _ _ _ h => h) (Or.inl ⟨by rfl, fun x hx => ?_⟩) hH ?_
              · have f0 := hx
                go_simp
              try simp only [Act.put, List.setIfInBounds_toArray, List.set_cons_zero, List.set_cons_succ]
              refine wpAnyH_ready (rs := [1, 8]) (by kernel_rfl) (by simp) (AllReadyH.cons rfl (fun K hK => ?_) (AllReadyH.cons rfl (fun K hK => ?_) AllReadyH.nil))
              · rw [if_pos (by rfl)]
                have kx := (four_at HMz5.out.block).2.2.1
                go_simp
                clear kx
                refine hK.out _ _ trivial (fun hH => ?_)
                clear hK K
                try simp only [Act.put, List.setIfInBounds_toArray, List.set_cons_zero, List.set_cons_succ]
                refine wpAnyH_ready (rs := [8]) (by kernel_rfl) (by simp) (AllReadyH.cons rfl (fun K hK => ?_) AllReadyH.nil)
                · rw [if_pos (by rfl)]
                  go_simp
                  go_at_call 24
                  refine Calls.mono (textS_any _ _) ?_
                  rintro e z6 ⟨sz6, rfl, zz, hbn⟩
                  have Zz6 : Hid (sz6.size ≤ 1000) := Lib.hid (by omega)
                  have HMz6 := Lib.hid (HMz5.out.below hbn)
                  have HDz6 := Lib.hid (HDz5.out.trans (hbn.mono HDz5.out.size))
                  refine hK.out _ _ trivial (fun hH => ?_)
                  clear hK K hbn zz
                  try simp only [Act.put, List.setIfInBounds_toArray, List.set_cons_zero, List.set_cons_succ]
                  refine wpAnyH_takeTo (i := 9) (d := some 70) (v := .agg #[.string ⟨#[76, 97, 115, 116, 45, 77, 111, 100, 105, 102, 105, 101, 100]⟩, .string sz6]) rfl rfl (by kernel_rfl) (by kernel_rfl) (by kernel_rfl) (fun _ _ _ h => h) (Or.inl ⟨by rfl, fun x hx => ?_⟩) hH ?_
                  · have f0 := hx
                    go_simp
                  try simp only [Act.put, List.setIfInBounds_toArray, List.set_cons_zero, List.set_cons_succ]
                  refine wpAnyH_ready (rs := [10]) (by kernel_rfl) (by simp) (AllReadyH.cons rfl (fun K hK => ?_) AllReadyH.nil)
                  · rw [if_pos (by rfl)]
                    go_simp
                    obtain ⟨z7, hy⟩ : ∃ y, z6.alloc (.cells #[.string ⟨#[68, 97, 116, 101]⟩, .string sz5, .string ⟨#[76, 97, 115, 116, 45, 77, 111, 100, 105, 102, 105, 101, 100]⟩, .string sz6] 48) = y := ⟨_, rfl⟩
                    have hbn : Below z6.heap.size z6 z7 := by rw [← hy]; exact below_al (Below.refl _ _) _
                    have HMz7 := Lib.hid (HMz6.out.below hbn)
                    have HDz7 := Lib.hid (HDz6.out.trans (hbn.mono HDz6.out.size))
                    have HFz7 : Hid (FieldsIn z7.heap.size z7 (some ⟨z6.heap.size, 0, none⟩) [(⟨#[68, 97, 116, 101]⟩, sz5), (⟨#[76, 97, 115, 116, 45, 77, 111, 100, 105, 102, 105, 101, 100]⟩, sz6)]) := Lib.hid (row_at (l := [(⟨#[68, 97, 116, 101]⟩, sz5), (⟨#[76, 97, 115, 116, 45, 77, 111, 100, 105, 102, 105, 101, 100]⟩, sz6)]) (by rw [← hy]; exact heap_alloc_new z6 _))
                    change K _ (z6.alloc (.cells #[.string ⟨#[68, 97, 116, 101]⟩, .string sz5, .string ⟨#[76, 97, 115, 116, 45, 77, 111, 100, 105, 102, 105, 101, 100]⟩, .string sz6] 48))
                    rw [hy]
                    refine hK.out _ _ trivial (fun hH => ?_)
                    clear hK K hy hbn
                    try simp only [Act.put, List.setIfInBounds_toArray, List.set_cons_zero, List.set_cons_succ]
                    refine wpAnyH_ready (rs := [11]) (by kernel_rfl) (by simp) (AllReadyH.cons rfl (fun K hK => ?_) AllReadyH.nil)
                    · rw [if_pos (by rfl)]
                      refine wp_msg_append HMz7.out (by decide) (.tmp 62) (.tmp 71) rfl 72 rfl rfl (some ⟨z6.heap.size, 0, none⟩) 2 2 [(⟨#[68, 97, 116, 101]⟩, sz5), (⟨#[76, 97, 115, 116, 45, 77, 111, 100, 105, 102, 105, 101, 100]⟩, sz6)] rfl rfl HFz7.out (fun e => by cases e) (by simp) (small_cons (by decide) Zz5.out (small_one (by decide) Zz6.out)) rfl ?_
                      intro fa2 n2 fc2 x3 s2_ sf HN HF HGR
                      refine hK.out _ _ trivial (fun hH => ?_)
                      clear hK K
                      try simp only [Act.put, List.setIfInBounds_toArray, List.set_cons_zero, List.set_cons_succ]
                      refine wpAnyH_takeTo (i := 12) (d := some 73) (v := .pointer (some ⟨p, 2, none⟩)) rfl rfl (by kernel_rfl) (by kernel_rfl) (by kernel_rfl) (fun _ _ _ h => h) (Or.inl ⟨by rfl, fun x hx => ?_⟩) hH ?_
                      · have f0 := hx
                        go_simp
                      try simp only [Act.put, List.setIfInBounds_toArray, List.set_cons_zero, List.set_cons_succ]
                      refine wpAnyH_stepTo (i := 13) (d := none) (by kernel_rfl) rfl rfl (by rfl) (fun _ y => y = x3.setCell ⟨p, 2, none⟩ (.slice fa2 n2 fc2)) (fun K hK => ?_) ?_
                      · go_simp
                        exact hK (.bool true) _ rfl
                      rintro _ _ rfl
                      refine ⟨trivial, ?_⟩
                      refine wpAnyH_done (by kernel_rfl) ?_ _
                      go_wp2_with fail
                      go_meet
                      exact ⟨fa2, n2, fc2, _, HN, Lib.hid (HF.out v0 HPG.out HDz7.out)⟩
              · rw [if_pos (by rfl)]
                go_simp
                go_at_call 24
                refine Calls.mono (textS_any _ _) ?_
                rintro e z9 ⟨sz9, rfl, zz, hbn⟩
                have Zz9 : Hid (sz9.size ≤ 1000) := Lib.hid (by omega)
                have HMz9 := Lib.hid (HMz5.out.below hbn)
                have HDz9 := Lib.hid (HDz5.out.trans (hbn.mono HDz5.out.size))
                refine hK.out _ _ trivial (fun hH => ?_)
                clear hK K hbn zz
                try simp only [Act.put, List.setIfInBounds_toArray, List.set_cons_zero, List.set_cons_succ]
                refine wpAnyH_takeTo (i := 9) (d := some 70) (v := .agg #[.string ⟨#[76, 97, 115, 116, 45, 77, 111, 100, 105, 102, 105, 101, 100]⟩, .string sz9]) rfl rfl (by kernel_rfl) (by kernel_rfl) (by kernel_rfl) (fun _ _ _ h => h) (Or.inl ⟨by rfl, fun x hx => ?_⟩) hH ?_
                · have f0 := hx
                  go_simp
                try simp only [Act.put, List.setIfInBounds_toArray, List.set_cons_zero, List.set_cons_succ]
                refine wpAnyH_ready (rs := [1, 10]) (by kernel_rfl) (by simp) (AllReadyH.cons rfl (fun K hK => ?_) (AllReadyH.cons rfl (fun K hK => ?_) AllReadyH.nil))
                · rw [if_pos (by rfl)]
                  have kx := (four_at HMz9.out.block).2.2.1
                  go_simp
                  clear kx
                  refine hK.out _ _ trivial (fun hH => ?_)
                  clear hK K
                  try simp only [Act.put, List.setIfInBounds_toArray, List.set_cons_zero, List.set_cons_succ]
                  refine wpAnyH_ready (rs := [10]) (by kernel_rfl) (by simp) (AllReadyH.cons rfl (fun K hK => ?_) AllReadyH.nil)
                  · rw [if_pos (by rfl)]
                    go_simp
                    obtain ⟨z10, hy⟩ : ∃ y, z9.alloc (.cells #[.string ⟨#[68, 97, 116, 101]⟩, .string sz5, .string ⟨#[76, 97, 115, 116, 45, 77, 111, 100, 105, 102, 105, 101, 100]⟩, .string sz9] 48) = y := ⟨_, rfl⟩
                    have hbn : Below z9.heap.size z9 z10 := by rw [← hy]; exact below_al (Below.refl _ _) _
                    have HMz10 := Lib.hid (HMz9.out.below hbn)
                    have HDz10 := Lib.hid (HDz9.out.trans (hbn.mono HDz9.out.size))
                    have HFz10 : Hid (FieldsIn z10.heap.size z10 (some ⟨z9.heap.size, 0, none⟩) [(⟨#[68, 97, 116, 101]⟩, sz5), (⟨#[76, 97, 115, 116, 45, 77, 111, 100, 105, 102, 105, 101, 100]⟩, sz9)]) := Lib.hid (row_at (l := [(⟨#[68, 97, 116, 101]⟩, sz5), (⟨#[76, 97, 115, 116, 45, 77, 111, 100, 105, 102, 105, 101, 100]⟩, sz9)]) (by rw [← hy]; exact heap_alloc_new z9 _))
                    change K _ (z9.alloc (.cells #[.string ⟨#[68, 97, 116, 101]⟩, .string sz5, .string ⟨#[76, 97, 115, 116, 45, 77, 111, 100, 105, 102, 105, 101, 100]⟩, .string sz9] 48))
                    rw [hy]
                    refine hK.out _ _ trivial (fun hH => ?_)
                    clear hK K hy hbn
                    try simp only [Act.put, List.setIfInBounds_toArray, List.set_cons_zero, List.set_cons_succ]
                    refine wpAnyH_ready (rs := [11]) (by kernel_rfl) (by simp) (AllReadyH.cons rfl (fun K hK => ?_) AllReadyH.nil)
                    · rw [if_pos (by rfl)]
                      refine wp_msg_append HMz10.out (by decide) (.tmp 62) (.tmp 71) rfl 72 rfl rfl (some ⟨z9.heap.size, 0, none⟩) 2 2 [(⟨#[68, 97, 116, 101]⟩, sz5), (⟨#[76, 97, 115, 116, 45, 77, 111, 100, 105, 102, 105, 101, 100]⟩, sz9)] rfl rfl HFz10.out (fun e => by cases e) (by simp) (small_cons (by decide) Zz5.out (small_one (by decide) Zz9.out)) rfl ?_
                      intro fa2 n2 fc2 x3 s2_ sf HN HF HGR
                      refine hK.out _ _ trivial (fun hH => ?_)
                      clear hK K
                      try simp only [Act.put, List.setIfInBounds_toArray, List.set_cons_zero, List.set_cons_succ]
                      refine wpAnyH_takeTo (i := 12) (d := some 73) (v := .pointer (some ⟨p, 2, none⟩)) rfl rfl (by kernel_rfl) (by kernel_rfl) (by kernel_rfl) (fun _ _ _ h => h) (Or.inl ⟨by rfl, fun x hx => ?_⟩) hH ?_
                      · have f0 := hx
                        go_simp
                      try simp only [Act.put, List.setIfInBounds_toArray, List.set_cons_zero, List.set_cons_succ]
                      refine wpAnyH_stepTo (i := 13) (d := none) (by kernel_rfl) rfl rfl (by rfl) (fun _ y => y = x3.setCell ⟨p, 2, none⟩ (.slice fa2 n2 fc2)) (fun K hK => ?_) ?_
                      · go_simp
                        exact hK (.bool true) _ rfl
                      rintro _ _ rfl
                      refine ⟨trivial, ?_⟩
                      refine wpAnyH_done (by kernel_rfl) ?_ _
                      go_wp2_with fail
                      go_meet
                      exact ⟨fa2, n2, fc2, _, HN, Lib.hid (HF.out v0 HPG.out HDz10.out)⟩
                · rw [if_pos (by rfl)]
                  go_simp
                  obtain ⟨z12, hy⟩ : ∃ y, z9.alloc (.cells #[.string ⟨#[68, 97, 116, 101]⟩, .string sz5, .string ⟨#[76, 97, 115, 116, 45, 77, 111, 100, 105, 102, 105, 101, 100]⟩, .string sz9] 48) = y := ⟨_, rfl⟩
                  have hbn : Below z9.heap.size z9 z12 := by rw [← hy]; exact below_al (Below.refl _ _) _
                  have HMz12 := Lib.hid (HMz9.out.below hbn)
                  have HDz12 := Lib.hid (HDz9.out.trans (hbn.mono HDz9.out.size))
                  have HFz12 : Hid (FieldsIn z12.heap.size z12 (some ⟨z9.heap.size, 0, none⟩) [(⟨#[68, 97, 116, 101]⟩, sz5), (⟨#[76, 97, 115, 116, 45, 77, 111, 100, 105, 102, 105, 101, 100]⟩, sz9)]) := Lib.hid (row_at (l := [(⟨#[68, 97, 116, 101]⟩, sz5), (⟨#[76, 97, 115, 116, 45, 77, 111, 100, 105, 102, 105, 101, 100]⟩, sz9)]) (by rw [← hy]; exact heap_alloc_new z9 _))
                  change K _ (z9.alloc (.cells #[.string ⟨#[68, 97, 116, 101]⟩, .string sz5, .string ⟨#[76, 97, 115, 116, 45, 77, 111, 100, 105, 102, 105, 101, 100]⟩, .string sz9] 48))
                  rw [hy]
                  refine hK.out _ _ trivial (fun hH => ?_)
                  clear hK K hy hbn
                  try simp only [Act.put, List.setIfInBounds_toArray, List.set_cons_zero, List.set_cons_succ]
                  refine wpAnyH_ready (rs := [1]) (by kernel_rfl) (by simp) (AllReadyH.cons rfl (fun K hK => ?_) AllReadyH.nil)
                  · rw [if_pos (by rfl)]
                    have kx := (four_at HMz12.out.block).2.2.1
                    go_simp
                    clear kx
                    refine hK.out _ _ trivial (fun hH => ?_)
                    clear hK K
                    try simp only [Act.put, List.setIfInBounds_toArray, List.set_cons_zero, List.set_cons_succ]
                    refine wpAnyH_ready (rs := [11]) (by kernel_rfl) (by simp) (AllReadyH.cons rfl (fun K hK => ?_) AllReadyH.nil)
                    · rw [if_pos (by rfl)]
                      refine wp_msg_append HMz12.out (by decide) (.tmp 62) (.tmp 71) rfl 72 rfl rfl (some ⟨z9.heap.size, 0, none⟩) 2 2 [(⟨#[68, 97, 116, 101]⟩, sz5), (⟨#[76, 97, 115, 116, 45, 77, 111, 100, 105, 102, 105, 101, 100]⟩, sz9)] rfl rfl HFz12.out (fun e => by cases e) (by simp) (small_cons (by decide) Zz5.out (small_one (by decide) Zz9.out)) rfl ?_
                      intro fa2 n2 fc2 x3 s2_ sf HN HF HGR
                      refine hK.out _ _ trivial (fun hH => ?_)
                      clear hK K
                      try simp only [Act.put, List.setIfInBounds_toArray, List.set_cons_zero, List.set_cons_succ]
                      refine wpAnyH_takeTo (i := 12) (d := some 73) (v := .pointer (some ⟨p, 2, none⟩)) rfl rfl (by kernel_rfl) (by kernel_rfl) (by kernel_rfl) (fun _ _ _ h => h) (Or.inl ⟨by rfl, fun x hx => ?_⟩) hH ?_
                      · have f0 := hx
                        go_simp
                      try simp only [Act.put, List.setIfInBounds_toArray, List.set_cons_zero, List.set_cons_succ]
                      refine wpAnyH_stepTo (i := 13) (d := none) (by kernel_rfl) rfl rfl (by rfl) (fun _ y => y = x3.setCell ⟨p, 2, none⟩ (.slice fa2 n2 fc2)) (fun K hK => ?_) ?_
                      · go_simp
                        exact hK (.bool true) _ rfl
                      rintro _ _ rfl
                      refine ⟨trivial, ?_⟩
                      refine wpAnyH_done (by kernel_rfl) ?_ _
                      go_wp2_with fail
                      go_meet
                      exact ⟨fa2, n2, fc2, _, HN, Lib.hid (HF.out v0 HPG.out HDz12.out)⟩
          have g2_ : ((k3 : Int) == 2) = false := by simp; omega
          by_cases h3_ : k3 = 3
          · subst h3_
            have HDd : Hid (Below v0.heap.size v0 wc.drew) := Lib.hid HBW.out.drew
            have HMd := Lib.hid (HM.out.below ((Below.refl _ _).drew))
            go_upto_region 15 with (fail)
            refine wp_region_held_drew (S := fun _ => True) (by kernel_rfl) trivial (fun hH => ?_)
            obtain ⟨x0, hx0⟩ : ∃ y, wc.drew = y := ⟨_, rfl⟩
            rw [hx0] at HDd HMd ⊢
            clear hx0
            refine wpAnyH_takeTo (i := 0) (d := some 76) (v := .pointer (some ⟨p, 2, none⟩)) rfl rfl (by kernel_rfl) (by kernel_rfl) (by kernel_rfl) (fun _ _ _ h => h) (Or.inl ⟨by rfl, fun x hx => ?_⟩) hH ?_
            · have f0 := hx
              go_simp
            try simp only [Act.put, List.setIfInBounds_toArray, List.set_cons_zero, List.set_cons_succ]
            refine wpAnyH_takeTo (i := 2) (d := some 78) (v := .int .i64 now) rfl rfl (by kernel_rfl) (by kernel_rfl) (by kernel_rfl) (fun _ _ _ h => h) (Or.inl ⟨by rfl, fun x hx => ?_⟩) hH ?_
            · have f0 := hx
              go_simp
            try simp only [Act.put, List.setIfInBounds_toArray, List.set_cons_zero, List.set_cons_succ]
            refine wpAnyH_takeTo (i := 5) (d := some 81) (v := .int .i64 now) rfl rfl (by kernel_rfl) (by kernel_rfl) (by kernel_rfl) (fun _ _ _ h => h) (Or.inl ⟨by rfl, fun x hx => ?_⟩) hH ?_
            · have f0 := hx
              go_simp
            try simp only [Act.put, List.setIfInBounds_toArray, List.set_cons_zero, List.set_cons_succ]
            refine wpAnyH_takeTo (i := 6) (d := some 82) (v := .int .i64 (IntKind.i64.wrap (now + 8))) rfl rfl (by kernel_rfl) (by kernel_rfl) (by kernel_rfl) (fun _ _ _ h => h) (Or.inl ⟨by rfl, fun x hx => ?_⟩) hH ?_
            · have f0 := hx
              go_simp
            try simp only [Act.put, List.setIfInBounds_toArray, List.set_cons_zero, List.set_cons_succ]
            refine wpAnyH_ready (rs := [1, 3]) (by kernel_rfl) (by simp) (AllReadyH.cons rfl (fun K hK => ?_) (AllReadyH.cons rfl (fun K hK => ?_) AllReadyH.nil))
            · rw [if_pos (by rfl)]
              have kx := (four_at HMd.out.block).2.2.1
              go_simp
              clear kx
              refine hK.out _ _ trivial (fun hH => ?_)
              clear hK K
              try simp only [Act.put, List.setIfInBounds_toArray, List.set_cons_zero, List.set_cons_succ]
              refine wpAnyH_ready (rs := [3]) (by kernel_rfl) (by simp) (AllReadyH.cons rfl (fun K hK => ?_) AllReadyH.nil)
              · rw [if_pos (by rfl)]
                go_simp
                go_at_call 24
                refine Calls.mono (textS_any _ _) ?_
                rintro e z1 ⟨sz1, rfl, zz, hbn⟩
                have Zz1 : Hid (sz1.size ≤ 1000) := Lib.hid (by omega)
                have HMz1 := Lib.hid (HMd.out.below hbn)
                have HDz1 := Lib.hid (HDd.out.trans (hbn.mono HDd.out.size))
                refine hK.out _ _ trivial (fun hH => ?_)
                clear hK K hbn zz
                try simp only [Act.put, List.setIfInBounds_toArray, List.set_cons_zero, List.set_cons_succ]
                refine wpAnyH_takeTo (i := 4) (d := some 80) (v := .agg #[.string ⟨#[68, 97, 116, 101]⟩, .string sz1]) rfl rfl (by kernel_rfl) (by kernel_rfl) (by kernel_rfl) (fun _ _ _ h => h) (Or.inl ⟨by rfl, fun x hx => ?_⟩) hH ?_
                · have f0 := hx
                  go_simp
                try simp only [Act.put, List.setIfInBounds_toArray, List.set_cons_zero, List.set_cons_succ]
                refine wpAnyH_ready (rs := [7]) (by kernel_rfl) (by simp) (AllReadyH.cons rfl (fun K hK => ?_) AllReadyH.nil)
                · rw [if_pos (by rfl)]
                  go_simp
                  go_at_call 24
                  refine Calls.mono (textS_any _ _) ?_
                  rintro e z2 ⟨sz2, rfl, zz, hbn⟩
                  have Zz2 : Hid (sz2.size ≤ 1000) := Lib.hid (by omega)
                  have HMz2 := Lib.hid (HMz1.out.below hbn)
                  have HDz2 := Lib.hid (HDz1.out.trans (hbn.mono HDz1.out.size))
                  refine hK.out _ _ trivial (fun hH => ?_)
                  clear hK K hbn zz
                  try simp only [Act.put, List.setIfInBounds_toArray, List.set_cons_zero, List.set_cons_succ]
                  refine wpAnyH_takeTo (i := 8) (d := some 84) (v := .agg #[.string ⟨#[69, 120, 112, 105, 114, 101, 115]⟩, .string sz2]) rfl rfl (by kernel_rfl) (by kernel_rfl) (by kernel_rfl) (fun _ _ _ h => h) (Or.inl ⟨by rfl, fun x hx => ?_⟩) hH ?_
                  · have f0 := hx
                    go_simp
                  try simp only [Act.put, List.setIfInBounds_toArray, List.set_cons_zero, List.set_cons_succ]
                  refine wpAnyH_ready (rs := [9]) (by kernel_rfl) (by simp) (AllReadyH.cons rfl (fun K hK => ?_) AllReadyH.nil)
                  · rw [if_pos (by rfl)]
                    go_simp
                    obtain ⟨z3, hy⟩ : ∃ y, z2.alloc (.cells #[.string ⟨#[68, 97, 116, 101]⟩, .string sz1, .string ⟨#[69, 120, 112, 105, 114, 101, 115]⟩, .string sz2] 48) = y := ⟨_, rfl⟩
                    have hbn : Below z2.heap.size z2 z3 := by rw [← hy]; exact below_al (Below.refl _ _) _
                    have HMz3 := Lib.hid (HMz2.out.below hbn)
                    have HDz3 := Lib.hid (HDz2.out.trans (hbn.mono HDz2.out.size))
                    have HFz3 : Hid (FieldsIn z3.heap.size z3 (some ⟨z2.heap.size, 0, none⟩) [(⟨#[68, 97, 116, 101]⟩, sz1), (⟨#[69, 120, 112, 105, 114, 101, 115]⟩, sz2)]) := Lib.hid (row_at (l := [(⟨#[68, 97, 116, 101]⟩, sz1), (⟨#[69, 120, 112, 105, 114, 101, 115]⟩, sz2)]) (by rw [← hy]; exact heap_alloc_new z2 _))
                    change K _ (z2.alloc (.cells #[.string ⟨#[68, 97, 116, 101]⟩, .string sz1, .string ⟨#[69, 120, 112, 105, 114, 101, 115]⟩, .string sz2] 48))
                    rw [hy]
                    refine hK.out _ _ trivial (fun hH => ?_)
                    clear hK K hy hbn
                    try simp only [Act.put, List.setIfInBounds_toArray, List.set_cons_zero, List.set_cons_succ]
                    refine wpAnyH_ready (rs := [10]) (by kernel_rfl) (by simp) (AllReadyH.cons rfl (fun K hK => ?_) AllReadyH.nil)
                    · rw [if_pos (by rfl)]
                      refine wp_msg_append HMz3.out (by decide) (.tmp 77) (.tmp 85) rfl 86 rfl rfl (some ⟨z2.heap.size, 0, none⟩) 2 2 [(⟨#[68, 97, 116, 101]⟩, sz1), (⟨#[69, 120, 112, 105, 114, 101, 115]⟩, sz2)] rfl rfl HFz3.out (fun e => by cases e) (by simp) (small_cons (by decide) Zz1.out (small_one (by decide) Zz2.out)) rfl ?_
                      intro fa2 n2 fc2 x3 s2_ sf HN HF HGR
                      refine hK.out _ _ trivial (fun hH => ?_)
                      clear hK K
                      try simp only [Act.put, List.setIfInBounds_toArray, List.set_cons_zero, List.set_cons_succ]
                      refine wpAnyH_takeTo (i := 11) (d := some 87) (v := .pointer (some ⟨p, 2, none⟩)) rfl rfl (by kernel_rfl) (by kernel_rfl) (by kernel_rfl) (fun _ _ _ h => h) (Or.inl ⟨by rfl, fun x hx => ?_⟩) hH ?_
                      · have f0 := hx
                        go_simp
                      try simp only [Act.put, List.setIfInBounds_toArray, List.set_cons_zero, List.set_cons_succ]
                      refine wpAnyH_stepTo (i := 12) (d := none) (by kernel_rfl) rfl rfl (by rfl) (fun _ y => y = x3.setCell ⟨p, 2, none⟩ (.slice fa2 n2 fc2)) (fun K hK => ?_) ?_
                      · go_simp
                        exact hK (.bool true) _ rfl
                      rintro _ _ rfl
                      refine ⟨trivial, ?_⟩
                      refine wpAnyH_done (by kernel_rfl) ?_ _
                      go_wp2_with fail
                      go_meet
                      exact ⟨fa2, n2, fc2, _, HN, Lib.hid (HF.out v0 HPG.out HDz3.out)⟩
            · rw [if_pos (by rfl)]
              go_simp
              go_at_call 24
              refine Calls.mono (textS_any _ _) ?_
              rintro e z5 ⟨sz5, rfl, zz, hbn⟩
              have Zz5 : Hid (sz5.size ≤ 1000) := Lib.hid (by omega)
              have HMz5 := Lib.hid (HMd.out.below hbn)
              have HDz5 := Lib.hid (HDd.out.trans (hbn.mono HDd.out.size))
              refine hK.out _ _ trivial (fun hH => ?_)
              clear hK K hbn zz
              try simp only [Act.put, List.setIfInBounds_toArray, List.set_cons_zero, List.set_cons_succ]
              refine wpAnyH_takeTo (i := 4) (d := some 80) (v := .agg #[.string ⟨#[68, 97, 116, 101]⟩, .string sz5]) rfl rfl (by kernel_rfl) (by kernel_rfl) (by kernel_rfl) (fun _ _ _ h => h) (Or.inl ⟨by rfl, fun x hx => ?_⟩) hH ?_
              · have f0 := hx
                go_simp
              try simp only [Act.put, List.setIfInBounds_toArray, List.set_cons_zero, List.set_cons_succ]
              refine wpAnyH_ready (rs := [1, 7]) (by kernel_rfl) (by simp) (AllReadyH.cons rfl (fun K hK => ?_) (AllReadyH.cons rfl (fun K hK => ?_) AllReadyH.nil))
              · rw [if_pos (by rfl)]
                have kx := (four_at HMz5.out.block).2.2.1
                go_simp
                clear kx
                refine hK.out _ _ trivial (fun hH => ?_)
                clear hK K
                try simp only [Act.put, List.setIfInBounds_toArray, List.set_cons_zero, List.set_cons_succ]
                refine wpAnyH_ready (rs := [7]) (by kernel_rfl) (by simp) (AllReadyH.cons rfl (fun K hK => ?_) AllReadyH.nil)
                · rw [if_pos (by rfl)]
                  go_simp
                  go_at_call 24
                  refine Calls.mono (textS_any _ _) ?_
                  rintro e z6 ⟨sz6, rfl, zz, hbn⟩
                  have Zz6 : Hid (sz6.size ≤ 1000) := Lib.hid (by omega)
                  have HMz6 := Lib.hid (HMz5.out.below hbn)
                  have HDz6 := Lib.hid (HDz5.out.trans (hbn.mono HDz5.out.size))
                  refine hK.out _ _ trivial (fun hH => ?_)
                  clear hK K hbn zz
                  try simp only [Act.put, List.setIfInBounds_toArray, List.set_cons_zero, List.set_cons_succ]
                  refine wpAnyH_takeTo (i := 8) (d := some 84) (v := .agg #[.string ⟨#[69, 120, 112, 105, 114, 101, 115]⟩, .string sz6]) rfl rfl (by kernel_rfl) (by kernel_rfl) (by kernel_rfl) (fun _ _ _ h => h) (Or.inl ⟨by rfl, fun x hx => ?_⟩) hH ?_
                  · have f0 := hx
                    go_simp
                  try simp only [Act.put, List.setIfInBounds_toArray, List.set_cons_zero, List.set_cons_succ]
                  refine wpAnyH_ready (rs := [9]) (by kernel_rfl) (by simp) (AllReadyH.cons rfl (fun K hK => ?_) AllReadyH.nil)
                  · rw [if_pos (by rfl)]
                    go_simp
                    obtain ⟨z7, hy⟩ : ∃ y, z6.alloc (.cells #[.string ⟨#[68, 97, 116, 101]⟩, .string sz5, .string ⟨#[69, 120, 112, 105, 114, 101, 115]⟩, .string sz6] 48) = y := ⟨_, rfl⟩
                    have hbn : Below z6.heap.size z6 z7 := by rw [← hy]; exact below_al (Below.refl _ _) _
                    have HMz7 := Lib.hid (HMz6.out.below hbn)
                    have HDz7 := Lib.hid (HDz6.out.trans (hbn.mono HDz6.out.size))
                    have HFz7 : Hid (FieldsIn z7.heap.size z7 (some ⟨z6.heap.size, 0, none⟩) [(⟨#[68, 97, 116, 101]⟩, sz5), (⟨#[69, 120, 112, 105, 114, 101, 115]⟩, sz6)]) := Lib.hid (row_at (l := [(⟨#[68, 97, 116, 101]⟩, sz5), (⟨#[69, 120, 112, 105, 114, 101, 115]⟩, sz6)]) (by rw [← hy]; exact heap_alloc_new z6 _))
                    change K _ (z6.alloc (.cells #[.string ⟨#[68, 97, 116, 101]⟩, .string sz5, .string ⟨#[69, 120, 112, 105, 114, 101, 115]⟩, .string sz6] 48))
                    rw [hy]
                    refine hK.out _ _ trivial (fun hH => ?_)
                    clear hK K hy hbn
                    try simp only [Act.put, List.setIfInBounds_toArray, List.set_cons_zero, List.set_cons_succ]
                    refine wpAnyH_ready (rs := [10]) (by kernel_rfl) (by simp) (AllReadyH.cons rfl (fun K hK => ?_) AllReadyH.nil)
                    · rw [if_pos (by rfl)]
                      refine wp_msg_append HMz7.out (by decide) (.tmp 77) (.tmp 85) rfl 86 rfl rfl (some ⟨z6.heap.size, 0, none⟩) 2 2 [(⟨#[68, 97, 116, 101]⟩, sz5), (⟨#[69, 120, 112, 105, 114, 101, 115]⟩, sz6)] rfl rfl HFz7.out (fun e => by cases e) (by simp) (small_cons (by decide) Zz5.out (small_one (by decide) Zz6.out)) rfl ?_
                      intro fa2 n2 fc2 x3 s2_ sf HN HF HGR
                      refine hK.out _ _ trivial (fun hH => ?_)
                      clear hK K
                      try simp only [Act.put, List.setIfInBounds_toArray, List.set_cons_zero, List.set_cons_succ]
                      refine wpAnyH_takeTo (i := 11) (d := some 87) (v := .pointer (some ⟨p, 2, none⟩)) rfl rfl (by kernel_rfl) (by kernel_rfl) (by kernel_rfl) (fun _ _ _ h => h) (Or.inl ⟨by rfl, fun x hx => ?_⟩) hH ?_
                      · have f0 := hx
                        go_simp
                      try simp only [Act.put, List.setIfInBounds_toArray, List.set_cons_zero, List.set_cons_succ]
                      refine wpAnyH_stepTo (i := 12) (d := none) (by kernel_rfl) rfl rfl (by rfl) (fun _ y => y = x3.setCell ⟨p, 2, none⟩ (.slice fa2 n2 fc2)) (fun K hK => ?_) ?_
                      · go_simp
                        exact hK (.bool true) _ rfl
                      rintro _ _ rfl
                      refine ⟨trivial, ?_⟩
                      refine wpAnyH_done (by kernel_rfl) ?_ _
                      go_wp2_with fail
                      go_meet
                      exact ⟨fa2, n2, fc2, _, HN, Lib.hid (HF.out v0 HPG.out HDz7.out)⟩
              · rw [if_pos (by rfl)]
                go_simp
                go_at_call 24
                refine Calls.mono (textS_any _ _) ?_
                rintro e z9 ⟨sz9, rfl, zz, hbn⟩
                have Zz9 : Hid (sz9.size ≤ 1000) := Lib.hid (by omega)
                have HMz9 := Lib.hid (HMz5.out.below hbn)
                have HDz9 := Lib.hid (HDz5.out.trans (hbn.mono HDz5.out.size))
                refine hK.out _ _ trivial (fun hH => ?_)
                clear hK K hbn zz
                try simp only [Act.put, List.setIfInBounds_toArray, List.set_cons_zero, List.set_cons_succ]
                refine wpAnyH_takeTo (i := 8) (d := some 84) (v := .agg #[.string ⟨#[69, 120, 112, 105, 114, 101, 115]⟩, .string sz9]) rfl rfl (by kernel_rfl) (by kernel_rfl) (by kernel_rfl) (fun _ _ _ h => h) (Or.inl ⟨by rfl, fun x hx => ?_⟩) hH ?_
                · have f0 := hx
                  go_simp
                try simp only [Act.put, List.setIfInBounds_toArray, List.set_cons_zero, List.set_cons_succ]
                refine wpAnyH_ready (rs := [1, 9]) (by kernel_rfl) (by simp) (AllReadyH.cons rfl (fun K hK => ?_) (AllReadyH.cons rfl (fun K hK => ?_) AllReadyH.nil))
                · rw [if_pos (by rfl)]
                  have kx := (four_at HMz9.out.block).2.2.1
                  go_simp
                  clear kx
                  refine hK.out _ _ trivial (fun hH => ?_)
                  clear hK K
                  try simp only [Act.put, List.setIfInBounds_toArray, List.set_cons_zero, List.set_cons_succ]
                  refine wpAnyH_ready (rs := [9]) (by kernel_rfl) (by simp) (AllReadyH.cons rfl (fun K hK => ?_) AllReadyH.nil)
                  · rw [if_pos (by rfl)]
                    go_simp
                    obtain ⟨z10, hy⟩ : ∃ y, z9.alloc (.cells #[.string ⟨#[68, 97, 116, 101]⟩, .string sz5, .string ⟨#[69, 120, 112, 105, 114, 101, 115]⟩, .string sz9] 48) = y := ⟨_, rfl⟩
                    have hbn : Below z9.heap.size z9 z10 := by rw [← hy]; exact below_al (Below.refl _ _) _
                    have HMz10 := Lib.hid (HMz9.out.below hbn)
                    have HDz10 := Lib.hid (HDz9.out.trans (hbn.mono HDz9.out.size))
                    have HFz10 : Hid (FieldsIn z10.heap.size z10 (some ⟨z9.heap.size, 0, none⟩) [(⟨#[68, 97, 116, 101]⟩, sz5), (⟨#[69, 120, 112, 105, 114, 101, 115]⟩, sz9)]) := Lib.hid (row_at (l := [(⟨#[68, 97, 116, 101]⟩, sz5), (⟨#[69, 120, 112, 105, 114, 101, 115]⟩, sz9)]) (by rw [← hy]; exact heap_alloc_new z9 _))
                    change K _ (z9.alloc (.cells #[.string ⟨#[68, 97, 116, 101]⟩, .string sz5, .string ⟨#[69, 120, 112, 105, 114, 101, 115]⟩, .string sz9] 48))
                    rw [hy]
                    refine hK.out _ _ trivial (fun hH => ?_)
                    clear hK K hy hbn
                    try simp only [Act.put, List.setIfInBounds_toArray, List.set_cons_zero, List.set_cons_succ]
                    refine wpAnyH_ready (rs := [10]) (by kernel_rfl) (by simp) (AllReadyH.cons rfl (fun K hK => ?_) AllReadyH.nil)
                    · rw [if_pos (by rfl)]
                      refine wp_msg_append HMz10.out (by decide) (.tmp 77) (.tmp 85) rfl 86 rfl rfl (some ⟨z9.heap.size, 0, none⟩) 2 2 [(⟨#[68, 97, 116, 101]⟩, sz5), (⟨#[69, 120, 112, 105, 114, 101, 115]⟩, sz9)] rfl rfl HFz10.out (fun e => by cases e) (by simp) (small_cons (by decide) Zz5.out (small_one (by decide) Zz9.out)) rfl ?_
                      intro fa2 n2 fc2 x3 s2_ sf HN HF HGR
                      refine hK.out _ _ trivial (fun hH => ?_)
                      clear hK K
                      try simp only [Act.put, List.setIfInBounds_toArray, List.set_cons_zero, List.set_cons_succ]
                      refine wpAnyH_takeTo (i := 11) (d := some 87) (v := .pointer (some ⟨p, 2, none⟩)) rfl rfl (by kernel_rfl) (by kernel_rfl) (by kernel_rfl) (fun _ _ _ h => h) (Or.inl ⟨by rfl, fun x hx => ?_⟩) hH ?_
                      · have f0 := hx
                        go_simp
                      try simp only [Act.put, List.setIfInBounds_toArray, List.set_cons_zero, List.set_cons_succ]
                      refine wpAnyH_stepTo (i := 12) (d := none) (by kernel_rfl) rfl rfl (by rfl) (fun _ y => y = x3.setCell ⟨p, 2, none⟩ (.slice fa2 n2 fc2)) (fun K hK => ?_) ?_
                      · go_simp
                        exact hK (.bool true) _ rfl
                      rintro _ _ rfl
                      refine ⟨trivial, ?_⟩
                      refine wpAnyH_done (by kernel_rfl) ?_ _
                      go_wp2_with fail
                      go_meet
                      exact ⟨fa2, n2, fc2, _, HN, Lib.hid (HF.out v0 HPG.out HDz10.out)⟩
                · rw [if_pos (by rfl)]
                  go_simp
                  obtain ⟨z12, hy⟩ : ∃ y, z9.alloc (.cells #[.string ⟨#[68, 97, 116, 101]⟩, .string sz5, .string ⟨#[69, 120, 112, 105, 114, 101, 115]⟩, .string sz9] 48) = y := ⟨_, rfl⟩
                  have hbn : Below z9.heap.size z9 z12 := by rw [← hy]; exact below_al (Below.refl _ _) _
                  have HMz12 := Lib.hid (HMz9.out.below hbn)
                  have HDz12 := Lib.hid (HDz9.out.trans (hbn.mono HDz9.out.size))
                  have HFz12 : Hid (FieldsIn z12.heap.size z12 (some ⟨z9.heap.size, 0, none⟩) [(⟨#[68, 97, 116, 101]⟩, sz5), (⟨#[69, 120, 112, 105, 114, 101, 115]⟩, sz9)]) := Lib.hid (row_at (l := [(⟨#[68, 97, 116, 101]⟩, sz5), (⟨#[69, 120, 112, 105, 114, 101, 115]⟩, sz9)]) (by rw [← hy]; exact heap_alloc_new z9 _))
                  change K _ (z9.alloc (.cells #[.string ⟨#[68, 97, 116, 101]⟩, .string sz5, .string ⟨#[69, 120, 112, 105, 114, 101, 115]⟩, .string sz9] 48))
                  rw [hy]
                  refine hK.out _ _ trivial (fun hH => ?_)
                  clear hK K hy hbn
                  try simp only [Act.put, List.setIfInBounds_toArray, List.set_cons_zero, List.set_cons_succ]
                  refine wpAnyH_ready (rs := [1]) (by kernel_rfl) (by simp) (AllReadyH.cons rfl (fun K hK => ?_) AllReadyH.nil)
                  · rw [if_pos (by rfl)]
                    have kx := (four_at HMz12.out.block).2.2.1
                    go_simp
                    clear kx
                    refine hK.out _ _ trivial (fun hH => ?_)
                    clear hK K
                    try simp only [Act.put, List.setIfInBounds_toArray, List.set_cons_zero, List.set_cons_succ]
                    refine wpAnyH_ready (rs := [10]) (by kernel_rfl) (by simp) (AllReadyH.cons rfl (fun K hK => ?_) AllReadyH.nil)
                    · rw [if_pos (by rfl)]
                      refine wp_msg_append HMz12.out (by decide) (.tmp 77) (.tmp 85) rfl 86 rfl rfl (some ⟨z9.heap.size, 0, none⟩) 2 2 [(⟨#[68, 97, 116, 101]⟩, sz5), (⟨#[69, 120, 112, 105, 114, 101, 115]⟩, sz9)] rfl rfl HFz12.out (fun e => by cases e) (by simp) (small_cons (by decide) Zz5.out (small_one (by decide) Zz9.out)) rfl ?_
                      intro fa2 n2 fc2 x3 s2_ sf HN HF HGR
                      refine hK.out _ _ trivial (fun hH => ?_)
                      clear hK K
                      try simp only [Act.put, List.setIfInBounds_toArray, List.set_cons_zero, List.set_cons_succ]
                      refine wpAnyH_takeTo (i := 11) (d := some 87) (v := .pointer (some ⟨p, 2, none⟩)) rfl rfl (by kernel_rfl) (by kernel_rfl) (by kernel_rfl) (fun _ _ _ h => h) (Or.inl ⟨by rfl, fun x hx => ?_⟩) hH ?_
                      · have f0 := hx
                        go_simp
                      try simp only [Act.put, List.setIfInBounds_toArray, List.set_cons_zero, List.set_cons_succ]
                      refine wpAnyH_stepTo (i := 12) (d := none) (by kernel_rfl) rfl rfl (by rfl) (fun _ y => y = x3.setCell ⟨p, 2, none⟩ (.slice fa2 n2 fc2)) (fun K hK => ?_) ?_
                      · go_simp
                        exact hK (.bool true) _ rfl
                      rintro _ _ rfl
                      refine ⟨trivial, ?_⟩
                      refine wpAnyH_done (by kernel_rfl) ?_ _
                      go_wp2_with fail
                      go_meet
                      exact ⟨fa2, n2, fc2, _, HN, Lib.hid (HF.out v0 HPG.out HDz12.out)⟩
          have g3_ : ((k3 : Int) == 3) = false := by simp; omega
          by_cases h4_ : k3 = 4
          · subst h4_
            obtain ⟨y1, hy1⟩ : ∃ x, wc.alloc (.cells #[.string ⟨#[65, 103, 101]⟩, .string ⟨#[52]⟩] 48) = x := ⟨_, rfl⟩
            have HX1 := Lib.hid hy1
            have hbn : Below wc.heap.size wc y1 := by rw [← hy1]; exact below_al (Below.refl _ _) _
            have HM1 := Lib.hid (HM.out.below hbn)
            have HD1 := Lib.hid (HBW.out.trans (hbn.mono HBW.out.size))
            have HF1 : Hid (FieldsIn y1.heap.size y1 (some ⟨wc.heap.size, 0, none⟩) [(⟨#[65, 103, 101]⟩, ⟨#[52]⟩)]) := Lib.hid (row_at (l := [(⟨#[65, 103, 101]⟩, ⟨#[52]⟩)]) (by rw [← hy1]; exact heap_alloc_new wc _))
            clear hy1 hbn
            have kx := (four_at HM.out.block).2.2.1
            go_wp2_with ((with_reducible show wpList _ _ _ (⟨some 94, _, _, _, _, _⟩ :: _) _ _); (change wpList _ _ _ _ _ (wc.alloc (.cells #[.string ⟨#[65, 103, 101]⟩, .string ⟨#[52]⟩] 48))); rw [HX1.out]; refine wpList_plain rfl fun K' hK' => ?_; refine wp_msg_append HM1.out (by decide) (.tmp 91) (.tmp 93) rfl 94 rfl rfl (some ⟨wc.heap.size, 0, none⟩) 1 1 [(⟨#[65, 103, 101]⟩, ⟨#[52]⟩)] rfl rfl HF1.out (fun e => by cases e) (by simp) (small_one (by decide) (by decide)) rfl ?_; intro fa2 n2 fc2 x3 s2_ sf HN HF HGR; refine hK' _ _ ?_)
            go_meet
            exact ⟨fa2, n2, fc2, _, HN, Lib.hid (HF.out v0 HPG.out HD1.out)⟩
          have g4_ : ((k3 : Int) == 4) = false := by simp; omega
          clear h0_ h1_ h2_ h3_ h4_
          go_wp2_with fail
          go_meet
          exact ⟨_, _, _, _, Lib.hid (HM.out.more (by decide)), HBW⟩
        case rest =>
          clear HM HBW
          obtain ⟨fa, n, fc, L, HM, HBW⟩ := hcut
          have kq := (HQ.out wc HBW.out).2.2.2.2.1
          go_upto_block 1 with (fail)
          clear kq
          go_cut [] (fun wx => ∃ fa n fc L, Hid (Msg 27 p 12 wx (.int .i64 (ST : Int)) (.string ⟨#[82]⟩) (.slice fa n fc) (.slice none 0 0) L) ∧ Hid (Below v0.heap.size v0 wx))
          case first =>
            by_cases h1_ : k4 = 1
            · subst h1_
              obtain ⟨y1, hy1⟩ : ∃ x, wc.alloc (.cells #[.string ⟨#[69, 84, 97, 103]⟩, .string ⟨#[34, 97, 34]⟩] 48) = x := ⟨_, rfl⟩
              have HX1 := Lib.hid hy1
              have hbn : Below wc.heap.size wc y1 := by rw [← hy1]; exact below_al (Below.refl _ _) _
              have HM1 := Lib.hid (HM.out.below hbn)
              have HD1 := Lib.hid (HBW.out.trans (hbn.mono HBW.out.size))
              have HF1 : Hid (FieldsIn y1.heap.size y1 (some ⟨wc.heap.size, 0, none⟩) [(⟨#[69, 84, 97, 103]⟩, ⟨#[34, 97, 34]⟩)]) := Lib.hid (row_at (l := [(⟨#[69, 84, 97, 103]⟩, ⟨#[34, 97, 34]⟩)]) (by rw [← hy1]; exact heap_alloc_new wc _))
              clear hy1 hbn
              have kx := (four_at HM.out.block).2.2.1
              go_wp2_with ((with_reducible show wpList _ _ _ (⟨some 105, _, _, _, _, _⟩ :: _) _ _); (change wpList _ _ _ _ _ (wc.alloc (.cells #[.string ⟨#[69, 84, 97, 103]⟩, .string ⟨#[34, 97, 34]⟩] 48))); rw [HX1.out]; refine wpList_plain rfl fun K' hK' => ?_; refine wp_msg_append HM1.out (by decide) (.tmp 102) (.tmp 104) rfl 105 rfl rfl (some ⟨wc.heap.size, 0, none⟩) 1 1 [(⟨#[69, 84, 97, 103]⟩, ⟨#[34, 97, 34]⟩)] rfl rfl HF1.out (fun e => by cases e) (by simp) (small_one (by decide) (by decide)) rfl ?_; intro fa2 n2 fc2 x3 s2_ sf HN HF HGR; refine hK' _ _ ?_)
              go_meet
              exact ⟨fa2, n2, fc2, _, HN, Lib.hid (HF.out v0 HPG.out HD1.out)⟩
            have g1_ : ((k4 : Int) == 1) = false := by simp; omega
            by_cases h2_ : k4 = 2
            · subst h2_
              obtain ⟨y1, hy1⟩ : ∃ x, wc.alloc (.cells #[.string ⟨#[69, 84, 97, 103]⟩, .string ⟨#[87, 47, 34, 98, 34]⟩] 48) = x := ⟨_, rfl⟩
              have HX1 := Lib.hid hy1
              have hbn : Below wc.heap.size wc y1 := by rw [← hy1]; exact below_al (Below.refl _ _) _
              have HM1 := Lib.hid (HM.out.below hbn)
              have HD1 := Lib.hid (HBW.out.trans (hbn.mono HBW.out.size))
              have HF1 : Hid (FieldsIn y1.heap.size y1 (some ⟨wc.heap.size, 0, none⟩) [(⟨#[69, 84, 97, 103]⟩, ⟨#[87, 47, 34, 98, 34]⟩)]) := Lib.hid (row_at (l := [(⟨#[69, 84, 97, 103]⟩, ⟨#[87, 47, 34, 98, 34]⟩)]) (by rw [← hy1]; exact heap_alloc_new wc _))
              clear hy1 hbn
              have kx := (four_at HM.out.block).2.2.1
              go_wp2_with ((with_reducible show wpList _ _ _ (⟨some 113, _, _, _, _, _⟩ :: _) _ _); (change wpList _ _ _ _ _ (wc.alloc (.cells #[.string ⟨#[69, 84, 97, 103]⟩, .string ⟨#[87, 47, 34, 98, 34]⟩] 48))); rw [HX1.out]; refine wpList_plain rfl fun K' hK' => ?_; refine wp_msg_append HM1.out (by decide) (.tmp 110) (.tmp 112) rfl 113 rfl rfl (some ⟨wc.heap.size, 0, none⟩) 1 1 [(⟨#[69, 84, 97, 103]⟩, ⟨#[87, 47, 34, 98, 34]⟩)] rfl rfl HF1.out (fun e => by cases e) (by simp) (small_one (by decide) (by decide)) rfl ?_; intro fa2 n2 fc2 x3 s2_ sf HN HF HGR; refine hK' _ _ ?_)
              go_meet
              exact ⟨fa2, n2, fc2, _, HN, Lib.hid (HF.out v0 HPG.out HD1.out)⟩
            have g2_ : ((k4 : Int) == 2) = false := by simp; omega
            by_cases h3_ : k4 = 3
            · subst h3_
              obtain ⟨y1, hy1⟩ : ∃ x, wc.alloc (.cells #[.string ⟨#[67, 111, 110, 110, 101, 99, 116, 105, 111, 110]⟩, .string ⟨#[88, 45, 89]⟩, .string ⟨#[88, 45, 89]⟩, .string ⟨#[50]⟩] 48) = x := ⟨_, rfl⟩
              have HX1 := Lib.hid hy1
              have hbn : Below wc.heap.size wc y1 := by rw [← hy1]; exact below_al (Below.refl _ _) _
              have HM1 := Lib.hid (HM.out.below hbn)
              have HD1 := Lib.hid (HBW.out.trans (hbn.mono HBW.out.size))
              have HF1 : Hid (FieldsIn y1.heap.size y1 (some ⟨wc.heap.size, 0, none⟩) [(⟨#[67, 111, 110, 110, 101, 99, 116, 105, 111, 110]⟩, ⟨#[88, 45, 89]⟩), (⟨#[88, 45, 89]⟩, ⟨#[50]⟩)]) := Lib.hid (row_at (l := [(⟨#[67, 111, 110, 110, 101, 99, 116, 105, 111, 110]⟩, ⟨#[88, 45, 89]⟩), (⟨#[88, 45, 89]⟩, ⟨#[50]⟩)]) (by rw [← hy1]; exact heap_alloc_new wc _))
              clear hy1 hbn
              have kx := (four_at HM.out.block).2.2.1
              go_wp2_with ((with_reducible show wpList _ _ _ (⟨some 122, _, _, _, _, _⟩ :: _) _ _); (change wpList _ _ _ _ _ (wc.alloc (.cells #[.string ⟨#[67, 111, 110, 110, 101, 99, 116, 105, 111, 110]⟩, .string ⟨#[88, 45, 89]⟩, .string ⟨#[88, 45, 89]⟩, .string ⟨#[50]⟩] 48))); rw [HX1.out]; refine wpList_plain rfl fun K' hK' => ?_; refine wp_msg_append HM1.out (by decide) (.tmp 118) (.tmp 121) rfl 122 rfl rfl (some ⟨wc.heap.size, 0, none⟩) 2 2 [(⟨#[67, 111, 110, 110, 101, 99, 116, 105, 111, 110]⟩, ⟨#[88, 45, 89]⟩), (⟨#[88, 45, 89]⟩, ⟨#[50]⟩)] rfl rfl HF1.out (fun e => by cases e) (by simp) (small_cons (by decide) (by decide) (small_one (by decide) (by decide))) rfl ?_; intro fa2 n2 fc2 x3 s2_ sf HN HF HGR; refine hK' _ _ ?_)
              go_meet
              exact ⟨fa2, n2, fc2, _, HN, Lib.hid (HF.out v0 HPG.out HD1.out)⟩
            have g3_ : ((k4 : Int) == 3) = false := by simp; omega
            clear h1_ h2_ h3_
            go_wp2_with fail
            go_meet
            exact ⟨_, _, _, _, Lib.hid (HM.out.more (by decide)), HBW⟩
          case rest =>
            clear HM HBW
            obtain ⟨fa, n, fc, L, HM, HBW⟩ := hcut
            have km := (four_at HM.out.block).1
            go_upto_if 127 with (go_at_call 25; refine Calls.mono (bodiless_get _ _) ?_; rintro e wy ⟨⟨b7, rfl⟩, rfl⟩)
            clear km
            go_cut [] (fun wx => ∃ fa n fc L ba bn bc, Hid (Msg 27 p 12 wx (.int .i64 (ST : Int)) (.string ⟨#[82]⟩) (.slice fa n fc) (.slice ba bn bc) L) ∧ Hid (Below v0.heap.size v0 wx))
            case first =>
              cases b7 with
              | true =>
                go_wp2_with fail
                go_meet
                exact ⟨_, _, _, _, _, _, _, HM, HBW⟩
              | false =>
                obtain ⟨y1, hy1⟩ : ∃ x, wc.alloc (.cells #[.int .u8 97, .int .u8 98, .int .u8 99, .int .u8 100, .int .u8 101, .int .u8 102, .int .u8 103, .int .u8 104, .int .u8 105, .int .u8 106, .int .u8 107, .int .u8 108, .int .u8 109, .int .u8 110, .int .u8 111, .int .u8 112, .int .u8 113, .int .u8 114, .int .u8 115, .int .u8 116, .int .u8 117, .int .u8 118, .int .u8 119, .int .u8 120, .int .u8 121, .int .u8 122] 5 (26, 27)) = x := ⟨_, rfl⟩
                have hbn : Below wc.heap.size wc y1 := by rw [← hy1]; exact below_al (Below.refl _ _) _
                have HX1 := Lib.hid hy1
                have HM1 := Lib.hid (HM.out.below hbn)
                have HD1 := Lib.hid (HBW.out.trans (hbn.mono HBW.out.size))
                clear hy1 hbn
                have kc := Lib.run_convert_bytes_const (P := Tryz.prog) wc 23 5 #[.int .u8 97, .int .u8 98, .int .u8 99, .int .u8 100, .int .u8 101, .int .u8 102, .int .u8 103, .int .u8 104, .int .u8 105, .int .u8 106, .int .u8 107, .int .u8 108, .int .u8 109, .int .u8 110, .int .u8 111, .int .u8 112, .int .u8 113, .int .u8 114, .int .u8 115, .int .u8 116, .int .u8 117, .int .u8 118, .int .u8 119, .int .u8 120, .int .u8 121, .int .u8 122] 26 26 Tryz.underlying23 Tryz.underlying5
                have kq := (HQ.out y1 HD1.out).2.2.2.2.2
                have kb := (four_at HM1.out.block).2.2.2
                have kf := heap_frozen HM1.out.block 3
                go_wp2_with ((with_reducible show wpList _ _ _ (⟨some 130, _, _, _, _, _⟩ :: _) _ _); (change wpList _ _ _ _ _ (wc.alloc (.cells #[.int .u8 97, .int .u8 98, .int .u8 99, .int .u8 100, .int .u8 101, .int .u8 102, .int .u8 103, .int .u8 104, .int .u8 105, .int .u8 106, .int .u8 107, .int .u8 108, .int .u8 109, .int .u8 110, .int .u8 111, .int .u8 112, .int .u8 113, .int .u8 114, .int .u8 115, .int .u8 116, .int .u8 117, .int .u8 118, .int .u8 119, .int .u8 120, .int .u8 121, .int .u8 122] 5 (26, 27)))); rw [HX1.out])
                go_meet
                exact ⟨_, _, _, _, _, _, _, Lib.hid (HM1.out.body _), Lib.hid (below_cell HD1.out HPG.out _)⟩
            case rest =>
              clear HM HBW
              obtain ⟨fa, n, fc, L, ba, bn, bc, HM, HBW⟩ := hcut
              obtain ⟨fa1, fc1, hv, hin⟩ := HM.out.slice
              obtain ⟨rfl, rfl, rfl⟩ : fa = fa1 ∧ n = L.length ∧ fc = fc1 := by simpa using hv
              have hs0 := HS0.out
              have hp0 := HPW.out
              have HGZ := Lib.hid (HZ.out wc HBW.out)
              have HR2 := Lib.hid (heap_setCells (g := w.heap.size + 1) (t := 27) [.int .i64 (ST : Int), .string ⟨#[82]⟩, .slice fa L.length fc, .slice ba bn bc] [] [.int .i64 0, .string ⟨#[]⟩, .slice none 0 0, .slice none 0 0] [] wc HGZ.out rfl)
              have HM2 := Lib.hid (HM.out.far_sets (q := w.heap.size + 1) (by omega) [.int .i64 (ST : Int), .string ⟨#[82]⟩, .slice fa L.length fc, .slice ba bn bc])
              have HB2 : Hid (Below w.heap.size w (wc.setCells (w.heap.size + 1) 0 [.int .i64 (ST : Int), .string ⟨#[82]⟩, .slice fa L.length fc, .slice ba bn bc])) := Lib.hid (bl_set (HB0.out.trans (HBW.out.mono HB0.out.size)) (by omega))
              have HTH := Lib.hid (there_of HGZ.out 0 4 (by simp))
              have HBK := Lib.hid HM.out.block
              clear hv hin HGZ HM HBW hs0 hp0
              go_wp2_with (first | ((with_reducible show wpList _ _ _ (⟨some 135, _, _, _, _, _⟩ :: _) _ _); refine wpList_load_row rfl 27 (.tmp 5) rfl p rfl 27 _ (0, 0) _ HBK.out Tryz.underlying27 rfl info_resp ?_) | ((with_reducible show wpList _ _ _ (⟨none, .store 27 _ _, _, _, _, _⟩ :: _) _ _); refine wpList_store_mid rfl 27 (.tmp 4) (.tmp 135) rfl (w.heap.size + 1) 0 #[.int .i64 (ST : Int), .string ⟨#[82]⟩, .slice fa L.length fc, .slice ba bn bc] rfl rfl HTH.out info_resp (by simp [Value.oneCell']) ?_))
              obtain ⟨fa2, fc2, hv, hin⟩ := HM2.out.slice
              obtain ⟨rfl, rfl⟩ : fa = fa2 ∧ fc = fc2 := by simpa using hv
              exact bodyPost_ret (v := .agg #[.int .i64 (ST : Int), .string ⟨#[82]⟩, .slice fa L.length fc, .slice ba bn bc]) (results_cell_row rfl _ _ (w.heap.size + 1) 27 #[.int .i64 (ST : Int), .string ⟨#[82]⟩, .slice fa L.length fc, .slice ba bn bc] (0, 0) _ rfl HR2.out Tryz.underlying27 (by rfl) info_resp) rfl ⟨ST, _, fa, fc, L, ba, bn, bc, rfl, Joins.ownsRow_le HM2.out.own (by have := HPW.out; omega), few_small HM2.out.small (by have := HM2.out.len; omega), zST.out, HB2.out⟩
end Go.Proofs.YtgfinhkplijhbaaGreatDoor
