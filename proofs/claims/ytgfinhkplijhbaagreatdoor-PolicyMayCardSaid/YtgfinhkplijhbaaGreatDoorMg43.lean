/-
  ambryseat.Request: whatever the numbers, a request of few fields.
-/
import Derived.Lib.SlBytesConst
import Derived.Test.YtgfinhkplijhbaaGreatDoorMg30
import Derived.Test.YtgfinhkplijhbaaGreatDoorMg35
import Derived.Test.YtgfinhkplijhbaaGreatDoorMg42
namespace Go.Proofs.YtgfinhkplijhbaaGreatDoor
open Go.RowKit HeadMath HeadS CtrlS VaryS

def methB (k : Nat) : ByteArray := ([⟨#[71, 69, 84]⟩, ⟨#[71, 69, 84]⟩, ⟨#[71, 69, 84]⟩, ⟨#[71, 69, 84]⟩, ⟨#[71, 69, 84]⟩, ⟨#[72, 69, 65, 68]⟩, ⟨#[80, 79, 83, 84]⟩, ⟨#[68, 69, 76, 69, 84, 69]⟩, ⟨#[71, 69, 84]⟩, ⟨#[71, 69, 84]⟩] : List ByteArray).getD k ⟨#[]⟩
theorem meth_cell (x : World) (k : Nat) (hk : k < 10) : (x.alloc (.cells #[.string ⟨#[71, 69, 84]⟩, .string ⟨#[71, 69, 84]⟩, .string ⟨#[71, 69, 84]⟩, .string ⟨#[71, 69, 84]⟩, .string ⟨#[71, 69, 84]⟩, .string ⟨#[72, 69, 65, 68]⟩, .string ⟨#[80, 79, 83, 84]⟩, .string ⟨#[68, 69, 76, 69, 84, 69]⟩, .string ⟨#[71, 69, 84]⟩, .string ⟨#[71, 69, 84]⟩] 9)).cell? ⟨x.heap.size, k, none⟩ = some (.string (methB k)) := by
  rw [Lib.cell_of_heap (heap_alloc_new x _)]
  match k, hk with
  | 0, _ | 1, _ | 2, _ | 3, _ | 4, _ | 5, _ | 6, _ | 7, _ | 8, _ | 9, _ => rfl
theorem meth_small (k : Nat) (hk : k < 10) : (methB k).size ≤ 100 := by
  match k, hk with
  | 0, _ | 1, _ | 2, _ | 3, _ | 4, _ | 5, _ | 6, _ | 7, _ | 8, _ | 9, _ => decide +kernel
def pathB (k : Nat) : ByteArray := ([⟨#[47]⟩, ⟨#[47, 97]⟩, ⟨#[47, 98]⟩, ⟨#[47, 99, 63, 100]⟩] : List ByteArray).getD k ⟨#[]⟩
theorem path_cell (x : World) (k : Nat) (hk : k < 4) : (x.alloc (.cells #[.string ⟨#[47]⟩, .string ⟨#[47, 97]⟩, .string ⟨#[47, 98]⟩, .string ⟨#[47, 99, 63, 100]⟩] 9)).cell? ⟨x.heap.size, k, none⟩ = some (.string (pathB k)) := by
  rw [Lib.cell_of_heap (heap_alloc_new x _)]
  match k, hk with
  | 0, _ | 1, _ | 2, _ | 3, _ => rfl
theorem path_small (k : Nat) (hk : k < 4) : (pathB k).size ≤ 100 := by
  match k, hk with
  | 0, _ | 1, _ | 2, _ | 3, _ => decide +kernel
def hostB (k : Nat) : ByteArray := ([⟨#[104]⟩, ⟨#[72]⟩, ⟨#[103]⟩] : List ByteArray).getD k ⟨#[]⟩
theorem host_cell (x : World) (k : Nat) (hk : k < 3) : (x.alloc (.cells #[.string ⟨#[104]⟩, .string ⟨#[72]⟩, .string ⟨#[103]⟩] 9)).cell? ⟨x.heap.size, k, none⟩ = some (.string (hostB k)) := by
  rw [Lib.cell_of_heap (heap_alloc_new x _)]
  match k, hk with
  | 0, _ | 1, _ | 2, _ => rfl
theorem host_small (k : Nat) (hk : k < 3) : (hostB k).size ≤ 100 := by
  match k, hk with
  | 0, _ | 1, _ | 2, _ => decide +kernel
def saysB (k : Nat) : ByteArray := ([⟨#[]⟩, ⟨#[]⟩, ⟨#[]⟩, ⟨#[]⟩, ⟨#[110, 111, 45, 99, 97, 99, 104, 101]⟩, ⟨#[110, 111, 45, 115, 116, 111, 114, 101]⟩, ⟨#[109, 97, 120, 45, 97, 103, 101, 61, 53]⟩, ⟨#[109, 97, 120, 45, 115, 116, 97, 108, 101]⟩, ⟨#[109, 97, 120, 45, 115, 116, 97, 108, 101, 61, 57]⟩, ⟨#[109, 105, 110, 45, 102, 114, 101, 115, 104, 61, 52]⟩, ⟨#[111, 110, 108, 121, 45, 105, 102, 45, 99, 97, 99, 104, 101, 100]⟩, ⟨#[109, 97, 120, 45, 97, 103, 101, 61, 48]⟩] : List ByteArray).getD k ⟨#[]⟩
theorem says_cell (x : World) (k : Nat) (hk : k < 12) : (x.alloc (.cells #[.string ⟨#[]⟩, .string ⟨#[]⟩, .string ⟨#[]⟩, .string ⟨#[]⟩, .string ⟨#[110, 111, 45, 99, 97, 99, 104, 101]⟩, .string ⟨#[110, 111, 45, 115, 116, 111, 114, 101]⟩, .string ⟨#[109, 97, 120, 45, 97, 103, 101, 61, 53]⟩, .string ⟨#[109, 97, 120, 45, 115, 116, 97, 108, 101]⟩, .string ⟨#[109, 97, 120, 45, 115, 116, 97, 108, 101, 61, 57]⟩, .string ⟨#[109, 105, 110, 45, 102, 114, 101, 115, 104, 61, 52]⟩, .string ⟨#[111, 110, 108, 121, 45, 105, 102, 45, 99, 97, 99, 104, 101, 100]⟩, .string ⟨#[109, 97, 120, 45, 97, 103, 101, 61, 48]⟩] 9)).cell? ⟨x.heap.size, k, none⟩ = some (.string (saysB k)) := by
  rw [Lib.cell_of_heap (heap_alloc_new x _)]
  match k, hk with
  | 0, _ | 1, _ | 2, _ | 3, _ | 4, _ | 5, _ | 6, _ | 7, _ | 8, _ | 9, _ | 10, _ | 11, _ => rfl
theorem says_small (k : Nat) (hk : k < 12) : (saysB k).size ≤ 100 := by
  match k, hk with
  | 0, _ | 1, _ | 2, _ | 3, _ | 4, _ | 5, _ | 6, _ | 7, _ | 8, _ | 9, _ | 10, _ | 11, _ => decide +kernel
def ReqMade (w : World) (e : Ending) (w' : World) : Prop := ∃ (m t : ByteArray) (fa : Option Addr) (fc : Nat) (fs : Fls) (ba : Option Addr) (bn bc : Nat), e = .returned (.agg #[.string m, .string t, .slice fa fs.length fc, .slice ba bn bc]) ∧ w'.ownsRow w.heap.size 48 2 (.slice fa fs.length fc) fs.length (fieldCells fs) ∧ FewF fs ∧ t.size ≤ 1000000 ∧ Below w.heap.size w w'
set_option maxRecDepth 100000 in
set_option maxHeartbeats 32000000 in
theorem seatReq_any (w : World) (q0 q1 q2 q3 q4 q5 : Nat) (z0 : q0 < 256) (z1 : q1 < 256) (z2 : q2 < 256) (z3 : q3 < 256) (z4 : q4 < 256) (z5 : q5 < 256) :
    Calls Tryz.prog 12 #[.agg #[.int .u8 q0, .int .u8 q1, .int .u8 q2, .int .u8 q3, .int .u8 q4, .int .u8 q5]] w (ReqMade w) := by
  obtain ⟨v0, hv⟩ : ∃ v0, (w.alloc (.cells #[.int .u8 q0, .int .u8 q1, .int .u8 q2, .int .u8 q3, .int .u8 q4, .int .u8 q5] 29)).alloc (.cells #[.string ⟨#[]⟩, .string ⟨#[]⟩, .slice none 0 0, .slice none 0 0] 25) = v0 := ⟨_, rfl⟩
  have hb0 : Below w.heap.size w v0 := by rw [← hv]; exact below_al (below_al (Below.refl _ _) _) _
  have hs0 : v0.heap.size = w.heap.size + 2 := by rw [← hv]; simp
  have hq := (two_reqs w (.cells #[.int .u8 q0, .int .u8 q1, .int .u8 q2, .int .u8 q3, .int .u8 q4, .int .u8 q5] 29) (.cells #[.string ⟨#[]⟩, .string ⟨#[]⟩, .slice none 0 0, .slice none 0 0] 25)).1
  have hz := (two_reqs w (.cells #[.int .u8 q0, .int .u8 q1, .int .u8 q2, .int .u8 q3, .int .u8 q4, .int .u8 q5] 29) (.cells #[.string ⟨#[]⟩, .string ⟨#[]⟩, .slice none 0 0, .slice none 0 0] 25)).2
  rw [hv] at hq hz
  have HQ : Hid (∀ y, Below v0.heap.size v0 y → y.cell? ⟨w.heap.size, 0, none⟩ = some (.int .u8 q0) ∧ y.cell? ⟨w.heap.size, 1, none⟩ = some (.int .u8 q1) ∧ y.cell? ⟨w.heap.size, 2, none⟩ = some (.int .u8 q2) ∧ y.cell? ⟨w.heap.size, 3, none⟩ = some (.int .u8 q3) ∧ y.cell? ⟨w.heap.size, 4, none⟩ = some (.int .u8 q4) ∧ y.cell? ⟨w.heap.size, 5, none⟩ = some (.int .u8 q5)) := Lib.hid (fun y hy => six_at (stood3 hy hq))
  have HZ : Hid (∀ y, Below v0.heap.size v0 y → y.heap[w.heap.size + 1]? = some (.cells #[.string ⟨#[]⟩, .string ⟨#[]⟩, .slice none 0 0, .slice none 0 0] 25 (0, 0))) := Lib.hid (fun y hy => stood3 hy hz)
  obtain ⟨a1, ha1⟩ : ∃ k, q1 % 10 = k := ⟨_, rfl⟩
  obtain ⟨a0, ha0⟩ : ∃ k, q0 % 4 = k := ⟨_, rfl⟩
  obtain ⟨b0, hb0'⟩ : ∃ k, q0 / 4 = k := ⟨_, rfl⟩
  obtain ⟨c0, hc0⟩ : ∃ k, b0 % 3 = k := ⟨_, rfl⟩
  obtain ⟨s2, hs2⟩ : ∃ k, q2 % 12 = k := ⟨_, rfl⟩
  obtain ⟨k3, hk3⟩ : ∃ k, q3 % 6 = k := ⟨_, rfl⟩
  obtain ⟨k4, hk4⟩ : ∃ k, q4 % 9 = k := ⟨_, rfl⟩
  obtain ⟨k5, hk5⟩ : ∃ k, q5 % 11 = k := ⟨_, rfl⟩
  have l1 : a1 < 10 := by omega
  have l0 : a0 < 4 := by omega
  have lc : c0 < 3 := by omega
  have l2 : s2 < 12 := by omega
  obtain ⟨M, hM⟩ : ∃ M, methB a1 = M := ⟨_, rfl⟩
  obtain ⟨P, hP⟩ : ∃ M, pathB a0 = M := ⟨_, rfl⟩
  obtain ⟨HB_, hHB⟩ : ∃ M, hostB c0 = M := ⟨_, rfl⟩
  obtain ⟨SV, hSV⟩ : ∃ M, saysB s2 = M := ⟨_, rfl⟩
  have MC := Lib.hid (fun x => hM ▸ meth_cell x a1 l1)
  have PC := Lib.hid (fun x => hP ▸ path_cell x a0 l0)
  have HC := Lib.hid (fun x => hHB ▸ host_cell x c0 lc)
  have hsv := fun x => hSV ▸ says_cell x s2 l2
  have SVC := Lib.hid hsv
  have zP : Hid (P.size ≤ 1000000) := Lib.hid (by have := path_small a0 l0; rw [hP] at this; omega)
  have zHB : Hid (HB_.size ≤ 1000) := Lib.hid (by have := host_small c0 lc; rw [hHB] at this; omega)
  have zSV : Hid (SV.size ≤ 1000) := Lib.hid (by have := says_small s2 l2; rw [hSV] at this; omega)
  have m1 : (q1 : Int) % 10 = (a1 : Int) := by omega
  have m1t : (q1 : Int).tmod 10 = (a1 : Int) := by rw [Int.tmod_eq_emod_of_nonneg (by omega)]; omega
  have m0 : (q0 : Int) % 4 = (a0 : Int) := by omega
  have m0t : (q0 : Int).tmod 4 = (a0 : Int) := by rw [Int.tmod_eq_emod_of_nonneg (by omega)]; omega
  have mc : (b0 : Int) % 3 = (c0 : Int) := by omega
  have mct : (b0 : Int).tmod 3 = (c0 : Int) := by rw [Int.tmod_eq_emod_of_nonneg (by omega)]; omega
  have m2 : (q2 : Int) % 12 = (s2 : Int) := by omega
  have m2t : (q2 : Int).tmod 12 = (s2 : Int) := by rw [Int.tmod_eq_emod_of_nonneg (by omega)]; omega
  have m3 : (q3 : Int) % 6 = (k3 : Int) := by omega
  have m3t : (q3 : Int).tmod 6 = (k3 : Int) := by rw [Int.tmod_eq_emod_of_nonneg (by omega)]; omega
  have m4 : (q4 : Int) % 9 = (k4 : Int) := by omega
  have m4t : (q4 : Int).tmod 9 = (k4 : Int) := by rw [Int.tmod_eq_emod_of_nonneg (by omega)]; omega
  have m5 : (q5 : Int) % 11 = (k5 : Int) := by omega
  have m5t : (q5 : Int).tmod 11 = (k5 : Int) := by rw [Int.tmod_eq_emod_of_nonneg (by omega)]; omega
  have d0 : (q0 : Int) / 4 = (b0 : Int) := by omega
  have d0t : (q0 : Int).tdiv 4 = (b0 : Int) := by rw [Int.tdiv_eq_ediv_of_nonneg (by omega)]; omega
  have d0w : IntKind.u8.wrap (b0 : Int) = (b0 : Int) := by rw [IntKind.wrap_u8]; omega
  have i1 : (a1 : Int) < 10 := by omega
  have i0 : (a0 : Int) < 4 := by omega
  have ic : (c0 : Int) < 3 := by omega
  have i2 : (s2 : Int) < 12 := by omega
  have i5 : (k5 : Int) ≤ 10 := by omega
  have HV := Lib.hid hv
  have HB0 := Lib.hid hb0
  have HS0 := Lib.hid hs0
  have hq0 := (HQ.out v0.drew ((Below.refl _ _).drew))
  clear hv hb0 hs0 hq hz ha1 ha0 hb0' hc0 hs2 hk3 hk4 hk5 l1 l0 lc l2 hM hP hHB hSV hsv z0 z1 z2 z3 z4 z5
  unfold ReqMade
  go_enter Tryz.func12, Tryz.ntmps12
  go_upto_region 1 with (fail)
  change Code.wp _ _ _ _ ((w.alloc (.cells #[.int .u8 q0, .int .u8 q1, .int .u8 q2, .int .u8 q3, .int .u8 q4, .int .u8 q5] 29)).alloc (.cells #[.string ⟨#[]⟩, .string ⟨#[]⟩, .slice none 0 0, .slice none 0 0] 25))
  rw [HV.out]
  go_cut [3] (fun s3 wx => ∃ p : Nat, s3 = .pointer (some ⟨p, 0, none⟩) ∧ Hid (v0.heap.size ≤ p) ∧ Hid (Msg 25 p 0 wx (.string M) (.string P) (.slice none 0 0) (.slice none 0 0) []) ∧ Hid (Below v0.heap.size v0 wx))
  case first =>
    refine wp_region_held_drew (S := fun x => (x.cell? ⟨w.heap.size, 1, none⟩ = some (.int .u8 q1) ∧ x.cell? ⟨w.heap.size, 0, none⟩ = some (.int .u8 q0))) (by kernel_rfl) ⟨hq0.2.1, hq0.1⟩ (fun hH => ?_)
    refine wpAnyH_takeTo (i := 1) (d := some 6) (v := .pointer (some ⟨w.heap.size, 1, none⟩)) rfl rfl (by kernel_rfl) (by kernel_rfl) (by kernel_rfl) (fun _ _ _ h => h) (Or.inl ⟨by rfl, fun x hx => ?_⟩) hH ?_
    · obtain ⟨f0, f1⟩ := hx
      go_simp
    try simp only [Act.put, List.setIfInBounds_toArray, List.set_cons_zero, List.set_cons_succ]
    refine wpAnyH_takeTo (i := 2) (d := some 7) (v := .int .u8 q1) rfl rfl (by kernel_rfl) (by kernel_rfl) (by kernel_rfl) (fun _ _ _ h => h) (Or.inl ⟨by rfl, fun x hx => ?_⟩) hH ?_
    · obtain ⟨f0, f1⟩ := hx
      go_simp
    try simp only [Act.put, List.setIfInBounds_toArray, List.set_cons_zero, List.set_cons_succ]
    refine wpAnyH_takeTo (i := 3) (d := some 8) (v := .int .u8 a1) rfl rfl (by kernel_rfl) (by kernel_rfl) (by kernel_rfl) (fun _ _ _ h => h) (Or.inl ⟨by rfl, fun x hx => ?_⟩) hH ?_
    · obtain ⟨f0, f1⟩ := hx
      go_simp
    try simp only [Act.put, List.setIfInBounds_toArray, List.set_cons_zero, List.set_cons_succ]
    refine wpAnyH_takeTo (i := 7) (d := some 12) (v := .pointer (some ⟨w.heap.size, 0, none⟩)) rfl rfl (by kernel_rfl) (by kernel_rfl) (by kernel_rfl) (fun _ _ _ h => h) (Or.inl ⟨by rfl, fun x hx => ?_⟩) hH ?_
    · obtain ⟨f0, f1⟩ := hx
      go_simp
    try simp only [Act.put, List.setIfInBounds_toArray, List.set_cons_zero, List.set_cons_succ]
    refine wpAnyH_takeTo (i := 8) (d := some 13) (v := .int .u8 q0) rfl rfl (by kernel_rfl) (by kernel_rfl) (by kernel_rfl) (fun _ _ _ h => h) (Or.inl ⟨by rfl, fun x hx => ?_⟩) hH ?_
    · obtain ⟨f0, f1⟩ := hx
      go_simp
    try simp only [Act.put, List.setIfInBounds_toArray, List.set_cons_zero, List.set_cons_succ]
    refine wpAnyH_takeTo (i := 9) (d := some 14) (v := .int .u8 a0) rfl rfl (by kernel_rfl) (by kernel_rfl) (by kernel_rfl) (fun _ _ _ h => h) (Or.inl ⟨by rfl, fun x hx => ?_⟩) hH ?_
    · obtain ⟨f0, f1⟩ := hx
      go_simp
    try simp only [Act.put, List.setIfInBounds_toArray, List.set_cons_zero, List.set_cons_succ]
    obtain ⟨y0_, hy0⟩ : ∃ y, v0.drew = y := ⟨_, rfl⟩
    have HBy0_ : Hid (Below v0.heap.size v0 y0_) := Lib.hid (by rw [← hy0]; exact (Below.refl _ _).drew)
    rw [hy0] at hH ⊢
    clear hy0 hq0
    refine wpAnyH_ready (rs := [0, 6, 13]) (by kernel_rfl) (by simp) (AllReadyH.cons rfl (fun K hK => ?_) (AllReadyH.cons rfl (fun K hK => ?_) (AllReadyH.cons rfl (fun K hK => ?_) AllReadyH.nil)))
    · rw [if_pos (by rfl)]
      go_simp
      obtain ⟨y1, hy⟩ : ∃ y, y0_.alloc (.cells #[.string ⟨#[71, 69, 84]⟩, .string ⟨#[71, 69, 84]⟩, .string ⟨#[71, 69, 84]⟩, .string ⟨#[71, 69, 84]⟩, .string ⟨#[71, 69, 84]⟩, .string ⟨#[72, 69, 65, 68]⟩, .string ⟨#[80, 79, 83, 84]⟩, .string ⟨#[68, 69, 76, 69, 84, 69]⟩, .string ⟨#[71, 69, 84]⟩, .string ⟨#[71, 69, 84]⟩] 9) = y := ⟨_, rfl⟩
      have hbn : Below v0.heap.size v0 y1 := by rw [← hy]; exact HBy0_.out.alloc HBy0_.out.size _
      have HZy1 : Hid (y1.heap.size = y0_.heap.size + 1) := Lib.hid (by rw [← hy]; simp)
      have hSy : (y1.cell? ⟨w.heap.size, 1, none⟩ = some (.int .u8 q1) ∧ y1.cell? ⟨w.heap.size, 0, none⟩ = some (.int .u8 q0)) := by rw [← hy]; exact ⟨cell_al hH.1 _, cell_al hH.2 _⟩
      have hc := MC.out y0_
      rw [hy] at hc
      have HBy1 := Lib.hid hbn
      change K _ (y0_.alloc (.cells #[.string ⟨#[71, 69, 84]⟩, .string ⟨#[71, 69, 84]⟩, .string ⟨#[71, 69, 84]⟩, .string ⟨#[71, 69, 84]⟩, .string ⟨#[71, 69, 84]⟩, .string ⟨#[72, 69, 65, 68]⟩, .string ⟨#[80, 79, 83, 84]⟩, .string ⟨#[68, 69, 76, 69, 84, 69]⟩, .string ⟨#[71, 69, 84]⟩, .string ⟨#[71, 69, 84]⟩] 9))
      rw [hy]
      refine hK.out _ _ hSy (fun hH => ?_)
      clear hK K hy hbn
      try simp only [Act.put, List.setIfInBounds_toArray, List.set_cons_zero, List.set_cons_succ]
      refine wpAnyH_more (S' := fun x => ((x.cell? ⟨w.heap.size, 1, none⟩ = some (.int .u8 q1) ∧ x.cell? ⟨w.heap.size, 0, none⟩ = some (.int .u8 q0)) ∧ x.cell? ⟨y0_.heap.size, a1, none⟩ = some (.string M))) (fun _ h => h.1) _ _ _ _ ?_
      have hH := And.intro hSy hc
      clear hSy hc
      refine wpAnyH_takeTo (i := 4) (d := some 9) (v := .pointer (some ⟨y0_.heap.size, a1, none⟩)) rfl rfl (by kernel_rfl) (by kernel_rfl) (by kernel_rfl) (fun _ _ _ h => h) (Or.inl ⟨by rfl, fun x hx => ?_⟩) hH ?_
      · obtain ⟨⟨f0, f1⟩, f2⟩ := hx
        go_simp
      try simp only [Act.put, List.setIfInBounds_toArray, List.set_cons_zero, List.set_cons_succ]
      refine wpAnyH_takeTo (i := 5) (d := some 10) (v := .string M) rfl rfl (by kernel_rfl) (by kernel_rfl) (by kernel_rfl) (fun _ _ _ h => h) (Or.inl ⟨by rfl, fun x hx => ?_⟩) hH ?_
      · obtain ⟨⟨f0, f1⟩, f2⟩ := hx
        go_simp
      try simp only [Act.put, List.setIfInBounds_toArray, List.set_cons_zero, List.set_cons_succ]
      refine wpAnyH_ready (rs := [6, 13]) (by kernel_rfl) (by simp) (AllReadyH.cons rfl (fun K hK => ?_) (AllReadyH.cons rfl (fun K hK => ?_) AllReadyH.nil))
      · rw [if_pos (by rfl)]
        go_simp
        obtain ⟨y2, hy⟩ : ∃ y, y1.alloc (.cells #[.string ⟨#[47]⟩, .string ⟨#[47, 97]⟩, .string ⟨#[47, 98]⟩, .string ⟨#[47, 99, 63, 100]⟩] 9) = y := ⟨_, rfl⟩
        have hbn : Below v0.heap.size v0 y2 := by rw [← hy]; exact HBy1.out.alloc HBy1.out.size _
        have HZy2 : Hid (y2.heap.size = y1.heap.size + 1) := Lib.hid (by rw [← hy]; simp)
        have hSy : ((y2.cell? ⟨w.heap.size, 1, none⟩ = some (.int .u8 q1) ∧ y2.cell? ⟨w.heap.size, 0, none⟩ = some (.int .u8 q0)) ∧ y2.cell? ⟨y0_.heap.size, a1, none⟩ = some (.string M)) := by rw [← hy]; exact ⟨⟨cell_al hH.1.1 _, cell_al hH.1.2 _⟩, cell_al hH.2 _⟩
        have hc := PC.out y1
        rw [hy] at hc
        have HBy2 := Lib.hid hbn
        change K _ (y1.alloc (.cells #[.string ⟨#[47]⟩, .string ⟨#[47, 97]⟩, .string ⟨#[47, 98]⟩, .string ⟨#[47, 99, 63, 100]⟩] 9))
        rw [hy]
        refine hK.out _ _ hSy (fun hH => ?_)
        clear hK K hy hbn
        try simp only [Act.put, List.setIfInBounds_toArray, List.set_cons_zero, List.set_cons_succ]
        refine wpAnyH_more (S' := fun x => (((x.cell? ⟨w.heap.size, 1, none⟩ = some (.int .u8 q1) ∧ x.cell? ⟨w.heap.size, 0, none⟩ = some (.int .u8 q0)) ∧ x.cell? ⟨y0_.heap.size, a1, none⟩ = some (.string M)) ∧ x.cell? ⟨y1.heap.size, a0, none⟩ = some (.string P))) (fun _ h => h.1) _ _ _ _ ?_
        have hH := And.intro hSy hc
        clear hSy hc
        refine wpAnyH_takeTo (i := 10) (d := some 15) (v := .pointer (some ⟨y1.heap.size, a0, none⟩)) rfl rfl (by kernel_rfl) (by kernel_rfl) (by kernel_rfl) (fun _ _ _ h => h) (Or.inl ⟨by rfl, fun x hx => ?_⟩) hH ?_
        · obtain ⟨⟨⟨f0, f1⟩, f2⟩, f3⟩ := hx
          go_simp
        try simp only [Act.put, List.setIfInBounds_toArray, List.set_cons_zero, List.set_cons_succ]
        refine wpAnyH_takeTo (i := 11) (d := some 16) (v := .string P) rfl rfl (by kernel_rfl) (by kernel_rfl) (by kernel_rfl) (fun _ _ _ h => h) (Or.inl ⟨by rfl, fun x hx => ?_⟩) hH ?_
        · obtain ⟨⟨⟨f0, f1⟩, f2⟩, f3⟩ := hx
          go_simp
        try simp only [Act.put, List.setIfInBounds_toArray, List.set_cons_zero, List.set_cons_succ]
        refine wpAnyH_takeTo (i := 12) (d := some 17) (v := .agg #[.string M, .string P, .slice none 0 0, .slice none 0 0]) rfl rfl (by kernel_rfl) (by kernel_rfl) (by kernel_rfl) (fun _ _ _ h => h) (Or.inl ⟨by rfl, fun x hx => ?_⟩) hH ?_
        · obtain ⟨⟨⟨f0, f1⟩, f2⟩, f3⟩ := hx
          go_simp
        try simp only [Act.put, List.setIfInBounds_toArray, List.set_cons_zero, List.set_cons_succ]
        refine wpAnyH_ready (rs := [13]) (by kernel_rfl) (by simp) (AllReadyH.cons rfl (fun K hK => ?_) AllReadyH.nil)
        · rw [if_pos (by rfl)]
          go_simp
          obtain ⟨y3, hy⟩ : ∃ y, y2.alloc (.cells #[.string ⟨#[]⟩, .string ⟨#[]⟩, .slice none 0 0, .slice none 0 0] 25) = y := ⟨_, rfl⟩
          have hbn : Below v0.heap.size v0 y3 := by rw [← hy]; exact HBy2.out.alloc HBy2.out.size _
          have HZy3 : Hid (y3.heap.size = y2.heap.size + 1) := Lib.hid (by rw [← hy]; simp)
          have hSy : (((y3.cell? ⟨w.heap.size, 1, none⟩ = some (.int .u8 q1) ∧ y3.cell? ⟨w.heap.size, 0, none⟩ = some (.int .u8 q0)) ∧ y3.cell? ⟨y0_.heap.size, a1, none⟩ = some (.string M)) ∧ y3.cell? ⟨y1.heap.size, a0, none⟩ = some (.string P)) := by rw [← hy]; exact ⟨⟨⟨cell_al hH.1.1.1 _, cell_al hH.1.1.2 _⟩, cell_al hH.1.2 _⟩, cell_al hH.2 _⟩
          have HPy3 : Hid (y3.heap[y2.heap.size]? = some (.cells #[.string ⟨#[]⟩, .string ⟨#[]⟩, .slice none 0 0, .slice none 0 0] 25 (0, 0))) := Lib.hid (by rw [← hy]; exact heap_alloc_new _ _)
          have HBy3 := Lib.hid hbn
          change K _ (y2.alloc (.cells #[.string ⟨#[]⟩, .string ⟨#[]⟩, .slice none 0 0, .slice none 0 0] 25))
          rw [hy]
          refine hK.out _ _ hSy (fun hH => ?_)
          clear hK K hy hbn
          try simp only [Act.put, List.setIfInBounds_toArray, List.set_cons_zero, List.set_cons_succ]
          have hH := hSy
          clear hSy
          have hp0 : v0.heap.size ≤ y2.heap.size := HBy2.out.size
          have hs0 := HS0.out
          have hS1 : ((((y3.setCells (y2.heap.size) 0 (#[.string M, .string P, .slice none 0 0, .slice none 0 0] : Array Value).toList).cell? ⟨w.heap.size, 1, none⟩ = some (.int .u8 q1) ∧ (y3.setCells (y2.heap.size) 0 (#[.string M, .string P, .slice none 0 0, .slice none 0 0] : Array Value).toList).cell? ⟨w.heap.size, 0, none⟩ = some (.int .u8 q0)) ∧ (y3.setCells (y2.heap.size) 0 (#[.string M, .string P, .slice none 0 0, .slice none 0 0] : Array Value).toList).cell? ⟨y0_.heap.size, a1, none⟩ = some (.string M)) ∧ (y3.setCells (y2.heap.size) 0 (#[.string M, .string P, .slice none 0 0, .slice none 0 0] : Array Value).toList).cell? ⟨y1.heap.size, a0, none⟩ = some (.string P)) := by
            have := HZy1.out
            have := HZy2.out
            have := HZy3.out
            exact ⟨⟨⟨(cell_setCells_far _ _ _ (by omega)).trans hH.1.1.1, (cell_setCells_far _ _ _ (by omega)).trans hH.1.1.2⟩, (cell_setCells_far _ _ _ (by omega)).trans hH.1.2⟩, (cell_setCells_far _ _ _ (by omega)).trans hH.2⟩
          refine wpAnyH_storeTo (i := 14) (by kernel_rfl) rfl rfl (by rfl) 25 (.tmp 3) (.tmp 17) rfl (y2.heap.size) 0 (#[.string M, .string P, .slice none 0 0, .slice none 0 0]) rfl rfl (there_of HPy3.out 0 4 (by simp)) (by kernel_rfl) (by simp [Value.oneCell']) hS1 ?_
          refine wpAnyH_done (by kernel_rfl) ?_ _
          go_wp2_with fail
          go_meet
          exact ⟨_, rfl, Lib.hid hp0, Lib.hid ⟨heap_setCells (g := y2.heap.size) (t := 25) [.string M, .string P, .slice none 0 0, .slice none 0 0] [] [.string ⟨#[]⟩, .string ⟨#[]⟩, .slice none 0 0, .slice none 0 0] [] y3 HPy3.out rfl, World.ownsRow_nil _ _ _ _, Nat.le_refl _, small_nil⟩, Lib.hid (bl_set HBy3.out hp0)⟩
      · rw [if_pos (by rfl)]
        go_simp
        obtain ⟨y4, hy⟩ : ∃ y, y1.alloc (.cells #[.string ⟨#[]⟩, .string ⟨#[]⟩, .slice none 0 0, .slice none 0 0] 25) = y := ⟨_, rfl⟩
        have hbn : Below v0.heap.size v0 y4 := by rw [← hy]; exact HBy1.out.alloc HBy1.out.size _
        have HZy4 : Hid (y4.heap.size = y1.heap.size + 1) := Lib.hid (by rw [← hy]; simp)
        have hSy : ((y4.cell? ⟨w.heap.size, 1, none⟩ = some (.int .u8 q1) ∧ y4.cell? ⟨w.heap.size, 0, none⟩ = some (.int .u8 q0)) ∧ y4.cell? ⟨y0_.heap.size, a1, none⟩ = some (.string M)) := by rw [← hy]; exact ⟨⟨cell_al hH.1.1 _, cell_al hH.1.2 _⟩, cell_al hH.2 _⟩
        have HPy4 : Hid (y4.heap[y1.heap.size]? = some (.cells #[.string ⟨#[]⟩, .string ⟨#[]⟩, .slice none 0 0, .slice none 0 0] 25 (0, 0))) := Lib.hid (by rw [← hy]; exact heap_alloc_new _ _)
        have HBy4 := Lib.hid hbn
        change K _ (y1.alloc (.cells #[.string ⟨#[]⟩, .string ⟨#[]⟩, .slice none 0 0, .slice none 0 0] 25))
        rw [hy]
        refine hK.out _ _ hSy (fun hH => ?_)
        clear hK K hy hbn
        try simp only [Act.put, List.setIfInBounds_toArray, List.set_cons_zero, List.set_cons_succ]
        have hH := hSy
        clear hSy
        refine wpAnyH_ready (rs := [6]) (by kernel_rfl) (by simp) (AllReadyH.cons rfl (fun K hK => ?_) AllReadyH.nil)
        · rw [if_pos (by rfl)]
          go_simp
          obtain ⟨y5, hy⟩ : ∃ y, y4.alloc (.cells #[.string ⟨#[47]⟩, .string ⟨#[47, 97]⟩, .string ⟨#[47, 98]⟩, .string ⟨#[47, 99, 63, 100]⟩] 9) = y := ⟨_, rfl⟩
          have hbn : Below v0.heap.size v0 y5 := by rw [← hy]; exact HBy4.out.alloc HBy4.out.size _
          have HZy5 : Hid (y5.heap.size = y4.heap.size + 1) := Lib.hid (by rw [← hy]; simp)
          have HPy5 : Hid (y5.heap[y1.heap.size]? = some (.cells #[.string ⟨#[]⟩, .string ⟨#[]⟩, .slice none 0 0, .slice none 0 0] 25 (0, 0))) := Lib.hid (by rw [← hy]; exact stood0 HPy4.out)
          have hSy : ((y5.cell? ⟨w.heap.size, 1, none⟩ = some (.int .u8 q1) ∧ y5.cell? ⟨w.heap.size, 0, none⟩ = some (.int .u8 q0)) ∧ y5.cell? ⟨y0_.heap.size, a1, none⟩ = some (.string M)) := by rw [← hy]; exact ⟨⟨cell_al hH.1.1 _, cell_al hH.1.2 _⟩, cell_al hH.2 _⟩
          have hc := PC.out y4
          rw [hy] at hc
          have HBy5 := Lib.hid hbn
          change K _ (y4.alloc (.cells #[.string ⟨#[47]⟩, .string ⟨#[47, 97]⟩, .string ⟨#[47, 98]⟩, .string ⟨#[47, 99, 63, 100]⟩] 9))
          rw [hy]
          refine hK.out _ _ hSy (fun hH => ?_)
          clear hK K hy hbn
          try simp only [Act.put, List.setIfInBounds_toArray, List.set_cons_zero, List.set_cons_succ]
          refine wpAnyH_more (S' := fun x => (((x.cell? ⟨w.heap.size, 1, none⟩ = some (.int .u8 q1) ∧ x.cell? ⟨w.heap.size, 0, none⟩ = some (.int .u8 q0)) ∧ x.cell? ⟨y0_.heap.size, a1, none⟩ = some (.string M)) ∧ x.cell? ⟨y4.heap.size, a0, none⟩ = some (.string P))) (fun _ h => h.1) _ _ _ _ ?_
          have hH := And.intro hSy hc
          clear hSy hc
          refine wpAnyH_takeTo (i := 10) (d := some 15) (v := .pointer (some ⟨y4.heap.size, a0, none⟩)) rfl rfl (by kernel_rfl) (by kernel_rfl) (by kernel_rfl) (fun _ _ _ h => h) (Or.inl ⟨by rfl, fun x hx => ?_⟩) hH ?_
          · obtain ⟨⟨⟨f0, f1⟩, f2⟩, f3⟩ := hx
            go_simp
          try simp only [Act.put, List.setIfInBounds_toArray, List.set_cons_zero, List.set_cons_succ]
          refine wpAnyH_takeTo (i := 11) (d := some 16) (v := .string P) rfl rfl (by kernel_rfl) (by kernel_rfl) (by kernel_rfl) (fun _ _ _ h => h) (Or.inl ⟨by rfl, fun x hx => ?_⟩) hH ?_
          · obtain ⟨⟨⟨f0, f1⟩, f2⟩, f3⟩ := hx
            go_simp
          try simp only [Act.put, List.setIfInBounds_toArray, List.set_cons_zero, List.set_cons_succ]
          refine wpAnyH_takeTo (i := 12) (d := some 17) (v := .agg #[.string M, .string P, .slice none 0 0, .slice none 0 0]) rfl rfl (by kernel_rfl) (by kernel_rfl) (by kernel_rfl) (fun _ _ _ h => h) (Or.inl ⟨by rfl, fun x hx => ?_⟩) hH ?_
          · obtain ⟨⟨⟨f0, f1⟩, f2⟩, f3⟩ := hx
            go_simp
          try simp only [Act.put, List.setIfInBounds_toArray, List.set_cons_zero, List.set_cons_succ]
          have hp0 : v0.heap.size ≤ y1.heap.size := HBy1.out.size
          have hs0 := HS0.out
          have hS1 : ((((y5.setCells (y1.heap.size) 0 (#[.string M, .string P, .slice none 0 0, .slice none 0 0] : Array Value).toList).cell? ⟨w.heap.size, 1, none⟩ = some (.int .u8 q1) ∧ (y5.setCells (y1.heap.size) 0 (#[.string M, .string P, .slice none 0 0, .slice none 0 0] : Array Value).toList).cell? ⟨w.heap.size, 0, none⟩ = some (.int .u8 q0)) ∧ (y5.setCells (y1.heap.size) 0 (#[.string M, .string P, .slice none 0 0, .slice none 0 0] : Array Value).toList).cell? ⟨y0_.heap.size, a1, none⟩ = some (.string M)) ∧ (y5.setCells (y1.heap.size) 0 (#[.string M, .string P, .slice none 0 0, .slice none 0 0] : Array Value).toList).cell? ⟨y4.heap.size, a0, none⟩ = some (.string P)) := by
            have := HZy1.out
            have := HZy4.out
            have := HZy5.out
            exact ⟨⟨⟨(cell_setCells_far _ _ _ (by omega)).trans hH.1.1.1, (cell_setCells_far _ _ _ (by omega)).trans hH.1.1.2⟩, (cell_setCells_far _ _ _ (by omega)).trans hH.1.2⟩, (cell_setCells_far _ _ _ (by omega)).trans hH.2⟩
          refine wpAnyH_storeTo (i := 14) (by kernel_rfl) rfl rfl (by rfl) 25 (.tmp 3) (.tmp 17) rfl (y1.heap.size) 0 (#[.string M, .string P, .slice none 0 0, .slice none 0 0]) rfl rfl (there_of HPy5.out 0 4 (by simp)) (by kernel_rfl) (by simp [Value.oneCell']) hS1 ?_
          refine wpAnyH_done (by kernel_rfl) ?_ _
          go_wp2_with fail
          go_meet
          exact ⟨_, rfl, Lib.hid hp0, Lib.hid ⟨heap_setCells (g := y1.heap.size) (t := 25) [.string M, .string P, .slice none 0 0, .slice none 0 0] [] [.string ⟨#[]⟩, .string ⟨#[]⟩, .slice none 0 0, .slice none 0 0] [] y5 HPy5.out rfl, World.ownsRow_nil _ _ _ _, Nat.le_refl _, small_nil⟩, Lib.hid (bl_set HBy5.out hp0)⟩
    · rw [if_pos (by rfl)]
      go_simp
      obtain ⟨y6, hy⟩ : ∃ y, y0_.alloc (.cells #[.string ⟨#[47]⟩, .string ⟨#[47, 97]⟩, .string ⟨#[47, 98]⟩, .string ⟨#[47, 99, 63, 100]⟩] 9) = y := ⟨_, rfl⟩
      have hbn : Below v0.heap.size v0 y6 := by rw [← hy]; exact HBy0_.out.alloc HBy0_.out.size _
      have HZy6 : Hid (y6.heap.size = y0_.heap.size + 1) := Lib.hid (by rw [← hy]; simp)
      have hSy : (y6.cell? ⟨w.heap.size, 1, none⟩ = some (.int .u8 q1) ∧ y6.cell? ⟨w.heap.size, 0, none⟩ = some (.int .u8 q0)) := by rw [← hy]; exact ⟨cell_al hH.1 _, cell_al hH.2 _⟩
      have hc := PC.out y0_
      rw [hy] at hc
      have HBy6 := Lib.hid hbn
      change K _ (y0_.alloc (.cells #[.string ⟨#[47]⟩, .string ⟨#[47, 97]⟩, .string ⟨#[47, 98]⟩, .string ⟨#[47, 99, 63, 100]⟩] 9))
      rw [hy]
      refine hK.out _ _ hSy (fun hH => ?_)
      clear hK K hy hbn
      try simp only [Act.put, List.setIfInBounds_toArray, List.set_cons_zero, List.set_cons_succ]
      refine wpAnyH_more (S' := fun x => ((x.cell? ⟨w.heap.size, 1, none⟩ = some (.int .u8 q1) ∧ x.cell? ⟨w.heap.size, 0, none⟩ = some (.int .u8 q0)) ∧ x.cell? ⟨y0_.heap.size, a0, none⟩ = some (.string P))) (fun _ h => h.1) _ _ _ _ ?_
      have hH := And.intro hSy hc
      clear hSy hc
      refine wpAnyH_takeTo (i := 10) (d := some 15) (v := .pointer (some ⟨y0_.heap.size, a0, none⟩)) rfl rfl (by kernel_rfl) (by kernel_rfl) (by kernel_rfl) (fun _ _ _ h => h) (Or.inl ⟨by rfl, fun x hx => ?_⟩) hH ?_
      · obtain ⟨⟨f0, f1⟩, f2⟩ := hx
        go_simp
      try simp only [Act.put, List.setIfInBounds_toArray, List.set_cons_zero, List.set_cons_succ]
      refine wpAnyH_takeTo (i := 11) (d := some 16) (v := .string P) rfl rfl (by kernel_rfl) (by kernel_rfl) (by kernel_rfl) (fun _ _ _ h => h) (Or.inl ⟨by rfl, fun x hx => ?_⟩) hH ?_
      · obtain ⟨⟨f0, f1⟩, f2⟩ := hx
        go_simp
      try simp only [Act.put, List.setIfInBounds_toArray, List.set_cons_zero, List.set_cons_succ]
      refine wpAnyH_ready (rs := [0, 13]) (by kernel_rfl) (by simp) (AllReadyH.cons rfl (fun K hK => ?_) (AllReadyH.cons rfl (fun K hK => ?_) AllReadyH.nil))
      · rw [if_pos (by rfl)]
        go_simp
        obtain ⟨y7, hy⟩ : ∃ y, y6.alloc (.cells #[.string ⟨#[71, 69, 84]⟩, .string ⟨#[71, 69, 84]⟩, .string ⟨#[71, 69, 84]⟩, .string ⟨#[71, 69, 84]⟩, .string ⟨#[71, 69, 84]⟩, .string ⟨#[72, 69, 65, 68]⟩, .string ⟨#[80, 79, 83, 84]⟩, .string ⟨#[68, 69, 76, 69, 84, 69]⟩, .string ⟨#[71, 69, 84]⟩, .string ⟨#[71, 69, 84]⟩] 9) = y := ⟨_, rfl⟩
        have hbn : Below v0.heap.size v0 y7 := by rw [← hy]; exact HBy6.out.alloc HBy6.out.size _
        have HZy7 : Hid (y7.heap.size = y6.heap.size + 1) := Lib.hid (by rw [← hy]; simp)
        have hSy : ((y7.cell? ⟨w.heap.size, 1, none⟩ = some (.int .u8 q1) ∧ y7.cell? ⟨w.heap.size, 0, none⟩ = some (.int .u8 q0)) ∧ y7.cell? ⟨y0_.heap.size, a0, none⟩ = some (.string P)) := by rw [← hy]; exact ⟨⟨cell_al hH.1.1 _, cell_al hH.1.2 _⟩, cell_al hH.2 _⟩
        have hc := MC.out y6
        rw [hy] at hc
        have HBy7 := Lib.hid hbn
        change K _ (y6.alloc (.cells #[.string ⟨#[71, 69, 84]⟩, .string ⟨#[71, 69, 84]⟩, .string ⟨#[71, 69, 84]⟩, .string ⟨#[71, 69, 84]⟩, .string ⟨#[71, 69, 84]⟩, .string ⟨#[72, 69, 65, 68]⟩, .string ⟨#[80, 79, 83, 84]⟩, .string ⟨#[68, 69, 76, 69, 84, 69]⟩, .string ⟨#[71, 69, 84]⟩, .string ⟨#[71, 69, 84]⟩] 9))
        rw [hy]
        refine hK.out _ _ hSy (fun hH => ?_)
        clear hK K hy hbn
        try simp only [Act.put, List.setIfInBounds_toArray, List.set_cons_zero, List.set_cons_succ]
        refine wpAnyH_more (S' := fun x => (((x.cell? ⟨w.heap.size, 1, none⟩ = some (.int .u8 q1) ∧ x.cell? ⟨w.heap.size, 0, none⟩ = some (.int .u8 q0)) ∧ x.cell? ⟨y0_.heap.size, a0, none⟩ = some (.string P)) ∧ x.cell? ⟨y6.heap.size, a1, none⟩ = some (.string M))) (fun _ h => h.1) _ _ _ _ ?_
        have hH := And.intro hSy hc
        clear hSy hc
        refine wpAnyH_takeTo (i := 4) (d := some 9) (v := .pointer (some ⟨y6.heap.size, a1, none⟩)) rfl rfl (by kernel_rfl) (by kernel_rfl) (by kernel_rfl) (fun _ _ _ h => h) (Or.inl ⟨by rfl, fun x hx => ?_⟩) hH ?_
        · obtain ⟨⟨⟨f0, f1⟩, f2⟩, f3⟩ := hx
          go_simp
        try simp only [Act.put, List.setIfInBounds_toArray, List.set_cons_zero, List.set_cons_succ]
        refine wpAnyH_takeTo (i := 5) (d := some 10) (v := .string M) rfl rfl (by kernel_rfl) (by kernel_rfl) (by kernel_rfl) (fun _ _ _ h => h) (Or.inl ⟨by rfl, fun x hx => ?_⟩) hH ?_
        · obtain ⟨⟨⟨f0, f1⟩, f2⟩, f3⟩ := hx
          go_simp
        try simp only [Act.put, List.setIfInBounds_toArray, List.set_cons_zero, List.set_cons_succ]
        refine wpAnyH_takeTo (i := 12) (d := some 17) (v := .agg #[.string M, .string P, .slice none 0 0, .slice none 0 0]) rfl rfl (by kernel_rfl) (by kernel_rfl) (by kernel_rfl) (fun _ _ _ h => h) (Or.inl ⟨by rfl, fun x hx => ?_⟩) hH ?_
        · obtain ⟨⟨⟨f0, f1⟩, f2⟩, f3⟩ := hx
          go_simp
        try simp only [Act.put, List.setIfInBounds_toArray, List.set_cons_zero, List.set_cons_succ]
        refine wpAnyH_ready (rs := [13]) (by kernel_rfl) (by simp) (AllReadyH.cons rfl (fun K hK => ?_) AllReadyH.nil)
        · rw [if_pos (by rfl)]
          go_simp
          obtain ⟨y8, hy⟩ : ∃ y, y7.alloc (.cells #[.string ⟨#[]⟩, .string ⟨#[]⟩, .slice none 0 0, .slice none 0 0] 25) = y := ⟨_, rfl⟩
          have hbn : Below v0.heap.size v0 y8 := by rw [← hy]; exact HBy7.out.alloc HBy7.out.size _
          have HZy8 : Hid (y8.heap.size = y7.heap.size + 1) := Lib.hid (by rw [← hy]; simp)
          have hSy : (((y8.cell? ⟨w.heap.size, 1, none⟩ = some (.int .u8 q1) ∧ y8.cell? ⟨w.heap.size, 0, none⟩ = some (.int .u8 q0)) ∧ y8.cell? ⟨y0_.heap.size, a0, none⟩ = some (.string P)) ∧ y8.cell? ⟨y6.heap.size, a1, none⟩ = some (.string M)) := by rw [← hy]; exact ⟨⟨⟨cell_al hH.1.1.1 _, cell_al hH.1.1.2 _⟩, cell_al hH.1.2 _⟩, cell_al hH.2 _⟩
          have HPy8 : Hid (y8.heap[y7.heap.size]? = some (.cells #[.string ⟨#[]⟩, .string ⟨#[]⟩, .slice none 0 0, .slice none 0 0] 25 (0, 0))) := Lib.hid (by rw [← hy]; exact heap_alloc_new _ _)
          have HBy8 := Lib.hid hbn
          change K _ (y7.alloc (.cells #[.string ⟨#[]⟩, .string ⟨#[]⟩, .slice none 0 0, .slice none 0 0] 25))
          rw [hy]
          refine hK.out _ _ hSy (fun hH => ?_)
          clear hK K hy hbn
          try simp only [Act.put, List.setIfInBounds_toArray, List.set_cons_zero, List.set_cons_succ]
          have hH := hSy
          clear hSy
          have hp0 : v0.heap.size ≤ y7.heap.size := HBy7.out.size
          have hs0 := HS0.out
          have hS1 : ((((y8.setCells (y7.heap.size) 0 (#[.string M, .string P, .slice none 0 0, .slice none 0 0] : Array Value).toList).cell? ⟨w.heap.size, 1, none⟩ = some (.int .u8 q1) ∧ (y8.setCells (y7.heap.size) 0 (#[.string M, .string P, .slice none 0 0, .slice none 0 0] : Array Value).toList).cell? ⟨w.heap.size, 0, none⟩ = some (.int .u8 q0)) ∧ (y8.setCells (y7.heap.size) 0 (#[.string M, .string P, .slice none 0 0, .slice none 0 0] : Array Value).toList).cell? ⟨y0_.heap.size, a0, none⟩ = some (.string P)) ∧ (y8.setCells (y7.heap.size) 0 (#[.string M, .string P, .slice none 0 0, .slice none 0 0] : Array Value).toList).cell? ⟨y6.heap.size, a1, none⟩ = some (.string M)) := by
            have := HZy6.out
            have := HZy7.out
            have := HZy8.out
            exact ⟨⟨⟨(cell_setCells_far _ _ _ (by omega)).trans hH.1.1.1, (cell_setCells_far _ _ _ (by omega)).trans hH.1.1.2⟩, (cell_setCells_far _ _ _ (by omega)).trans hH.1.2⟩, (cell_setCells_far _ _ _ (by omega)).trans hH.2⟩
          refine wpAnyH_storeTo (i := 14) (by kernel_rfl) rfl rfl (by rfl) 25 (.tmp 3) (.tmp 17) rfl (y7.heap.size) 0 (#[.string M, .string P, .slice none 0 0, .slice none 0 0]) rfl rfl (there_of HPy8.out 0 4 (by simp)) (by kernel_rfl) (by simp [Value.oneCell']) hS1 ?_
          refine wpAnyH_done (by kernel_rfl) ?_ _
          go_wp2_with fail
          go_meet
          exact ⟨_, rfl, Lib.hid hp0, Lib.hid ⟨heap_setCells (g := y7.heap.size) (t := 25) [.string M, .string P, .slice none 0 0, .slice none 0 0] [] [.string ⟨#[]⟩, .string ⟨#[]⟩, .slice none 0 0, .slice none 0 0] [] y8 HPy8.out rfl, World.ownsRow_nil _ _ _ _, Nat.le_refl _, small_nil⟩, Lib.hid (bl_set HBy8.out hp0)⟩
      · rw [if_pos (by rfl)]
        go_simp
        obtain ⟨y9, hy⟩ : ∃ y, y6.alloc (.cells #[.string ⟨#[]⟩, .string ⟨#[]⟩, .slice none 0 0, .slice none 0 0] 25) = y := ⟨_, rfl⟩
        have hbn : Below v0.heap.size v0 y9 := by rw [← hy]; exact HBy6.out.alloc HBy6.out.size _
        have HZy9 : Hid (y9.heap.size = y6.heap.size + 1) := Lib.hid (by rw [← hy]; simp)
        have hSy : ((y9.cell? ⟨w.heap.size, 1, none⟩ = some (.int .u8 q1) ∧ y9.cell? ⟨w.heap.size, 0, none⟩ = some (.int .u8 q0)) ∧ y9.cell? ⟨y0_.heap.size, a0, none⟩ = some (.string P)) := by rw [← hy]; exact ⟨⟨cell_al hH.1.1 _, cell_al hH.1.2 _⟩, cell_al hH.2 _⟩
        have HPy9 : Hid (y9.heap[y6.heap.size]? = some (.cells #[.string ⟨#[]⟩, .string ⟨#[]⟩, .slice none 0 0, .slice none 0 0] 25 (0, 0))) := Lib.hid (by rw [← hy]; exact heap_alloc_new _ _)
        have HBy9 := Lib.hid hbn
        change K _ (y6.alloc (.cells #[.string ⟨#[]⟩, .string ⟨#[]⟩, .slice none 0 0, .slice none 0 0] 25))
        rw [hy]
        refine hK.out _ _ hSy (fun hH => ?_)
        clear hK K hy hbn
        try simp only [Act.put, List.setIfInBounds_toArray, List.set_cons_zero, List.set_cons_succ]
        have hH := hSy
        clear hSy
        refine wpAnyH_ready (rs := [0]) (by kernel_rfl) (by simp) (AllReadyH.cons rfl (fun K hK => ?_) AllReadyH.nil)
        · rw [if_pos (by rfl)]
          go_simp
          obtain ⟨y10, hy⟩ : ∃ y, y9.alloc (.cells #[.string ⟨#[71, 69, 84]⟩, .string ⟨#[71, 69, 84]⟩, .string ⟨#[71, 69, 84]⟩, .string ⟨#[71, 69, 84]⟩, .string ⟨#[71, 69, 84]⟩, .string ⟨#[72, 69, 65, 68]⟩, .string ⟨#[80, 79, 83, 84]⟩, .string ⟨#[68, 69, 76, 69, 84, 69]⟩, .string ⟨#[71, 69, 84]⟩, .string ⟨#[71, 69, 84]⟩] 9) = y := ⟨_, rfl⟩
          have hbn : Below v0.heap.size v0 y10 := by rw [← hy]; exact HBy9.out.alloc HBy9.out.size _
          have HZy10 : Hid (y10.heap.size = y9.heap.size + 1) := Lib.hid (by rw [← hy]; simp)
          have HPy10 : Hid (y10.heap[y6.heap.size]? = some (.cells #[.string ⟨#[]⟩, .string ⟨#[]⟩, .slice none 0 0, .slice none 0 0] 25 (0, 0))) := Lib.hid (by rw [← hy]; exact stood0 HPy9.out)
          have hSy : ((y10.cell? ⟨w.heap.size, 1, none⟩ = some (.int .u8 q1) ∧ y10.cell? ⟨w.heap.size, 0, none⟩ = some (.int .u8 q0)) ∧ y10.cell? ⟨y0_.heap.size, a0, none⟩ = some (.string P)) := by rw [← hy]; exact ⟨⟨cell_al hH.1.1 _, cell_al hH.1.2 _⟩, cell_al hH.2 _⟩
          have hc := MC.out y9
          rw [hy] at hc
          have HBy10 := Lib.hid hbn
          change K _ (y9.alloc (.cells #[.string ⟨#[71, 69, 84]⟩, .string ⟨#[71, 69, 84]⟩, .string ⟨#[71, 69, 84]⟩, .string ⟨#[71, 69, 84]⟩, .string ⟨#[71, 69, 84]⟩, .string ⟨#[72, 69, 65, 68]⟩, .string ⟨#[80, 79, 83, 84]⟩, .string ⟨#[68, 69, 76, 69, 84, 69]⟩, .string ⟨#[71, 69, 84]⟩, .string ⟨#[71, 69, 84]⟩] 9))
          rw [hy]
          refine hK.out _ _ hSy (fun hH => ?_)
          clear hK K hy hbn
          try simp only [Act.put, List.setIfInBounds_toArray, List.set_cons_zero, List.set_cons_succ]
          refine wpAnyH_more (S' := fun x => (((x.cell? ⟨w.heap.size, 1, none⟩ = some (.int .u8 q1) ∧ x.cell? ⟨w.heap.size, 0, none⟩ = some (.int .u8 q0)) ∧ x.cell? ⟨y0_.heap.size, a0, none⟩ = some (.string P)) ∧ x.cell? ⟨y9.heap.size, a1, none⟩ = some (.string M))) (fun _ h => h.1) _ _ _ _ ?_
          have hH := And.intro hSy hc
          clear hSy hc
          refine wpAnyH_takeTo (i := 4) (d := some 9) (v := .pointer (some ⟨y9.heap.size, a1, none⟩)) rfl rfl (by kernel_rfl) (by kernel_rfl) (by kernel_rfl) (fun _ _ _ h => h) (Or.inl ⟨by rfl, fun x hx => ?_⟩) hH ?_
          · obtain ⟨⟨⟨f0, f1⟩, f2⟩, f3⟩ := hx
            go_simp
          try simp only [Act.put, List.setIfInBounds_toArray, List.set_cons_zero, List.set_cons_succ]
          refine wpAnyH_takeTo (i := 5) (d := some 10) (v := .string M) rfl rfl (by kernel_rfl) (by kernel_rfl) (by kernel_rfl) (fun _ _ _ h => h) (Or.inl ⟨by rfl, fun x hx => ?_⟩) hH ?_
          · obtain ⟨⟨⟨f0, f1⟩, f2⟩, f3⟩ := hx
            go_simp
          try simp only [Act.put, List.setIfInBounds_toArray, List.set_cons_zero, List.set_cons_succ]
          refine wpAnyH_takeTo (i := 12) (d := some 17) (v := .agg #[.string M, .string P, .slice none 0 0, .slice none 0 0]) rfl rfl (by kernel_rfl) (by kernel_rfl) (by kernel_rfl) (fun _ _ _ h => h) (Or.inl ⟨by rfl, fun x hx => ?_⟩) hH ?_
          · obtain ⟨⟨⟨f0, f1⟩, f2⟩, f3⟩ := hx
            go_simp
          try simp only [Act.put, List.setIfInBounds_toArray, List.set_cons_zero, List.set_cons_succ]
          have hp0 : v0.heap.size ≤ y6.heap.size := HBy6.out.size
          have hs0 := HS0.out
          have hS1 : ((((y10.setCells (y6.heap.size) 0 (#[.string M, .string P, .slice none 0 0, .slice none 0 0] : Array Value).toList).cell? ⟨w.heap.size, 1, none⟩ = some (.int .u8 q1) ∧ (y10.setCells (y6.heap.size) 0 (#[.string M, .string P, .slice none 0 0, .slice none 0 0] : Array Value).toList).cell? ⟨w.heap.size, 0, none⟩ = some (.int .u8 q0)) ∧ (y10.setCells (y6.heap.size) 0 (#[.string M, .string P, .slice none 0 0, .slice none 0 0] : Array Value).toList).cell? ⟨y0_.heap.size, a0, none⟩ = some (.string P)) ∧ (y10.setCells (y6.heap.size) 0 (#[.string M, .string P, .slice none 0 0, .slice none 0 0] : Array Value).toList).cell? ⟨y9.heap.size, a1, none⟩ = some (.string M)) := by
            have := HZy6.out
            have := HZy9.out
            have := HZy10.out
            exact ⟨⟨⟨(cell_setCells_far _ _ _ (by omega)).trans hH.1.1.1, (cell_setCells_far _ _ _ (by omega)).trans hH.1.1.2⟩, (cell_setCells_far _ _ _ (by omega)).trans hH.1.2⟩, (cell_setCells_far _ _ _ (by omega)).trans hH.2⟩
          refine wpAnyH_storeTo (i := 14) (by kernel_rfl) rfl rfl (by rfl) 25 (.tmp 3) (.tmp 17) rfl (y6.heap.size) 0 (#[.string M, .string P, .slice none 0 0, .slice none 0 0]) rfl rfl (there_of HPy10.out 0 4 (by simp)) (by kernel_rfl) (by simp [Value.oneCell']) hS1 ?_
          refine wpAnyH_done (by kernel_rfl) ?_ _
          go_wp2_with fail
          go_meet
          exact ⟨_, rfl, Lib.hid hp0, Lib.hid ⟨heap_setCells (g := y6.heap.size) (t := 25) [.string M, .string P, .slice none 0 0, .slice none 0 0] [] [.string ⟨#[]⟩, .string ⟨#[]⟩, .slice none 0 0, .slice none 0 0] [] y10 HPy10.out rfl, World.ownsRow_nil _ _ _ _, Nat.le_refl _, small_nil⟩, Lib.hid (bl_set HBy10.out hp0)⟩
    · rw [if_pos (by rfl)]
      go_simp
      obtain ⟨y11, hy⟩ : ∃ y, y0_.alloc (.cells #[.string ⟨#[]⟩, .string ⟨#[]⟩, .slice none 0 0, .slice none 0 0] 25) = y := ⟨_, rfl⟩
      have hbn : Below v0.heap.size v0 y11 := by rw [← hy]; exact HBy0_.out.alloc HBy0_.out.size _
      have HZy11 : Hid (y11.heap.size = y0_.heap.size + 1) := Lib.hid (by rw [← hy]; simp)
      have hSy : (y11.cell? ⟨w.heap.size, 1, none⟩ = some (.int .u8 q1) ∧ y11.cell? ⟨w.heap.size, 0, none⟩ = some (.int .u8 q0)) := by rw [← hy]; exact ⟨cell_al hH.1 _, cell_al hH.2 _⟩
      have HPy11 : Hid (y11.heap[y0_.heap.size]? = some (.cells #[.string ⟨#[]⟩, .string ⟨#[]⟩, .slice none 0 0, .slice none 0 0] 25 (0, 0))) := Lib.hid (by rw [← hy]; exact heap_alloc_new _ _)
      have HBy11 := Lib.hid hbn
      change K _ (y0_.alloc (.cells #[.string ⟨#[]⟩, .string ⟨#[]⟩, .slice none 0 0, .slice none 0 0] 25))
      rw [hy]
      refine hK.out _ _ hSy (fun hH => ?_)
      clear hK K hy hbn
      try simp only [Act.put, List.setIfInBounds_toArray, List.set_cons_zero, List.set_cons_succ]
      have hH := hSy
      clear hSy
      refine wpAnyH_ready (rs := [0, 6]) (by kernel_rfl) (by simp) (AllReadyH.cons rfl (fun K hK => ?_) (AllReadyH.cons rfl (fun K hK => ?_) AllReadyH.nil))
      · rw [if_pos (by rfl)]
        go_simp
        obtain ⟨y12, hy⟩ : ∃ y, y11.alloc (.cells #[.string ⟨#[71, 69, 84]⟩, .string ⟨#[71, 69, 84]⟩, .string ⟨#[71, 69, 84]⟩, .string ⟨#[71, 69, 84]⟩, .string ⟨#[71, 69, 84]⟩, .string ⟨#[72, 69, 65, 68]⟩, .string ⟨#[80, 79, 83, 84]⟩, .string ⟨#[68, 69, 76, 69, 84, 69]⟩, .string ⟨#[71, 69, 84]⟩, .string ⟨#[71, 69, 84]⟩] 9) = y := ⟨_, rfl⟩
        have hbn : Below v0.heap.size v0 y12 := by rw [← hy]; exact HBy11.out.alloc HBy11.out.size _
        have HZy12 : Hid (y12.heap.size = y11.heap.size + 1) := Lib.hid (by rw [← hy]; simp)
        have HPy12 : Hid (y12.heap[y0_.heap.size]? = some (.cells #[.string ⟨#[]⟩, .string ⟨#[]⟩, .slice none 0 0, .slice none 0 0] 25 (0, 0))) := Lib.hid (by rw [← hy]; exact stood0 HPy11.out)
        have hSy : (y12.cell? ⟨w.heap.size, 1, none⟩ = some (.int .u8 q1) ∧ y12.cell? ⟨w.heap.size, 0, none⟩ = some (.int .u8 q0)) := by rw [← hy]; exact ⟨cell_al hH.1 _, cell_al hH.2 _⟩
        have hc := MC.out y11
        rw [hy] at hc
        have HBy12 := Lib.hid hbn
        change K _ (y11.alloc (.cells #[.string ⟨#[71, 69, 84]⟩, .string ⟨#[71, 69, 84]⟩, .string ⟨#[71, 69, 84]⟩, .string ⟨#[71, 69, 84]⟩, .string ⟨#[71, 69, 84]⟩, .string ⟨#[72, 69, 65, 68]⟩, .string ⟨#[80, 79, 83, 84]⟩, .string ⟨#[68, 69, 76, 69, 84, 69]⟩, .string ⟨#[71, 69, 84]⟩, .string ⟨#[71, 69, 84]⟩] 9))
        rw [hy]
        refine hK.out _ _ hSy (fun hH => ?_)
        clear hK K hy hbn
        try simp only [Act.put, List.setIfInBounds_toArray, List.set_cons_zero, List.set_cons_succ]
        refine wpAnyH_more (S' := fun x => ((x.cell? ⟨w.heap.size, 1, none⟩ = some (.int .u8 q1) ∧ x.cell? ⟨w.heap.size, 0, none⟩ = some (.int .u8 q0)) ∧ x.cell? ⟨y11.heap.size, a1, none⟩ = some (.string M))) (fun _ h => h.1) _ _ _ _ ?_
        have hH := And.intro hSy hc
        clear hSy hc
        refine wpAnyH_takeTo (i := 4) (d := some 9) (v := .pointer (some ⟨y11.heap.size, a1, none⟩)) rfl rfl (by kernel_rfl) (by kernel_rfl) (by kernel_rfl) (fun _ _ _ h => h) (Or.inl ⟨by rfl, fun x hx => ?_⟩) hH ?_
        · obtain ⟨⟨f0, f1⟩, f2⟩ := hx
          go_simp
        try simp only [Act.put, List.setIfInBounds_toArray, List.set_cons_zero, List.set_cons_succ]
        refine wpAnyH_takeTo (i := 5) (d := some 10) (v := .string M) rfl rfl (by kernel_rfl) (by kernel_rfl) (by kernel_rfl) (fun _ _ _ h => h) (Or.inl ⟨by rfl, fun x hx => ?_⟩) hH ?_
        · obtain ⟨⟨f0, f1⟩, f2⟩ := hx
          go_simp
        try simp only [Act.put, List.setIfInBounds_toArray, List.set_cons_zero, List.set_cons_succ]
        refine wpAnyH_ready (rs := [6]) (by kernel_rfl) (by simp) (AllReadyH.cons rfl (fun K hK => ?_) AllReadyH.nil)
        · rw [if_pos (by rfl)]
          go_simp
          obtain ⟨y13, hy⟩ : ∃ y, y12.alloc (.cells #[.string ⟨#[47]⟩, .string ⟨#[47, 97]⟩, .string ⟨#[47, 98]⟩, .string ⟨#[47, 99, 63, 100]⟩] 9) = y := ⟨_, rfl⟩
          have hbn : Below v0.heap.size v0 y13 := by rw [← hy]; exact HBy12.out.alloc HBy12.out.size _
          have HZy13 : Hid (y13.heap.size = y12.heap.size + 1) := Lib.hid (by rw [← hy]; simp)
          have HPy13 : Hid (y13.heap[y0_.heap.size]? = some (.cells #[.string ⟨#[]⟩, .string ⟨#[]⟩, .slice none 0 0, .slice none 0 0] 25 (0, 0))) := Lib.hid (by rw [← hy]; exact stood0 HPy12.out)
          have hSy : ((y13.cell? ⟨w.heap.size, 1, none⟩ = some (.int .u8 q1) ∧ y13.cell? ⟨w.heap.size, 0, none⟩ = some (.int .u8 q0)) ∧ y13.cell? ⟨y11.heap.size, a1, none⟩ = some (.string M)) := by rw [← hy]; exact ⟨⟨cell_al hH.1.1 _, cell_al hH.1.2 _⟩, cell_al hH.2 _⟩
          have hc := PC.out y12
          rw [hy] at hc
          have HBy13 := Lib.hid hbn
          change K _ (y12.alloc (.cells #[.string ⟨#[47]⟩, .string ⟨#[47, 97]⟩, .string ⟨#[47, 98]⟩, .string ⟨#[47, 99, 63, 100]⟩] 9))
          rw [hy]
          refine hK.out _ _ hSy (fun hH => ?_)
          clear hK K hy hbn
          try simp only [Act.put, List.setIfInBounds_toArray, List.set_cons_zero, List.set_cons_succ]
          refine wpAnyH_more (S' := fun x => (((x.cell? ⟨w.heap.size, 1, none⟩ = some (.int .u8 q1) ∧ x.cell? ⟨w.heap.size, 0, none⟩ = some (.int .u8 q0)) ∧ x.cell? ⟨y11.heap.size, a1, none⟩ = some (.string M)) ∧ x.cell? ⟨y12.heap.size, a0, none⟩ = some (.string P))) (fun _ h => h.1) _ _ _ _ ?_
          have hH := And.intro hSy hc
          clear hSy hc
          refine wpAnyH_takeTo (i := 10) (d := some 15) (v := .pointer (some ⟨y12.heap.size, a0, none⟩)) rfl rfl (by kernel_rfl) (by kernel_rfl) (by kernel_rfl) (fun _ _ _ h => h) (Or.inl ⟨by rfl, fun x hx => ?_⟩) hH ?_
          · obtain ⟨⟨⟨f0, f1⟩, f2⟩, f3⟩ := hx
            go_simp
          try simp only [Act.put, List.setIfInBounds_toArray, List.set_cons_zero, List.set_cons_succ]
          refine wpAnyH_takeTo (i := 11) (d := some 16) (v := .string P) rfl rfl (by kernel_rfl) (by kernel_rfl) (by kernel_rfl) (fun _ _ _ h => h) (Or.inl ⟨by rfl, fun x hx => ?_⟩) hH ?_
          · obtain ⟨⟨⟨f0, f1⟩, f2⟩, f3⟩ := hx
            go_simp
          try simp only [Act.put, List.setIfInBounds_toArray, List.set_cons_zero, List.set_cons_succ]
          refine wpAnyH_takeTo (i := 12) (d := some 17) (v := .agg #[.string M, .string P, .slice none 0 0, .slice none 0 0]) rfl rfl (by kernel_rfl) (by kernel_rfl) (by kernel_rfl) (fun _ _ _ h => h) (Or.inl ⟨by rfl, fun x hx => ?_⟩) hH ?_
          · obtain ⟨⟨⟨f0, f1⟩, f2⟩, f3⟩ := hx
            go_simp
          try simp only [Act.put, List.setIfInBounds_toArray, List.set_cons_zero, List.set_cons_succ]
          have hp0 : v0.heap.size ≤ y0_.heap.size := HBy0_.out.size
          have hs0 := HS0.out
          have hS1 : ((((y13.setCells (y0_.heap.size) 0 (#[.string M, .string P, .slice none 0 0, .slice none 0 0] : Array Value).toList).cell? ⟨w.heap.size, 1, none⟩ = some (.int .u8 q1) ∧ (y13.setCells (y0_.heap.size) 0 (#[.string M, .string P, .slice none 0 0, .slice none 0 0] : Array Value).toList).cell? ⟨w.heap.size, 0, none⟩ = some (.int .u8 q0)) ∧ (y13.setCells (y0_.heap.size) 0 (#[.string M, .string P, .slice none 0 0, .slice none 0 0] : Array Value).toList).cell? ⟨y11.heap.size, a1, none⟩ = some (.string M)) ∧ (y13.setCells (y0_.heap.size) 0 (#[.string M, .string P, .slice none 0 0, .slice none 0 0] : Array Value).toList).cell? ⟨y12.heap.size, a0, none⟩ = some (.string P)) := by
            have := HZy11.out
            have := HZy12.out
            have := HZy13.out
            exact ⟨⟨⟨(cell_setCells_far _ _ _ (by omega)).trans hH.1.1.1, (cell_setCells_far _ _ _ (by omega)).trans hH.1.1.2⟩, (cell_setCells_far _ _ _ (by omega)).trans hH.1.2⟩, (cell_setCells_far _ _ _ (by omega)).trans hH.2⟩
          refine wpAnyH_storeTo (i := 14) (by kernel_rfl) rfl rfl (by rfl) 25 (.tmp 3) (.tmp 17) rfl (y0_.heap.size) 0 (#[.string M, .string P, .slice none 0 0, .slice none 0 0]) rfl rfl (there_of HPy13.out 0 4 (by simp)) (by kernel_rfl) (by simp [Value.oneCell']) hS1 ?_
          refine wpAnyH_done (by kernel_rfl) ?_ _
          go_wp2_with fail
          go_meet
          exact ⟨_, rfl, Lib.hid hp0, Lib.hid ⟨heap_setCells (g := y0_.heap.size) (t := 25) [.string M, .string P, .slice none 0 0, .slice none 0 0] [] [.string ⟨#[]⟩, .string ⟨#[]⟩, .slice none 0 0, .slice none 0 0] [] y13 HPy13.out rfl, World.ownsRow_nil _ _ _ _, Nat.le_refl _, small_nil⟩, Lib.hid (bl_set HBy13.out hp0)⟩
      · rw [if_pos (by rfl)]
        go_simp
        obtain ⟨y14, hy⟩ : ∃ y, y11.alloc (.cells #[.string ⟨#[47]⟩, .string ⟨#[47, 97]⟩, .string ⟨#[47, 98]⟩, .string ⟨#[47, 99, 63, 100]⟩] 9) = y := ⟨_, rfl⟩
        have hbn : Below v0.heap.size v0 y14 := by rw [← hy]; exact HBy11.out.alloc HBy11.out.size _
        have HZy14 : Hid (y14.heap.size = y11.heap.size + 1) := Lib.hid (by rw [← hy]; simp)
        have HPy14 : Hid (y14.heap[y0_.heap.size]? = some (.cells #[.string ⟨#[]⟩, .string ⟨#[]⟩, .slice none 0 0, .slice none 0 0] 25 (0, 0))) := Lib.hid (by rw [← hy]; exact stood0 HPy11.out)
        have hSy : (y14.cell? ⟨w.heap.size, 1, none⟩ = some (.int .u8 q1) ∧ y14.cell? ⟨w.heap.size, 0, none⟩ = some (.int .u8 q0)) := by rw [← hy]; exact ⟨cell_al hH.1 _, cell_al hH.2 _⟩
        have hc := PC.out y11
        rw [hy] at hc
        have HBy14 := Lib.hid hbn
        change K _ (y11.alloc (.cells #[.string ⟨#[47]⟩, .string ⟨#[47, 97]⟩, .string ⟨#[47, 98]⟩, .string ⟨#[47, 99, 63, 100]⟩] 9))
        rw [hy]
        refine hK.out _ _ hSy (fun hH => ?_)
        clear hK K hy hbn
        try simp only [Act.put, List.setIfInBounds_toArray, List.set_cons_zero, List.set_cons_succ]
        refine wpAnyH_more (S' := fun x => ((x.cell? ⟨w.heap.size, 1, none⟩ = some (.int .u8 q1) ∧ x.cell? ⟨w.heap.size, 0, none⟩ = some (.int .u8 q0)) ∧ x.cell? ⟨y11.heap.size, a0, none⟩ = some (.string P))) (fun _ h => h.1) _ _ _ _ ?_
        have hH := And.intro hSy hc
        clear hSy hc
        refine wpAnyH_takeTo (i := 10) (d := some 15) (v := .pointer (some ⟨y11.heap.size, a0, none⟩)) rfl rfl (by kernel_rfl) (by kernel_rfl) (by kernel_rfl) (fun _ _ _ h => h) (Or.inl ⟨by rfl, fun x hx => ?_⟩) hH ?_
        · obtain ⟨⟨f0, f1⟩, f2⟩ := hx
          go_simp
        try simp only [Act.put, List.setIfInBounds_toArray, List.set_cons_zero, List.set_cons_succ]
        refine wpAnyH_takeTo (i := 11) (d := some 16) (v := .string P) rfl rfl (by kernel_rfl) (by kernel_rfl) (by kernel_rfl) (fun _ _ _ h => h) (Or.inl ⟨by rfl, fun x hx => ?_⟩) hH ?_
        · obtain ⟨⟨f0, f1⟩, f2⟩ := hx
          go_simp
        try simp only [Act.put, List.setIfInBounds_toArray, List.set_cons_zero, List.set_cons_succ]
        refine wpAnyH_ready (rs := [0]) (by kernel_rfl) (by simp) (AllReadyH.cons rfl (fun K hK => ?_) AllReadyH.nil)
        · rw [if_pos (by rfl)]
          go_simp
          obtain ⟨y15, hy⟩ : ∃ y, y14.alloc (.cells #[.string ⟨#[71, 69, 84]⟩, .string ⟨#[71, 69, 84]⟩, .string ⟨#[71, 69, 84]⟩, .string ⟨#[71, 69, 84]⟩, .string ⟨#[71, 69, 84]⟩, .string ⟨#[72, 69, 65, 68]⟩, .string ⟨#[80, 79, 83, 84]⟩, .string ⟨#[68, 69, 76, 69, 84, 69]⟩, .string ⟨#[71, 69, 84]⟩, .string ⟨#[71, 69, 84]⟩] 9) = y := ⟨_, rfl⟩
          have hbn : Below v0.heap.size v0 y15 := by rw [← hy]; exact HBy14.out.alloc HBy14.out.size _
          have HZy15 : Hid (y15.heap.size = y14.heap.size + 1) := Lib.hid (by rw [← hy]; simp)
          have HPy15 : Hid (y15.heap[y0_.heap.size]? = some (.cells #[.string ⟨#[]⟩, .string ⟨#[]⟩, .slice none 0 0, .slice none 0 0] 25 (0, 0))) := Lib.hid (by rw [← hy]; exact stood0 HPy14.out)
          have hSy : ((y15.cell? ⟨w.heap.size, 1, none⟩ = some (.int .u8 q1) ∧ y15.cell? ⟨w.heap.size, 0, none⟩ = some (.int .u8 q0)) ∧ y15.cell? ⟨y11.heap.size, a0, none⟩ = some (.string P)) := by rw [← hy]; exact ⟨⟨cell_al hH.1.1 _, cell_al hH.1.2 _⟩, cell_al hH.2 _⟩
          have hc := MC.out y14
          rw [hy] at hc
          have HBy15 := Lib.hid hbn
          change K _ (y14.alloc (.cells #[.string ⟨#[71, 69, 84]⟩, .string ⟨#[71, 69, 84]⟩, .string ⟨#[71, 69, 84]⟩, .string ⟨#[71, 69, 84]⟩, .string ⟨#[71, 69, 84]⟩, .string ⟨#[72, 69, 65, 68]⟩, .string ⟨#[80, 79, 83, 84]⟩, .string ⟨#[68, 69, 76, 69, 84, 69]⟩, .string ⟨#[71, 69, 84]⟩, .string ⟨#[71, 69, 84]⟩] 9))
          rw [hy]
          refine hK.out _ _ hSy (fun hH => ?_)
          clear hK K hy hbn
          try simp only [Act.put, List.setIfInBounds_toArray, List.set_cons_zero, List.set_cons_succ]
          refine wpAnyH_more (S' := fun x => (((x.cell? ⟨w.heap.size, 1, none⟩ = some (.int .u8 q1) ∧ x.cell? ⟨w.heap.size, 0, none⟩ = some (.int .u8 q0)) ∧ x.cell? ⟨y11.heap.size, a0, none⟩ = some (.string P)) ∧ x.cell? ⟨y14.heap.size, a1, none⟩ = some (.string M))) (fun _ h => h.1) _ _ _ _ ?_
          have hH := And.intro hSy hc
          clear hSy hc
          refine wpAnyH_takeTo (i := 4) (d := some 9) (v := .pointer (some ⟨y14.heap.size, a1, none⟩)) rfl rfl (by kernel_rfl) (by kernel_rfl) (by kernel_rfl) (fun _ _ _ h => h) (Or.inl ⟨by rfl, fun x hx => ?_⟩) hH ?_
          · obtain ⟨⟨⟨f0, f1⟩, f2⟩, f3⟩ := hx
            go_simp
          try simp only [Act.put, List.setIfInBounds_toArray, List.set_cons_zero, List.set_cons_succ]
          refine wpAnyH_takeTo (i := 5) (d := some 10) (v := .string M) rfl rfl (by kernel_rfl) (by kernel_rfl) (by kernel_rfl) (fun _ _ _ h => h) (Or.inl ⟨by rfl, fun x hx => ?_⟩) hH ?_
          · obtain ⟨⟨⟨f0, f1⟩, f2⟩, f3⟩ := hx
            go_simp
          try simp only [Act.put, List.setIfInBounds_toArray, List.set_cons_zero, List.set_cons_succ]
          refine wpAnyH_takeTo (i := 12) (d := some 17) (v := .agg #[.string M, .string P, .slice none 0 0, .slice none 0 0]) rfl rfl (by kernel_rfl) (by kernel_rfl) (by kernel_rfl) (fun _ _ _ h => h) (Or.inl ⟨by rfl, fun x hx => ?_⟩) hH ?_
          · obtain ⟨⟨⟨f0, f1⟩, f2⟩, f3⟩ := hx
            go_simp
          try simp only [Act.put, List.setIfInBounds_toArray, List.set_cons_zero, List.set_cons_succ]
          have hp0 : v0.heap.size ≤ y0_.heap.size := HBy0_.out.size
          have hs0 := HS0.out
          have hS1 : ((((y15.setCells (y0_.heap.size) 0 (#[.string M, .string P, .slice none 0 0, .slice none 0 0] : Array Value).toList).cell? ⟨w.heap.size, 1, none⟩ = some (.int .u8 q1) ∧ (y15.setCells (y0_.heap.size) 0 (#[.string M, .string P, .slice none 0 0, .slice none 0 0] : Array Value).toList).cell? ⟨w.heap.size, 0, none⟩ = some (.int .u8 q0)) ∧ (y15.setCells (y0_.heap.size) 0 (#[.string M, .string P, .slice none 0 0, .slice none 0 0] : Array Value).toList).cell? ⟨y11.heap.size, a0, none⟩ = some (.string P)) ∧ (y15.setCells (y0_.heap.size) 0 (#[.string M, .string P, .slice none 0 0, .slice none 0 0] : Array Value).toList).cell? ⟨y14.heap.size, a1, none⟩ = some (.string M)) := by
            have := HZy11.out
            have := HZy14.out
            have := HZy15.out
            exact ⟨⟨⟨(cell_setCells_far _ _ _ (by omega)).trans hH.1.1.1, (cell_setCells_far _ _ _ (by omega)).trans hH.1.1.2⟩, (cell_setCells_far _ _ _ (by omega)).trans hH.1.2⟩, (cell_setCells_far _ _ _ (by omega)).trans hH.2⟩
          refine wpAnyH_storeTo (i := 14) (by kernel_rfl) rfl rfl (by rfl) 25 (.tmp 3) (.tmp 17) rfl (y0_.heap.size) 0 (#[.string M, .string P, .slice none 0 0, .slice none 0 0]) rfl rfl (there_of HPy15.out 0 4 (by simp)) (by kernel_rfl) (by simp [Value.oneCell']) hS1 ?_
          refine wpAnyH_done (by kernel_rfl) ?_ _
          go_wp2_with fail
          go_meet
          exact ⟨_, rfl, Lib.hid hp0, Lib.hid ⟨heap_setCells (g := y0_.heap.size) (t := 25) [.string M, .string P, .slice none 0 0, .slice none 0 0] [] [.string ⟨#[]⟩, .string ⟨#[]⟩, .slice none 0 0, .slice none 0 0] [] y15 HPy15.out rfl, World.ownsRow_nil _ _ _ _, Nat.le_refl _, small_nil⟩, Lib.hid (bl_set HBy15.out hp0)⟩
  case rest =>
    obtain ⟨p, rfl, HPG, HM, HBW⟩ := hcut
    clear hq0
    have HPW : Hid (w.heap.size + 2 ≤ p) := Lib.hid (by have := HPG.out; have := HS0.out; omega)
    go_upto_region 2 with (fail)
    go_cut [] (fun wx => ∃ fa n fc L, Hid (Msg 25 p 3 wx (.string M) (.string P) (.slice fa n fc) (.slice none 0 0) L) ∧ Hid (Below v0.heap.size v0 wx))
    case first =>
      have hq1 := HQ.out wc.drew (HBW.out.drew)
      have HD : Hid (Below v0.heap.size v0 wc.drew) := Lib.hid HBW.out.drew
      have HMd : Hid (Msg 25 p 0 wc.drew (.string M) (.string P) (.slice none 0 0) (.slice none 0 0) []) := Lib.hid (HM.out.below ((Below.refl _ _).drew))
      refine wp_region_held_drew (S := fun x => x.cell? ⟨w.heap.size, 0, none⟩ = some (.int .u8 q0)) (by kernel_rfl) hq1.1 (fun hH => ?_)
      obtain ⟨x0, hx0⟩ : ∃ y, wc.drew = y := ⟨_, rfl⟩
      rw [hx0] at hH HD HMd ⊢
      clear hx0 hq1
      refine wpAnyH_takeTo (i := 0) (d := some 18) (v := .pointer (some ⟨p, 2, none⟩)) rfl rfl (by kernel_rfl) (by kernel_rfl) (by kernel_rfl) (fun _ _ _ h => h) (Or.inl ⟨by rfl, fun x hx => ?_⟩) hH ?_
      · have f0 := hx
        go_simp
      try simp only [Act.put, List.setIfInBounds_toArray, List.set_cons_zero, List.set_cons_succ]
      refine wpAnyH_takeTo (i := 3) (d := some 21) (v := .pointer (some ⟨w.heap.size, 0, none⟩)) rfl rfl (by kernel_rfl) (by kernel_rfl) (by kernel_rfl) (fun _ _ _ h => h) (Or.inl ⟨by rfl, fun x hx => ?_⟩) hH ?_
      · have f0 := hx
        go_simp
      try simp only [Act.put, List.setIfInBounds_toArray, List.set_cons_zero, List.set_cons_succ]
      refine wpAnyH_takeTo (i := 4) (d := some 22) (v := .int .u8 q0) rfl rfl (by kernel_rfl) (by kernel_rfl) (by kernel_rfl) (fun _ _ _ h => h) (Or.inl ⟨by rfl, fun x hx => ?_⟩) hH ?_
      · have f0 := hx
        go_simp
      try simp only [Act.put, List.setIfInBounds_toArray, List.set_cons_zero, List.set_cons_succ]
      refine wpAnyH_takeTo (i := 5) (d := some 23) (v := .int .u8 b0) rfl rfl (by kernel_rfl) (by kernel_rfl) (by kernel_rfl) (fun _ _ _ h => h) (Or.inl ⟨by rfl, fun x hx => ?_⟩) hH ?_
      · have f0 := hx
        go_simp
      try simp only [Act.put, List.setIfInBounds_toArray, List.set_cons_zero, List.set_cons_succ]
      refine wpAnyH_takeTo (i := 6) (d := some 24) (v := .int .u8 c0) rfl rfl (by kernel_rfl) (by kernel_rfl) (by kernel_rfl) (fun _ _ _ h => h) (Or.inl ⟨by rfl, fun x hx => ?_⟩) hH ?_
      · have f0 := hx
        go_simp
      try simp only [Act.put, List.setIfInBounds_toArray, List.set_cons_zero, List.set_cons_succ]
      have HMx0 := HMd
      have HDx0 := HD
      refine wpAnyH_ready (rs := [1, 2]) (by kernel_rfl) (by simp) (AllReadyH.cons rfl (fun K hK => ?_) (AllReadyH.cons rfl (fun K hK => ?_) AllReadyH.nil))
      · rw [if_pos (by rfl)]
        have kx := (four_at HMx0.out.block).2.2.1
        go_simp
        clear kx
        refine hK.out _ _ hH (fun hH => ?_)
        clear hK K
        try simp only [Act.put, List.setIfInBounds_toArray, List.set_cons_zero, List.set_cons_succ]
        refine wpAnyH_ready (rs := [2]) (by kernel_rfl) (by simp) (AllReadyH.cons rfl (fun K hK => ?_) AllReadyH.nil)
        · rw [if_pos (by rfl)]
          go_simp
          obtain ⟨x1, hy⟩ : ∃ y, x0.alloc (.cells #[.string ⟨#[104]⟩, .string ⟨#[72]⟩, .string ⟨#[103]⟩] 9) = y := ⟨_, rfl⟩
          have hbn : Below x0.heap.size x0 x1 := by rw [← hy]; exact below_al (Below.refl _ _) _
          have HMx1 := Lib.hid (HMx0.out.below hbn)
          have HDx1 := Lib.hid (HDx0.out.trans (hbn.mono HDx0.out.size))
          have hSy : x1.cell? ⟨w.heap.size, 0, none⟩ = some (.int .u8 q0) := by rw [← hy]; exact cell_al hH _
          have hc := HC.out x0
          rw [hy] at hc
          have HGP : Hid (p < x0.heap.size) := Lib.hid HMx0.out.lt
          change K _ (x0.alloc (.cells #[.string ⟨#[104]⟩, .string ⟨#[72]⟩, .string ⟨#[103]⟩] 9))
          rw [hy]
          refine hK.out _ _ hSy (fun hH => ?_)
          clear hK K hy hbn
          try simp only [Act.put, List.setIfInBounds_toArray, List.set_cons_zero, List.set_cons_succ]
          refine wpAnyH_more (S' := fun x => (x.cell? ⟨w.heap.size, 0, none⟩ = some (.int .u8 q0) ∧ x.cell? ⟨x0.heap.size, c0, none⟩ = some (.string HB_))) (fun _ h => h.1) _ _ _ _ ?_
          have hH := And.intro hSy hc
          clear hSy hc
          refine wpAnyH_takeTo (i := 7) (d := some 25) (v := .pointer (some ⟨x0.heap.size, c0, none⟩)) rfl rfl (by kernel_rfl) (by kernel_rfl) (by kernel_rfl) (fun _ _ _ h => h) (Or.inl ⟨by rfl, fun x hx => ?_⟩) hH ?_
          · obtain ⟨f0, f1⟩ := hx
            go_simp
          try simp only [Act.put, List.setIfInBounds_toArray, List.set_cons_zero, List.set_cons_succ]
          refine wpAnyH_takeTo (i := 8) (d := some 26) (v := .string HB_) rfl rfl (by kernel_rfl) (by kernel_rfl) (by kernel_rfl) (fun _ _ _ h => h) (Or.inl ⟨by rfl, fun x hx => ?_⟩) hH ?_
          · obtain ⟨f0, f1⟩ := hx
            go_simp
          try simp only [Act.put, List.setIfInBounds_toArray, List.set_cons_zero, List.set_cons_succ]
          refine wpAnyH_takeTo (i := 9) (d := some 27) (v := .agg #[.string ⟨#[72, 111, 115, 116]⟩, .string HB_]) rfl rfl (by kernel_rfl) (by kernel_rfl) (by kernel_rfl) (fun _ _ _ h => h) (Or.inl ⟨by rfl, fun x hx => ?_⟩) hH ?_
          · obtain ⟨f0, f1⟩ := hx
            go_simp
          try simp only [Act.put, List.setIfInBounds_toArray, List.set_cons_zero, List.set_cons_succ]
          refine wpAnyH_ready (rs := [10]) (by kernel_rfl) (by simp) (AllReadyH.cons rfl (fun K hK => ?_) AllReadyH.nil)
          · rw [if_pos (by rfl)]
            go_simp
            obtain ⟨x2, hy⟩ : ∃ y, x1.alloc (.cells #[.string ⟨#[72, 111, 115, 116]⟩, .string HB_] 48) = y := ⟨_, rfl⟩
            have hbn : Below x1.heap.size x1 x2 := by rw [← hy]; exact below_al (Below.refl _ _) _
            have HMx2 := Lib.hid (HMx1.out.below hbn)
            have HDx2 := Lib.hid (HDx1.out.trans (hbn.mono HDx1.out.size))
            have hSy : (x2.cell? ⟨w.heap.size, 0, none⟩ = some (.int .u8 q0) ∧ x2.cell? ⟨x0.heap.size, c0, none⟩ = some (.string HB_)) := by rw [← hy]; exact ⟨cell_al hH.1 _, cell_al hH.2 _⟩
            have HFx2 : Hid (FieldsIn x2.heap.size x2 (some ⟨x1.heap.size, 0, none⟩) [(⟨#[72, 111, 115, 116]⟩, HB_)]) := Lib.hid (one_at (f := (⟨#[72, 111, 115, 116]⟩, HB_)) (by rw [← hy]; exact heap_alloc_new x1 _))
            change K _ (x1.alloc (.cells #[.string ⟨#[72, 111, 115, 116]⟩, .string HB_] 48))
            rw [hy]
            refine hK.out _ _ hSy (fun hH => ?_)
            clear hK K hy hbn
            try simp only [Act.put, List.setIfInBounds_toArray, List.set_cons_zero, List.set_cons_succ]
            have hH := hSy
            clear hSy
            refine wpAnyH_ready (rs := [11]) (by kernel_rfl) (by simp) (AllReadyH.cons rfl (fun K hK => ?_) AllReadyH.nil)
            · rw [if_pos (by rfl)]
              refine wp_msg_append HMx2.out (by decide) (.tmp 19) (.tmp 28) rfl 29 rfl rfl (some ⟨x1.heap.size, 0, none⟩) 1 1 [(⟨#[72, 111, 115, 116]⟩, HB_)] rfl rfl HFx2.out (fun e => by cases e) (by simp) (small_one (by decide) zHB.out) rfl ?_
              intro fa n fc x3 s2_ sf HN HF HGR
              have hb3 : (x3.cell? ⟨w.heap.size, 0, none⟩ = some (.int .u8 q0) ∧ x3.cell? ⟨x0.heap.size, c0, none⟩ = some (.string HB_)) := by
                have hp2 := HPW.out
                have hw2 := HS0.out
                have e1 := (HQ.out _ (HF.out v0 HPG.out HDx2.out)).1
                rw [World.cell?_setCell_far _ _ _ _ (show p ≠ w.heap.size by omega)] at e1
                exact ⟨e1, (HGR.out.cell_far _ (World.block_lt_of_cell? _ _ hH.2) (by simp [Value.ownBlock])).trans hH.2⟩
              refine hK.out _ _ hb3 (fun hH => ?_)
              clear hK K hb3
              try simp only [Act.put, List.setIfInBounds_toArray, List.set_cons_zero, List.set_cons_succ]
              refine wpAnyH_takeTo (i := 12) (d := some 30) (v := .pointer (some ⟨p, 2, none⟩)) rfl rfl (by kernel_rfl) (by kernel_rfl) (by kernel_rfl) (fun _ _ _ h => h) (Or.inl ⟨by rfl, fun x hx => ?_⟩) hH ?_
              · obtain ⟨f0, f1⟩ := hx
                go_simp
              try simp only [Act.put, List.setIfInBounds_toArray, List.set_cons_zero, List.set_cons_succ]
              have hb4 : ((x3.setCell ⟨p, 2, none⟩ (.slice fa n fc)).cell? ⟨w.heap.size, 0, none⟩ = some (.int .u8 q0) ∧ (x3.setCell ⟨p, 2, none⟩ (.slice fa n fc)).cell? ⟨x0.heap.size, c0, none⟩ = some (.string HB_)) := by
                have hp2 := HPW.out
                have hw2 := HS0.out
                refine ⟨(HQ.out _ (HF.out v0 HPG.out HDx2.out)).1, ?_⟩
                have hlt := HGP.out
                exact (World.cell?_setCell_far _ _ _ _ (show p ≠ x0.heap.size by omega)).trans hH.2
              refine wpAnyH_stepTo (i := 13) (d := none) (by kernel_rfl) rfl rfl (by rfl) (fun _ y => y = x3.setCell ⟨p, 2, none⟩ (.slice fa n fc)) (fun K hK => ?_) ?_
              · go_simp
                exact hK (.bool true) _ rfl
              rintro _ _ rfl
              refine ⟨hb4, ?_⟩
              clear hb4
              refine wpAnyH_done (by kernel_rfl) ?_ _
              go_wp2_with fail
              go_meet
              exact ⟨fa, n, fc, _, HN, Lib.hid (HF.out v0 HPG.out HDx2.out)⟩
      · rw [if_pos (by rfl)]
        go_simp
        obtain ⟨x4, hy⟩ : ∃ y, x0.alloc (.cells #[.string ⟨#[104]⟩, .string ⟨#[72]⟩, .string ⟨#[103]⟩] 9) = y := ⟨_, rfl⟩
        have hbn : Below x0.heap.size x0 x4 := by rw [← hy]; exact below_al (Below.refl _ _) _
        have HMx4 := Lib.hid (HMx0.out.below hbn)
        have HDx4 := Lib.hid (HDx0.out.trans (hbn.mono HDx0.out.size))
        have hSy : x4.cell? ⟨w.heap.size, 0, none⟩ = some (.int .u8 q0) := by rw [← hy]; exact cell_al hH _
        have hc := HC.out x0
        rw [hy] at hc
        have HGP : Hid (p < x0.heap.size) := Lib.hid HMx0.out.lt
        change K _ (x0.alloc (.cells #[.string ⟨#[104]⟩, .string ⟨#[72]⟩, .string ⟨#[103]⟩] 9))
        rw [hy]
        refine hK.out _ _ hSy (fun hH => ?_)
        clear hK K hy hbn
        try simp only [Act.put, List.setIfInBounds_toArray, List.set_cons_zero, List.set_cons_succ]
        refine wpAnyH_more (S' := fun x => (x.cell? ⟨w.heap.size, 0, none⟩ = some (.int .u8 q0) ∧ x.cell? ⟨x0.heap.size, c0, none⟩ = some (.string HB_))) (fun _ h => h.1) _ _ _ _ ?_
        have hH := And.intro hSy hc
        clear hSy hc
        refine wpAnyH_takeTo (i := 7) (d := some 25) (v := .pointer (some ⟨x0.heap.size, c0, none⟩)) rfl rfl (by kernel_rfl) (by kernel_rfl) (by kernel_rfl) (fun _ _ _ h => h) (Or.inl ⟨by rfl, fun x hx => ?_⟩) hH ?_
        · obtain ⟨f0, f1⟩ := hx
          go_simp
        try simp only [Act.put, List.setIfInBounds_toArray, List.set_cons_zero, List.set_cons_succ]
        refine wpAnyH_takeTo (i := 8) (d := some 26) (v := .string HB_) rfl rfl (by kernel_rfl) (by kernel_rfl) (by kernel_rfl) (fun _ _ _ h => h) (Or.inl ⟨by rfl, fun x hx => ?_⟩) hH ?_
        · obtain ⟨f0, f1⟩ := hx
          go_simp
        try simp only [Act.put, List.setIfInBounds_toArray, List.set_cons_zero, List.set_cons_succ]
        refine wpAnyH_takeTo (i := 9) (d := some 27) (v := .agg #[.string ⟨#[72, 111, 115, 116]⟩, .string HB_]) rfl rfl (by kernel_rfl) (by kernel_rfl) (by kernel_rfl) (fun _ _ _ h => h) (Or.inl ⟨by rfl, fun x hx => ?_⟩) hH ?_
        · obtain ⟨f0, f1⟩ := hx
          go_simp
        try simp only [Act.put, List.setIfInBounds_toArray, List.set_cons_zero, List.set_cons_succ]
        refine wpAnyH_ready (rs := [1, 10]) (by kernel_rfl) (by simp) (AllReadyH.cons rfl (fun K hK => ?_) (AllReadyH.cons rfl (fun K hK => ?_) AllReadyH.nil))
        · rw [if_pos (by rfl)]
          have kx := (four_at HMx4.out.block).2.2.1
          go_simp
          clear kx
          refine hK.out _ _ hH (fun hH => ?_)
          clear hK K
          try simp only [Act.put, List.setIfInBounds_toArray, List.set_cons_zero, List.set_cons_succ]
          refine wpAnyH_ready (rs := [10]) (by kernel_rfl) (by simp) (AllReadyH.cons rfl (fun K hK => ?_) AllReadyH.nil)
          · rw [if_pos (by rfl)]
            go_simp
            obtain ⟨x5, hy⟩ : ∃ y, x4.alloc (.cells #[.string ⟨#[72, 111, 115, 116]⟩, .string HB_] 48) = y := ⟨_, rfl⟩
            have hbn : Below x4.heap.size x4 x5 := by rw [← hy]; exact below_al (Below.refl _ _) _
            have HMx5 := Lib.hid (HMx4.out.below hbn)
            have HDx5 := Lib.hid (HDx4.out.trans (hbn.mono HDx4.out.size))
            have hSy : (x5.cell? ⟨w.heap.size, 0, none⟩ = some (.int .u8 q0) ∧ x5.cell? ⟨x0.heap.size, c0, none⟩ = some (.string HB_)) := by rw [← hy]; exact ⟨cell_al hH.1 _, cell_al hH.2 _⟩
            have HFx5 : Hid (FieldsIn x5.heap.size x5 (some ⟨x4.heap.size, 0, none⟩) [(⟨#[72, 111, 115, 116]⟩, HB_)]) := Lib.hid (one_at (f := (⟨#[72, 111, 115, 116]⟩, HB_)) (by rw [← hy]; exact heap_alloc_new x4 _))
            change K _ (x4.alloc (.cells #[.string ⟨#[72, 111, 115, 116]⟩, .string HB_] 48))
            rw [hy]
            refine hK.out _ _ hSy (fun hH => ?_)
            clear hK K hy hbn
            try simp only [Act.put, List.setIfInBounds_toArray, List.set_cons_zero, List.set_cons_succ]
            have hH := hSy
            clear hSy
            refine wpAnyH_ready (rs := [11]) (by kernel_rfl) (by simp) (AllReadyH.cons rfl (fun K hK => ?_) AllReadyH.nil)
            · rw [if_pos (by rfl)]
              refine wp_msg_append HMx5.out (by decide) (.tmp 19) (.tmp 28) rfl 29 rfl rfl (some ⟨x4.heap.size, 0, none⟩) 1 1 [(⟨#[72, 111, 115, 116]⟩, HB_)] rfl rfl HFx5.out (fun e => by cases e) (by simp) (small_one (by decide) zHB.out) rfl ?_
              intro fa n fc x3 s2_ sf HN HF HGR
              have hb3 : (x3.cell? ⟨w.heap.size, 0, none⟩ = some (.int .u8 q0) ∧ x3.cell? ⟨x0.heap.size, c0, none⟩ = some (.string HB_)) := by
                have hp2 := HPW.out
                have hw2 := HS0.out
                have e1 := (HQ.out _ (HF.out v0 HPG.out HDx5.out)).1
                rw [World.cell?_setCell_far _ _ _ _ (show p ≠ w.heap.size by omega)] at e1
                exact ⟨e1, (HGR.out.cell_far _ (World.block_lt_of_cell? _ _ hH.2) (by simp [Value.ownBlock])).trans hH.2⟩
              refine hK.out _ _ hb3 (fun hH => ?_)
              clear hK K hb3
              try simp only [Act.put, List.setIfInBounds_toArray, List.set_cons_zero, List.set_cons_succ]
              refine wpAnyH_takeTo (i := 12) (d := some 30) (v := .pointer (some ⟨p, 2, none⟩)) rfl rfl (by kernel_rfl) (by kernel_rfl) (by kernel_rfl) (fun _ _ _ h => h) (Or.inl ⟨by rfl, fun x hx => ?_⟩) hH ?_
              · obtain ⟨f0, f1⟩ := hx
                go_simp
              try simp only [Act.put, List.setIfInBounds_toArray, List.set_cons_zero, List.set_cons_succ]
              have hb4 : ((x3.setCell ⟨p, 2, none⟩ (.slice fa n fc)).cell? ⟨w.heap.size, 0, none⟩ = some (.int .u8 q0) ∧ (x3.setCell ⟨p, 2, none⟩ (.slice fa n fc)).cell? ⟨x0.heap.size, c0, none⟩ = some (.string HB_)) := by
                have hp2 := HPW.out
                have hw2 := HS0.out
                refine ⟨(HQ.out _ (HF.out v0 HPG.out HDx5.out)).1, ?_⟩
                have hlt := HGP.out
                exact (World.cell?_setCell_far _ _ _ _ (show p ≠ x0.heap.size by omega)).trans hH.2
              refine wpAnyH_stepTo (i := 13) (d := none) (by kernel_rfl) rfl rfl (by rfl) (fun _ y => y = x3.setCell ⟨p, 2, none⟩ (.slice fa n fc)) (fun K hK => ?_) ?_
              · go_simp
                exact hK (.bool true) _ rfl
              rintro _ _ rfl
              refine ⟨hb4, ?_⟩
              clear hb4
              refine wpAnyH_done (by kernel_rfl) ?_ _
              go_wp2_with fail
              go_meet
              exact ⟨fa, n, fc, _, HN, Lib.hid (HF.out v0 HPG.out HDx5.out)⟩
        · rw [if_pos (by rfl)]
          go_simp
          obtain ⟨x7, hy⟩ : ∃ y, x4.alloc (.cells #[.string ⟨#[72, 111, 115, 116]⟩, .string HB_] 48) = y := ⟨_, rfl⟩
          have hbn : Below x4.heap.size x4 x7 := by rw [← hy]; exact below_al (Below.refl _ _) _
          have HMx7 := Lib.hid (HMx4.out.below hbn)
          have HDx7 := Lib.hid (HDx4.out.trans (hbn.mono HDx4.out.size))
          have hSy : (x7.cell? ⟨w.heap.size, 0, none⟩ = some (.int .u8 q0) ∧ x7.cell? ⟨x0.heap.size, c0, none⟩ = some (.string HB_)) := by rw [← hy]; exact ⟨cell_al hH.1 _, cell_al hH.2 _⟩
          have HFx7 : Hid (FieldsIn x7.heap.size x7 (some ⟨x4.heap.size, 0, none⟩) [(⟨#[72, 111, 115, 116]⟩, HB_)]) := Lib.hid (one_at (f := (⟨#[72, 111, 115, 116]⟩, HB_)) (by rw [← hy]; exact heap_alloc_new x4 _))
          change K _ (x4.alloc (.cells #[.string ⟨#[72, 111, 115, 116]⟩, .string HB_] 48))
          rw [hy]
          refine hK.out _ _ hSy (fun hH => ?_)
          clear hK K hy hbn
          try simp only [Act.put, List.setIfInBounds_toArray, List.set_cons_zero, List.set_cons_succ]
          have hH := hSy
          clear hSy
          refine wpAnyH_ready (rs := [1]) (by kernel_rfl) (by simp) (AllReadyH.cons rfl (fun K hK => ?_) AllReadyH.nil)
          · rw [if_pos (by rfl)]
            have kx := (four_at HMx7.out.block).2.2.1
            go_simp
            clear kx
            refine hK.out _ _ hH (fun hH => ?_)
            clear hK K
            try simp only [Act.put, List.setIfInBounds_toArray, List.set_cons_zero, List.set_cons_succ]
            refine wpAnyH_ready (rs := [11]) (by kernel_rfl) (by simp) (AllReadyH.cons rfl (fun K hK => ?_) AllReadyH.nil)
            · rw [if_pos (by rfl)]
              refine wp_msg_append HMx7.out (by decide) (.tmp 19) (.tmp 28) rfl 29 rfl rfl (some ⟨x4.heap.size, 0, none⟩) 1 1 [(⟨#[72, 111, 115, 116]⟩, HB_)] rfl rfl HFx7.out (fun e => by cases e) (by simp) (small_one (by decide) zHB.out) rfl ?_
              intro fa n fc x3 s2_ sf HN HF HGR
              have hb3 : (x3.cell? ⟨w.heap.size, 0, none⟩ = some (.int .u8 q0) ∧ x3.cell? ⟨x0.heap.size, c0, none⟩ = some (.string HB_)) := by
                have hp2 := HPW.out
                have hw2 := HS0.out
                have e1 := (HQ.out _ (HF.out v0 HPG.out HDx7.out)).1
                rw [World.cell?_setCell_far _ _ _ _ (show p ≠ w.heap.size by omega)] at e1
                exact ⟨e1, (HGR.out.cell_far _ (World.block_lt_of_cell? _ _ hH.2) (by simp [Value.ownBlock])).trans hH.2⟩
              refine hK.out _ _ hb3 (fun hH => ?_)
              clear hK K hb3
              try simp only [Act.put, List.setIfInBounds_toArray, List.set_cons_zero, List.set_cons_succ]
              refine wpAnyH_takeTo (i := 12) (d := some 30) (v := .pointer (some ⟨p, 2, none⟩)) rfl rfl (by kernel_rfl) (by kernel_rfl) (by kernel_rfl) (fun _ _ _ h => h) (Or.inl ⟨by rfl, fun x hx => ?_⟩) hH ?_
              · obtain ⟨f0, f1⟩ := hx
                go_simp
              try simp only [Act.put, List.setIfInBounds_toArray, List.set_cons_zero, List.set_cons_succ]
              have hb4 : ((x3.setCell ⟨p, 2, none⟩ (.slice fa n fc)).cell? ⟨w.heap.size, 0, none⟩ = some (.int .u8 q0) ∧ (x3.setCell ⟨p, 2, none⟩ (.slice fa n fc)).cell? ⟨x0.heap.size, c0, none⟩ = some (.string HB_)) := by
                have hp2 := HPW.out
                have hw2 := HS0.out
                refine ⟨(HQ.out _ (HF.out v0 HPG.out HDx7.out)).1, ?_⟩
                have hlt := HGP.out
                exact (World.cell?_setCell_far _ _ _ _ (show p ≠ x0.heap.size by omega)).trans hH.2
              refine wpAnyH_stepTo (i := 13) (d := none) (by kernel_rfl) rfl rfl (by rfl) (fun _ y => y = x3.setCell ⟨p, 2, none⟩ (.slice fa n fc)) (fun K hK => ?_) ?_
              · go_simp
                exact hK (.bool true) _ rfl
              rintro _ _ rfl
              refine ⟨hb4, ?_⟩
              clear hb4
              refine wpAnyH_done (by kernel_rfl) ?_ _
              go_wp2_with fail
              go_meet
              exact ⟨fa, n, fc, _, HN, Lib.hid (HF.out v0 HPG.out HDx7.out)⟩
    case rest =>
      obtain ⟨fa, n, fc, L, HM, HBW⟩ := hcut
      obtain ⟨w3, hw3⟩ : ∃ x, wc.alloc (.cells #[.string ⟨#[]⟩, .string ⟨#[]⟩, .string ⟨#[]⟩, .string ⟨#[]⟩, .string ⟨#[110, 111, 45, 99, 97, 99, 104, 101]⟩, .string ⟨#[110, 111, 45, 115, 116, 111, 114, 101]⟩, .string ⟨#[109, 97, 120, 45, 97, 103, 101, 61, 53]⟩, .string ⟨#[109, 97, 120, 45, 115, 116, 97, 108, 101]⟩, .string ⟨#[109, 97, 120, 45, 115, 116, 97, 108, 101, 61, 57]⟩, .string ⟨#[109, 105, 110, 45, 102, 114, 101, 115, 104, 61, 52]⟩, .string ⟨#[111, 110, 108, 121, 45, 105, 102, 45, 99, 97, 99, 104, 101, 100]⟩, .string ⟨#[109, 97, 120, 45, 97, 103, 101, 61, 48]⟩] 9) = x := ⟨_, rfl⟩
      have hbn : Below wc.heap.size wc w3 := by rw [← hw3]; exact below_al (Below.refl _ _) _
      have HX3 := Lib.hid hw3
      have HM3 := Lib.hid (HM.out.below hbn)
      have HB3 := Lib.hid (HBW.out.trans (hbn.mono HBW.out.size))
      have kq := (HQ.out w3 HB3.out).2.2.1
      have ks := SVC.out wc
      rw [hw3] at ks
      clear hw3 hbn
      go_upto_if 38 with ((with_reducible show wpList _ _ _ (⟨some 33, _, _, _, _, _⟩ :: _) _ _); (change wpList _ _ _ _ _ (wc.alloc (.cells #[.string ⟨#[]⟩, .string ⟨#[]⟩, .string ⟨#[]⟩, .string ⟨#[]⟩, .string ⟨#[110, 111, 45, 99, 97, 99, 104, 101]⟩, .string ⟨#[110, 111, 45, 115, 116, 111, 114, 101]⟩, .string ⟨#[109, 97, 120, 45, 97, 103, 101, 61, 53]⟩, .string ⟨#[109, 97, 120, 45, 115, 116, 97, 108, 101]⟩, .string ⟨#[109, 97, 120, 45, 115, 116, 97, 108, 101, 61, 57]⟩, .string ⟨#[109, 105, 110, 45, 102, 114, 101, 115, 104, 61, 52]⟩, .string ⟨#[111, 110, 108, 121, 45, 105, 102, 45, 99, 97, 99, 104, 101, 100]⟩, .string ⟨#[109, 97, 120, 45, 97, 103, 101, 61, 48]⟩] 9))); rw [HX3.out])
      clear kq ks HX3
      go_cut [] (fun wx => ∃ fa n fc L, Hid (Msg 25 p 6 wx (.string M) (.string P) (.slice fa n fc) (.slice none 0 0) L) ∧ Hid (Below v0.heap.size v0 wx))
      case first =>
        obtain ⟨b5, hb5⟩ : ∃ b, (!SV.toList.isEmpty) = b := ⟨_, rfl⟩
        rw [hb5]
        clear hb5
        cases b5 with
        | false =>
          go_wp2_with fail
          go_meet
          exact ⟨_, _, _, _, Lib.hid (HM3.out.more (by decide)), HB3⟩
        | true =>
          obtain ⟨y1, hy1⟩ : ∃ x, w3.alloc (.cells #[.string ⟨#[67, 97, 99, 104, 101, 45, 67, 111, 110, 116, 114, 111, 108]⟩, .string SV] 48) = x := ⟨_, rfl⟩
          have HX1 := Lib.hid hy1
          have hbn : Below w3.heap.size w3 y1 := by rw [← hy1]; exact below_al (Below.refl _ _) _
          have HM1 := Lib.hid (HM3.out.below hbn)
          have HD1 := Lib.hid (HB3.out.trans (hbn.mono HB3.out.size))
          have HF1 : Hid (FieldsIn y1.heap.size y1 (some ⟨w3.heap.size, 0, none⟩) [(⟨#[67, 97, 99, 104, 101, 45, 67, 111, 110, 116, 114, 111, 108]⟩, SV)]) := Lib.hid (row_at (l := [(⟨#[67, 97, 99, 104, 101, 45, 67, 111, 110, 116, 114, 111, 108]⟩, SV)]) (by rw [← hy1]; exact heap_alloc_new w3 _))
          clear hy1 hbn
          have kx := (four_at HM3.out.block).2.2.1
          go_wp2_with ((with_reducible show wpList _ _ _ (⟨some 44, _, _, _, _, _⟩ :: _) _ _); (change wpList _ _ _ _ _ (w3.alloc (.cells #[.string ⟨#[67, 97, 99, 104, 101, 45, 67, 111, 110, 116, 114, 111, 108]⟩, .string SV] 48))); rw [HX1.out]; refine wpList_plain rfl fun K' hK' => ?_; refine wp_msg_append HM1.out (by decide) (.tmp 40) (.tmp 43) rfl 44 rfl rfl (some ⟨w3.heap.size, 0, none⟩) 1 1 [(⟨#[67, 97, 99, 104, 101, 45, 67, 111, 110, 116, 114, 111, 108]⟩, SV)] rfl rfl HF1.out (fun e => by cases e) (by simp) (small_one (by decide) zSV.out) rfl ?_; intro fa2 n2 fc2 x3 s2_ sf HN HF HGR; refine hK' _ _ ?_)
          go_meet
          exact ⟨fa2, n2, fc2, _, HN, Lib.hid (HF.out v0 HPG.out HD1.out)⟩
      case rest =>
        clear HM HBW HM3 HB3
        obtain ⟨fa, n, fc, L, HM, HBW⟩ := hcut
        have kq := (HQ.out wc HBW.out).2.2.2.1
        go_upto_block 0 with (fail)
        clear kq
        go_cut [] (fun wx => ∃ fa n fc L, Hid (Msg 25 p 9 wx (.string M) (.string P) (.slice fa n fc) (.slice none 0 0) L) ∧ Hid (Below v0.heap.size v0 wx))
        case first =>
          by_cases h1_ : k3 = 1
          · subst h1_
            obtain ⟨y1, hy1⟩ : ∃ x, wc.alloc (.cells #[.string ⟨#[65, 99, 99, 101, 112, 116]⟩, .string ⟨#[120]⟩] 48) = x := ⟨_, rfl⟩
            have HX1 := Lib.hid hy1
            have hbn : Below wc.heap.size wc y1 := by rw [← hy1]; exact below_al (Below.refl _ _) _
            have HM1 := Lib.hid (HM.out.below hbn)
            have HD1 := Lib.hid (HBW.out.trans (hbn.mono HBW.out.size))
            have HF1 : Hid (FieldsIn y1.heap.size y1 (some ⟨wc.heap.size, 0, none⟩) [(⟨#[65, 99, 99, 101, 112, 116]⟩, ⟨#[120]⟩)]) := Lib.hid (row_at (l := [(⟨#[65, 99, 99, 101, 112, 116]⟩, ⟨#[120]⟩)]) (by rw [← hy1]; exact heap_alloc_new wc _))
            clear hy1 hbn
            have kx := (four_at HM.out.block).2.2.1
            go_wp2_with ((with_reducible show wpList _ _ _ (⟨some 55, _, _, _, _, _⟩ :: _) _ _); (change wpList _ _ _ _ _ (wc.alloc (.cells #[.string ⟨#[65, 99, 99, 101, 112, 116]⟩, .string ⟨#[120]⟩] 48))); rw [HX1.out]; refine wpList_plain rfl fun K' hK' => ?_; refine wp_msg_append HM1.out (by decide) (.tmp 52) (.tmp 54) rfl 55 rfl rfl (some ⟨wc.heap.size, 0, none⟩) 1 1 [(⟨#[65, 99, 99, 101, 112, 116]⟩, ⟨#[120]⟩)] rfl rfl HF1.out (fun e => by cases e) (by simp) (small_one (by decide) (by decide)) rfl ?_; intro fa2 n2 fc2 x3 s2_ sf HN HF HGR; refine hK' _ _ ?_)
            go_meet
            exact ⟨fa2, n2, fc2, _, HN, Lib.hid (HF.out v0 HPG.out HD1.out)⟩
          have g1_ : ((k3 : Int) == 1) = false := by simp; omega
          by_cases h2_ : k3 = 2
          · subst h2_
            obtain ⟨y1, hy1⟩ : ∃ x, wc.alloc (.cells #[.string ⟨#[97, 99, 99, 101, 112, 116]⟩, .string ⟨#[120, 44, 32, 32, 121]⟩] 48) = x := ⟨_, rfl⟩
            have HX1 := Lib.hid hy1
            have hbn : Below wc.heap.size wc y1 := by rw [← hy1]; exact below_al (Below.refl _ _) _
            have HM1 := Lib.hid (HM.out.below hbn)
            have HD1 := Lib.hid (HBW.out.trans (hbn.mono HBW.out.size))
            have HF1 : Hid (FieldsIn y1.heap.size y1 (some ⟨wc.heap.size, 0, none⟩) [(⟨#[97, 99, 99, 101, 112, 116]⟩, ⟨#[120, 44, 32, 32, 121]⟩)]) := Lib.hid (row_at (l := [(⟨#[97, 99, 99, 101, 112, 116]⟩, ⟨#[120, 44, 32, 32, 121]⟩)]) (by rw [← hy1]; exact heap_alloc_new wc _))
            clear hy1 hbn
            have kx := (four_at HM.out.block).2.2.1
            go_wp2_with ((with_reducible show wpList _ _ _ (⟨some 63, _, _, _, _, _⟩ :: _) _ _); (change wpList _ _ _ _ _ (wc.alloc (.cells #[.string ⟨#[97, 99, 99, 101, 112, 116]⟩, .string ⟨#[120, 44, 32, 32, 121]⟩] 48))); rw [HX1.out]; refine wpList_plain rfl fun K' hK' => ?_; refine wp_msg_append HM1.out (by decide) (.tmp 60) (.tmp 62) rfl 63 rfl rfl (some ⟨wc.heap.size, 0, none⟩) 1 1 [(⟨#[97, 99, 99, 101, 112, 116]⟩, ⟨#[120, 44, 32, 32, 121]⟩)] rfl rfl HF1.out (fun e => by cases e) (by simp) (small_one (by decide) (by decide)) rfl ?_; intro fa2 n2 fc2 x3 s2_ sf HN HF HGR; refine hK' _ _ ?_)
            go_meet
            exact ⟨fa2, n2, fc2, _, HN, Lib.hid (HF.out v0 HPG.out HD1.out)⟩
          have g2_ : ((k3 : Int) == 2) = false := by simp; omega
          by_cases h3_ : k3 = 3
          · subst h3_
            obtain ⟨y1, hy1⟩ : ∃ x, wc.alloc (.cells #[.string ⟨#[65, 99, 99, 101, 112, 116]⟩, .string ⟨#[120]⟩, .string ⟨#[76, 97, 110, 103]⟩, .string ⟨#[101, 110]⟩] 48) = x := ⟨_, rfl⟩
            have HX1 := Lib.hid hy1
            have hbn : Below wc.heap.size wc y1 := by rw [← hy1]; exact below_al (Below.refl _ _) _
            have HM1 := Lib.hid (HM.out.below hbn)
            have HD1 := Lib.hid (HBW.out.trans (hbn.mono HBW.out.size))
            have HF1 : Hid (FieldsIn y1.heap.size y1 (some ⟨wc.heap.size, 0, none⟩) [(⟨#[65, 99, 99, 101, 112, 116]⟩, ⟨#[120]⟩), (⟨#[76, 97, 110, 103]⟩, ⟨#[101, 110]⟩)]) := Lib.hid (row_at (l := [(⟨#[65, 99, 99, 101, 112, 116]⟩, ⟨#[120]⟩), (⟨#[76, 97, 110, 103]⟩, ⟨#[101, 110]⟩)]) (by rw [← hy1]; exact heap_alloc_new wc _))
            clear hy1 hbn
            have kx := (four_at HM.out.block).2.2.1
            go_wp2_with ((with_reducible show wpList _ _ _ (⟨some 72, _, _, _, _, _⟩ :: _) _ _); (change wpList _ _ _ _ _ (wc.alloc (.cells #[.string ⟨#[65, 99, 99, 101, 112, 116]⟩, .string ⟨#[120]⟩, .string ⟨#[76, 97, 110, 103]⟩, .string ⟨#[101, 110]⟩] 48))); rw [HX1.out]; refine wpList_plain rfl fun K' hK' => ?_; refine wp_msg_append HM1.out (by decide) (.tmp 68) (.tmp 71) rfl 72 rfl rfl (some ⟨wc.heap.size, 0, none⟩) 2 2 [(⟨#[65, 99, 99, 101, 112, 116]⟩, ⟨#[120]⟩), (⟨#[76, 97, 110, 103]⟩, ⟨#[101, 110]⟩)] rfl rfl HF1.out (fun e => by cases e) (by simp) (small_cons (by decide) (by decide) (small_one (by decide) (by decide))) rfl ?_; intro fa2 n2 fc2 x3 s2_ sf HN HF HGR; refine hK' _ _ ?_)
            go_meet
            exact ⟨fa2, n2, fc2, _, HN, Lib.hid (HF.out v0 HPG.out HD1.out)⟩
          have g3_ : ((k3 : Int) == 3) = false := by simp; omega
          clear h1_ h2_ h3_
          go_wp2_with fail
          go_meet
          exact ⟨_, _, _, _, Lib.hid (HM.out.more (by decide)), HBW⟩
        case rest =>
          clear HM HBW
          obtain ⟨fa, n, fc, L, HM, HBW⟩ := hcut
          have kq := (HQ.out wc HBW.out).2.2.2.2.1
          go_upto_block 1 with (fail)
          clear kq
          go_cut [] (fun wx => ∃ fa n fc L, Hid (Msg 25 p 12 wx (.string M) (.string P) (.slice fa n fc) (.slice none 0 0) L) ∧ Hid (Below v0.heap.size v0 wx))
          case first =>
            by_cases h1_ : k4 = 1
            · subst h1_
              obtain ⟨y1, hy1⟩ : ∃ x, wc.alloc (.cells #[.string ⟨#[73, 102, 45, 78, 111, 110, 101, 45, 77, 97, 116, 99, 104]⟩, .string ⟨#[34, 97, 34]⟩] 48) = x := ⟨_, rfl⟩
              have HX1 := Lib.hid hy1
              have hbn : Below wc.heap.size wc y1 := by rw [← hy1]; exact below_al (Below.refl _ _) _
              have HM1 := Lib.hid (HM.out.below hbn)
              have HD1 := Lib.hid (HBW.out.trans (hbn.mono HBW.out.size))
              have HF1 : Hid (FieldsIn y1.heap.size y1 (some ⟨wc.heap.size, 0, none⟩) [(⟨#[73, 102, 45, 78, 111, 110, 101, 45, 77, 97, 116, 99, 104]⟩, ⟨#[34, 97, 34]⟩)]) := Lib.hid (row_at (l := [(⟨#[73, 102, 45, 78, 111, 110, 101, 45, 77, 97, 116, 99, 104]⟩, ⟨#[34, 97, 34]⟩)]) (by rw [← hy1]; exact heap_alloc_new wc _))
              clear hy1 hbn
              have kx := (four_at HM.out.block).2.2.1
              go_wp2_with ((with_reducible show wpList _ _ _ (⟨some 83, _, _, _, _, _⟩ :: _) _ _); (change wpList _ _ _ _ _ (wc.alloc (.cells #[.string ⟨#[73, 102, 45, 78, 111, 110, 101, 45, 77, 97, 116, 99, 104]⟩, .string ⟨#[34, 97, 34]⟩] 48))); rw [HX1.out]; refine wpList_plain rfl fun K' hK' => ?_; refine wp_msg_append HM1.out (by decide) (.tmp 80) (.tmp 82) rfl 83 rfl rfl (some ⟨wc.heap.size, 0, none⟩) 1 1 [(⟨#[73, 102, 45, 78, 111, 110, 101, 45, 77, 97, 116, 99, 104]⟩, ⟨#[34, 97, 34]⟩)] rfl rfl HF1.out (fun e => by cases e) (by simp) (small_one (by decide) (by decide)) rfl ?_; intro fa2 n2 fc2 x3 s2_ sf HN HF HGR; refine hK' _ _ ?_)
              go_meet
              exact ⟨fa2, n2, fc2, _, HN, Lib.hid (HF.out v0 HPG.out HD1.out)⟩
            have g1_ : ((k4 : Int) == 1) = false := by simp; omega
            by_cases h2_ : k4 = 2
            · subst h2_
              have HDd : Hid (Below v0.heap.size v0 wc.drew) := Lib.hid HBW.out.drew
              have HMd := Lib.hid (HM.out.below ((Below.refl _ _).drew))
              go_upto_region 17 with (fail)
              refine wp_region_held_drew (S := fun _ => True) (by kernel_rfl) trivial (fun hH => ?_)
              obtain ⟨x0, hx0⟩ : ∃ y, wc.drew = y := ⟨_, rfl⟩
              rw [hx0] at HDd HMd ⊢
              clear hx0
              refine wpAnyH_takeTo (i := 0) (d := some 87) (v := .pointer (some ⟨p, 2, none⟩)) rfl rfl (by kernel_rfl) (by kernel_rfl) (by kernel_rfl) (fun _ _ _ h => h) (Or.inl ⟨by rfl, fun x hx => ?_⟩) hH ?_
              · have f0 := hx
                go_simp
              try simp only [Act.put, List.setIfInBounds_toArray, List.set_cons_zero, List.set_cons_succ]
              refine wpAnyH_ready (rs := [1, 2]) (by kernel_rfl) (by simp) (AllReadyH.cons rfl (fun K hK => ?_) (AllReadyH.cons rfl (fun K hK => ?_) AllReadyH.nil))
              · rw [if_pos (by rfl)]
                have kx := (four_at HMd.out.block).2.2.1
                go_simp
                clear kx
                refine hK.out _ _ trivial (fun hH => ?_)
                clear hK K
                try simp only [Act.put, List.setIfInBounds_toArray, List.set_cons_zero, List.set_cons_succ]
                refine wpAnyH_ready (rs := [2]) (by kernel_rfl) (by simp) (AllReadyH.cons rfl (fun K hK => ?_) AllReadyH.nil)
                · rw [if_pos (by rfl)]
                  go_simp
                  go_at_call 24
                  refine Calls.mono (textS_any _ _) ?_
                  rintro e z1 ⟨sz1, rfl, zz, hbn⟩
                  have Zz1 : Hid (sz1.size ≤ 1000) := Lib.hid (by omega)
                  have HMz1 := Lib.hid (HMd.out.below hbn)
                  have HDz1 := Lib.hid (HDd.out.trans (hbn.mono HDd.out.size))
                  refine hK.out _ _ trivial (fun hH => ?_)
                  clear hK K hbn zz
                  try simp only [Act.put, List.setIfInBounds_toArray, List.set_cons_zero, List.set_cons_succ]
                  refine wpAnyH_takeTo (i := 3) (d := some 90) (v := .agg #[.string ⟨#[73, 102, 45, 77, 111, 100, 105, 102, 105, 101, 100, 45, 83, 105, 110, 99, 101]⟩, .string sz1]) rfl rfl (by kernel_rfl) (by kernel_rfl) (by kernel_rfl) (fun _ _ _ h => h) (Or.inl ⟨by rfl, fun x hx => ?_⟩) hH ?_
                  · have f0 := hx
                    go_simp
                  try simp only [Act.put, List.setIfInBounds_toArray, List.set_cons_zero, List.set_cons_succ]
                  refine wpAnyH_ready (rs := [4]) (by kernel_rfl) (by simp) (AllReadyH.cons rfl (fun K hK => ?_) AllReadyH.nil)
                  · rw [if_pos (by rfl)]
                    go_simp
                    obtain ⟨z2, hy⟩ : ∃ y, z1.alloc (.cells #[.string ⟨#[73, 102, 45, 77, 111, 100, 105, 102, 105, 101, 100, 45, 83, 105, 110, 99, 101]⟩, .string sz1] 48) = y := ⟨_, rfl⟩
                    have hbn : Below z1.heap.size z1 z2 := by rw [← hy]; exact below_al (Below.refl _ _) _
                    have HMz2 := Lib.hid (HMz1.out.below hbn)
                    have HDz2 := Lib.hid (HDz1.out.trans (hbn.mono HDz1.out.size))
                    have HFz2 : Hid (FieldsIn z2.heap.size z2 (some ⟨z1.heap.size, 0, none⟩) [(⟨#[73, 102, 45, 77, 111, 100, 105, 102, 105, 101, 100, 45, 83, 105, 110, 99, 101]⟩, sz1)]) := Lib.hid (one_at (f := (⟨#[73, 102, 45, 77, 111, 100, 105, 102, 105, 101, 100, 45, 83, 105, 110, 99, 101]⟩, sz1)) (by rw [← hy]; exact heap_alloc_new z1 _))
                    change K _ (z1.alloc (.cells #[.string ⟨#[73, 102, 45, 77, 111, 100, 105, 102, 105, 101, 100, 45, 83, 105, 110, 99, 101]⟩, .string sz1] 48))
                    rw [hy]
                    refine hK.out _ _ trivial (fun hH => ?_)
                    clear hK K hy hbn
                    try simp only [Act.put, List.setIfInBounds_toArray, List.set_cons_zero, List.set_cons_succ]
                    refine wpAnyH_ready (rs := [5]) (by kernel_rfl) (by simp) (AllReadyH.cons rfl (fun K hK => ?_) AllReadyH.nil)
                    · rw [if_pos (by rfl)]
                      refine wp_msg_append HMz2.out (by decide) (.tmp 88) (.tmp 91) rfl 92 rfl rfl (some ⟨z1.heap.size, 0, none⟩) 1 1 [(⟨#[73, 102, 45, 77, 111, 100, 105, 102, 105, 101, 100, 45, 83, 105, 110, 99, 101]⟩, sz1)] rfl rfl HFz2.out (fun e => by cases e) (by simp) (small_one (by decide) Zz1.out) rfl ?_
                      intro fa2 n2 fc2 x3 s2_ sf HN HF HGR
                      refine hK.out _ _ trivial (fun hH => ?_)
                      clear hK K
                      try simp only [Act.put, List.setIfInBounds_toArray, List.set_cons_zero, List.set_cons_succ]
                      refine wpAnyH_takeTo (i := 6) (d := some 93) (v := .pointer (some ⟨p, 2, none⟩)) rfl rfl (by kernel_rfl) (by kernel_rfl) (by kernel_rfl) (fun _ _ _ h => h) (Or.inl ⟨by rfl, fun x hx => ?_⟩) hH ?_
                      · have f0 := hx
                        go_simp
                      try simp only [Act.put, List.setIfInBounds_toArray, List.set_cons_zero, List.set_cons_succ]
                      refine wpAnyH_stepTo (i := 7) (d := none) (by kernel_rfl) rfl rfl (by rfl) (fun _ y => y = x3.setCell ⟨p, 2, none⟩ (.slice fa2 n2 fc2)) (fun K hK => ?_) ?_
                      · go_simp
                        exact hK (.bool true) _ rfl
                      rintro _ _ rfl
                      refine ⟨trivial, ?_⟩
                      refine wpAnyH_done (by kernel_rfl) ?_ _
                      go_wp2_with fail
                      go_meet
                      exact ⟨fa2, n2, fc2, _, HN, Lib.hid (HF.out v0 HPG.out HDz2.out)⟩
              · rw [if_pos (by rfl)]
                go_simp
                go_at_call 24
                refine Calls.mono (textS_any _ _) ?_
                rintro e z4 ⟨sz4, rfl, zz, hbn⟩
                have Zz4 : Hid (sz4.size ≤ 1000) := Lib.hid (by omega)
                have HMz4 := Lib.hid (HMd.out.below hbn)
                have HDz4 := Lib.hid (HDd.out.trans (hbn.mono HDd.out.size))
                refine hK.out _ _ trivial (fun hH => ?_)
                clear hK K hbn zz
                try simp only [Act.put, List.setIfInBounds_toArray, List.set_cons_zero, List.set_cons_succ]
                refine wpAnyH_takeTo (i := 3) (d := some 90) (v := .agg #[.string ⟨#[73, 102, 45, 77, 111, 100, 105, 102, 105, 101, 100, 45, 83, 105, 110, 99, 101]⟩, .string sz4]) rfl rfl (by kernel_rfl) (by kernel_rfl) (by kernel_rfl) (fun _ _ _ h => h) (Or.inl ⟨by rfl, fun x hx => ?_⟩) hH ?_
                · have f0 := hx
                  go_simp
                try simp only [Act.put, List.setIfInBounds_toArray, List.set_cons_zero, List.set_cons_succ]
                refine wpAnyH_ready (rs := [1, 4]) (by kernel_rfl) (by simp) (AllReadyH.cons rfl (fun K hK => ?_) (AllReadyH.cons rfl (fun K hK => ?_) AllReadyH.nil))
                · rw [if_pos (by rfl)]
                  have kx := (four_at HMz4.out.block).2.2.1
                  go_simp
                  clear kx
                  refine hK.out _ _ trivial (fun hH => ?_)
                  clear hK K
                  try simp only [Act.put, List.setIfInBounds_toArray, List.set_cons_zero, List.set_cons_succ]
                  refine wpAnyH_ready (rs := [4]) (by kernel_rfl) (by simp) (AllReadyH.cons rfl (fun K hK => ?_) AllReadyH.nil)
                  · rw [if_pos (by rfl)]
                    go_simp
                    obtain ⟨z5, hy⟩ : ∃ y, z4.alloc (.cells #[.string ⟨#[73, 102, 45, 77, 111, 100, 105, 102, 105, 101, 100, 45, 83, 105, 110, 99, 101]⟩, .string sz4] 48) = y := ⟨_, rfl⟩
                    have hbn : Below z4.heap.size z4 z5 := by rw [← hy]; exact below_al (Below.refl _ _) _
                    have HMz5 := Lib.hid (HMz4.out.below hbn)
                    have HDz5 := Lib.hid (HDz4.out.trans (hbn.mono HDz4.out.size))
                    have HFz5 : Hid (FieldsIn z5.heap.size z5 (some ⟨z4.heap.size, 0, none⟩) [(⟨#[73, 102, 45, 77, 111, 100, 105, 102, 105, 101, 100, 45, 83, 105, 110, 99, 101]⟩, sz4)]) := Lib.hid (one_at (f := (⟨#[73, 102, 45, 77, 111, 100, 105, 102, 105, 101, 100, 45, 83, 105, 110, 99, 101]⟩, sz4)) (by rw [← hy]; exact heap_alloc_new z4 _))
                    change K _ (z4.alloc (.cells #[.string ⟨#[73, 102, 45, 77, 111, 100, 105, 102, 105, 101, 100, 45, 83, 105, 110, 99, 101]⟩, .string sz4] 48))
                    rw [hy]
                    refine hK.out _ _ trivial (fun hH => ?_)
                    clear hK K hy hbn
                    try simp only [Act.put, List.setIfInBounds_toArray, List.set_cons_zero, List.set_cons_succ]
                    refine wpAnyH_ready (rs := [5]) (by kernel_rfl) (by simp) (AllReadyH.cons rfl (fun K hK => ?_) AllReadyH.nil)
                    · rw [if_pos (by rfl)]
                      refine wp_msg_append HMz5.out (by decide) (.tmp 88) (.tmp 91) rfl 92 rfl rfl (some ⟨z4.heap.size, 0, none⟩) 1 1 [(⟨#[73, 102, 45, 77, 111, 100, 105, 102, 105, 101, 100, 45, 83, 105, 110, 99, 101]⟩, sz4)] rfl rfl HFz5.out (fun e => by cases e) (by simp) (small_one (by decide) Zz4.out) rfl ?_
                      intro fa2 n2 fc2 x3 s2_ sf HN HF HGR
                      refine hK.out _ _ trivial (fun hH => ?_)
                      clear hK K
                      try simp only [Act.put, List.setIfInBounds_toArray, List.set_cons_zero, List.set_cons_succ]
                      refine wpAnyH_takeTo (i := 6) (d := some 93) (v := .pointer (some ⟨p, 2, none⟩)) rfl rfl (by kernel_rfl) (by kernel_rfl) (by kernel_rfl) (fun _ _ _ h => h) (Or.inl ⟨by rfl, fun x hx => ?_⟩) hH ?_
                      · have f0 := hx
                        go_simp
                      try simp only [Act.put, List.setIfInBounds_toArray, List.set_cons_zero, List.set_cons_succ]
                      refine wpAnyH_stepTo (i := 7) (d := none) (by kernel_rfl) rfl rfl (by rfl) (fun _ y => y = x3.setCell ⟨p, 2, none⟩ (.slice fa2 n2 fc2)) (fun K hK => ?_) ?_
                      · go_simp
                        exact hK (.bool true) _ rfl
                      rintro _ _ rfl
                      refine ⟨trivial, ?_⟩
                      refine wpAnyH_done (by kernel_rfl) ?_ _
                      go_wp2_with fail
                      go_meet
                      exact ⟨fa2, n2, fc2, _, HN, Lib.hid (HF.out v0 HPG.out HDz5.out)⟩
                · rw [if_pos (by rfl)]
                  go_simp
                  obtain ⟨z7, hy⟩ : ∃ y, z4.alloc (.cells #[.string ⟨#[73, 102, 45, 77, 111, 100, 105, 102, 105, 101, 100, 45, 83, 105, 110, 99, 101]⟩, .string sz4] 48) = y := ⟨_, rfl⟩
                  have hbn : Below z4.heap.size z4 z7 := by rw [← hy]; exact below_al (Below.refl _ _) _
                  have HMz7 := Lib.hid (HMz4.out.below hbn)
                  have HDz7 := Lib.hid (HDz4.out.trans (hbn.mono HDz4.out.size))
                  have HFz7 : Hid (FieldsIn z7.heap.size z7 (some ⟨z4.heap.size, 0, none⟩) [(⟨#[73, 102, 45, 77, 111, 100, 105, 102, 105, 101, 100, 45, 83, 105, 110, 99, 101]⟩, sz4)]) := Lib.hid (one_at (f := (⟨#[73, 102, 45, 77, 111, 100, 105, 102, 105, 101, 100, 45, 83, 105, 110, 99, 101]⟩, sz4)) (by rw [← hy]; exact heap_alloc_new z4 _))
                  change K _ (z4.alloc (.cells #[.string ⟨#[73, 102, 45, 77, 111, 100, 105, 102, 105, 101, 100, 45, 83, 105, 110, 99, 101]⟩, .string sz4] 48))
                  rw [hy]
                  refine hK.out _ _ trivial (fun hH => ?_)
                  clear hK K hy hbn
                  try simp only [Act.put, List.setIfInBounds_toArray, List.set_cons_zero, List.set_cons_succ]
                  refine wpAnyH_ready (rs := [1]) (by kernel_rfl) (by simp) (AllReadyH.cons rfl (fun K hK => ?_) AllReadyH.nil)
                  · rw [if_pos (by rfl)]
                    have kx := (four_at HMz7.out.block).2.2.1
                    go_simp
                    clear kx
                    refine hK.out _ _ trivial (fun hH => ?_)
                    clear hK K
                    try simp only [Act.put, List.setIfInBounds_toArray, List.set_cons_zero, List.set_cons_succ]
                    refine wpAnyH_ready (rs := [5]) (by kernel_rfl) (by simp) (AllReadyH.cons rfl (fun K hK => ?_) AllReadyH.nil)
                    · rw [if_pos (by rfl)]
                      refine wp_msg_append HMz7.out (by decide) (.tmp 88) (.tmp 91) rfl 92 rfl rfl (some ⟨z4.heap.size, 0, none⟩) 1 1 [(⟨#[73, 102, 45, 77, 111, 100, 105, 102, 105, 101, 100, 45, 83, 105, 110, 99, 101]⟩, sz4)] rfl rfl HFz7.out (fun e => by cases e) (by simp) (small_one (by decide) Zz4.out) rfl ?_
                      intro fa2 n2 fc2 x3 s2_ sf HN HF HGR
                      refine hK.out _ _ trivial (fun hH => ?_)
                      clear hK K
                      try simp only [Act.put, List.setIfInBounds_toArray, List.set_cons_zero, List.set_cons_succ]
                      refine wpAnyH_takeTo (i := 6) (d := some 93) (v := .pointer (some ⟨p, 2, none⟩)) rfl rfl (by kernel_rfl) (by kernel_rfl) (by kernel_rfl) (fun _ _ _ h => h) (Or.inl ⟨by rfl, fun x hx => ?_⟩) hH ?_
                      · have f0 := hx
                        go_simp
                      try simp only [Act.put, List.setIfInBounds_toArray, List.set_cons_zero, List.set_cons_succ]
                      refine wpAnyH_stepTo (i := 7) (d := none) (by kernel_rfl) rfl rfl (by rfl) (fun _ y => y = x3.setCell ⟨p, 2, none⟩ (.slice fa2 n2 fc2)) (fun K hK => ?_) ?_
                      · go_simp
                        exact hK (.bool true) _ rfl
                      rintro _ _ rfl
                      refine ⟨trivial, ?_⟩
                      refine wpAnyH_done (by kernel_rfl) ?_ _
                      go_wp2_with fail
                      go_meet
                      exact ⟨fa2, n2, fc2, _, HN, Lib.hid (HF.out v0 HPG.out HDz7.out)⟩
            have g2_ : ((k4 : Int) == 2) = false := by simp; omega
            by_cases h3_ : k4 = 3
            · subst h3_
              obtain ⟨y1, hy1⟩ : ∃ x, wc.alloc (.cells #[.string ⟨#[67, 111, 110, 110, 101, 99, 116, 105, 111, 110]⟩, .string ⟨#[99, 108, 111, 115, 101]⟩] 48) = x := ⟨_, rfl⟩
              have HX1 := Lib.hid hy1
              have hbn : Below wc.heap.size wc y1 := by rw [← hy1]; exact below_al (Below.refl _ _) _
              have HM1 := Lib.hid (HM.out.below hbn)
              have HD1 := Lib.hid (HBW.out.trans (hbn.mono HBW.out.size))
              have HF1 : Hid (FieldsIn y1.heap.size y1 (some ⟨wc.heap.size, 0, none⟩) [(⟨#[67, 111, 110, 110, 101, 99, 116, 105, 111, 110]⟩, ⟨#[99, 108, 111, 115, 101]⟩)]) := Lib.hid (row_at (l := [(⟨#[67, 111, 110, 110, 101, 99, 116, 105, 111, 110]⟩, ⟨#[99, 108, 111, 115, 101]⟩)]) (by rw [← hy1]; exact heap_alloc_new wc _))
              clear hy1 hbn
              have kx := (four_at HM.out.block).2.2.1
              go_wp2_with ((with_reducible show wpList _ _ _ (⟨some 100, _, _, _, _, _⟩ :: _) _ _); (change wpList _ _ _ _ _ (wc.alloc (.cells #[.string ⟨#[67, 111, 110, 110, 101, 99, 116, 105, 111, 110]⟩, .string ⟨#[99, 108, 111, 115, 101]⟩] 48))); rw [HX1.out]; refine wpList_plain rfl fun K' hK' => ?_; refine wp_msg_append HM1.out (by decide) (.tmp 97) (.tmp 99) rfl 100 rfl rfl (some ⟨wc.heap.size, 0, none⟩) 1 1 [(⟨#[67, 111, 110, 110, 101, 99, 116, 105, 111, 110]⟩, ⟨#[99, 108, 111, 115, 101]⟩)] rfl rfl HF1.out (fun e => by cases e) (by simp) (small_one (by decide) (by decide)) rfl ?_; intro fa2 n2 fc2 x3 s2_ sf HN HF HGR; refine hK' _ _ ?_)
              go_meet
              exact ⟨fa2, n2, fc2, _, HN, Lib.hid (HF.out v0 HPG.out HD1.out)⟩
            have g3_ : ((k4 : Int) == 3) = false := by simp; omega
            by_cases h4_ : k4 = 4
            · subst h4_
              obtain ⟨y1, hy1⟩ : ∃ x, wc.alloc (.cells #[.string ⟨#[65, 117, 116, 104, 111, 114, 105, 122, 97, 116, 105, 111, 110]⟩, .string ⟨#[109, 101]⟩] 48) = x := ⟨_, rfl⟩
              have HX1 := Lib.hid hy1
              have hbn : Below wc.heap.size wc y1 := by rw [← hy1]; exact below_al (Below.refl _ _) _
              have HM1 := Lib.hid (HM.out.below hbn)
              have HD1 := Lib.hid (HBW.out.trans (hbn.mono HBW.out.size))
              have HF1 : Hid (FieldsIn y1.heap.size y1 (some ⟨wc.heap.size, 0, none⟩) [(⟨#[65, 117, 116, 104, 111, 114, 105, 122, 97, 116, 105, 111, 110]⟩, ⟨#[109, 101]⟩)]) := Lib.hid (row_at (l := [(⟨#[65, 117, 116, 104, 111, 114, 105, 122, 97, 116, 105, 111, 110]⟩, ⟨#[109, 101]⟩)]) (by rw [← hy1]; exact heap_alloc_new wc _))
              clear hy1 hbn
              have kx := (four_at HM.out.block).2.2.1
              go_wp2_with ((with_reducible show wpList _ _ _ (⟨some 108, _, _, _, _, _⟩ :: _) _ _); (change wpList _ _ _ _ _ (wc.alloc (.cells #[.string ⟨#[65, 117, 116, 104, 111, 114, 105, 122, 97, 116, 105, 111, 110]⟩, .string ⟨#[109, 101]⟩] 48))); rw [HX1.out]; refine wpList_plain rfl fun K' hK' => ?_; refine wp_msg_append HM1.out (by decide) (.tmp 105) (.tmp 107) rfl 108 rfl rfl (some ⟨wc.heap.size, 0, none⟩) 1 1 [(⟨#[65, 117, 116, 104, 111, 114, 105, 122, 97, 116, 105, 111, 110]⟩, ⟨#[109, 101]⟩)] rfl rfl HF1.out (fun e => by cases e) (by simp) (small_one (by decide) (by decide)) rfl ?_; intro fa2 n2 fc2 x3 s2_ sf HN HF HGR; refine hK' _ _ ?_)
              go_meet
              exact ⟨fa2, n2, fc2, _, HN, Lib.hid (HF.out v0 HPG.out HD1.out)⟩
            have g4_ : ((k4 : Int) == 4) = false := by simp; omega
            by_cases h5_ : k4 = 5
            · subst h5_
              obtain ⟨y1, hy1⟩ : ∃ x, wc.alloc (.cells #[.string ⟨#[67, 111, 110, 110, 101, 99, 116, 105, 111, 110]⟩, .string ⟨#[88, 45, 72, 111, 112]⟩, .string ⟨#[88, 45, 72, 111, 112]⟩, .string ⟨#[49]⟩, .string ⟨#[86, 105, 97]⟩, .string ⟨#[49, 46, 48, 32, 122]⟩] 48) = x := ⟨_, rfl⟩
              have HX1 := Lib.hid hy1
              have hbn : Below wc.heap.size wc y1 := by rw [← hy1]; exact below_al (Below.refl _ _) _
              have HM1 := Lib.hid (HM.out.below hbn)
              have HD1 := Lib.hid (HBW.out.trans (hbn.mono HBW.out.size))
              have HF1 : Hid (FieldsIn y1.heap.size y1 (some ⟨wc.heap.size, 0, none⟩) [(⟨#[67, 111, 110, 110, 101, 99, 116, 105, 111, 110]⟩, ⟨#[88, 45, 72, 111, 112]⟩), (⟨#[88, 45, 72, 111, 112]⟩, ⟨#[49]⟩), (⟨#[86, 105, 97]⟩, ⟨#[49, 46, 48, 32, 122]⟩)]) := Lib.hid (row_at (l := [(⟨#[67, 111, 110, 110, 101, 99, 116, 105, 111, 110]⟩, ⟨#[88, 45, 72, 111, 112]⟩), (⟨#[88, 45, 72, 111, 112]⟩, ⟨#[49]⟩), (⟨#[86, 105, 97]⟩, ⟨#[49, 46, 48, 32, 122]⟩)]) (by rw [← hy1]; exact heap_alloc_new wc _))
              clear hy1 hbn
              have kx := (four_at HM.out.block).2.2.1
              go_wp2_with ((with_reducible show wpList _ _ _ (⟨some 118, _, _, _, _, _⟩ :: _) _ _); (change wpList _ _ _ _ _ (wc.alloc (.cells #[.string ⟨#[67, 111, 110, 110, 101, 99, 116, 105, 111, 110]⟩, .string ⟨#[88, 45, 72, 111, 112]⟩, .string ⟨#[88, 45, 72, 111, 112]⟩, .string ⟨#[49]⟩, .string ⟨#[86, 105, 97]⟩, .string ⟨#[49, 46, 48, 32, 122]⟩] 48))); rw [HX1.out]; refine wpList_plain rfl fun K' hK' => ?_; refine wp_msg_append HM1.out (by decide) (.tmp 113) (.tmp 117) rfl 118 rfl rfl (some ⟨wc.heap.size, 0, none⟩) 3 3 [(⟨#[67, 111, 110, 110, 101, 99, 116, 105, 111, 110]⟩, ⟨#[88, 45, 72, 111, 112]⟩), (⟨#[88, 45, 72, 111, 112]⟩, ⟨#[49]⟩), (⟨#[86, 105, 97]⟩, ⟨#[49, 46, 48, 32, 122]⟩)] rfl rfl HF1.out (fun e => by cases e) (by simp) (small_cons (by decide) (by decide) (small_cons (by decide) (by decide) (small_one (by decide) (by decide)))) rfl ?_; intro fa2 n2 fc2 x3 s2_ sf HN HF HGR; refine hK' _ _ ?_)
              go_meet
              exact ⟨fa2, n2, fc2, _, HN, Lib.hid (HF.out v0 HPG.out HD1.out)⟩
            have g5_ : ((k4 : Int) == 5) = false := by simp; omega
            by_cases h6_ : k4 = 6
            · subst h6_
              obtain ⟨y1, hy1⟩ : ∃ x, wc.alloc (.cells #[.string ⟨#[82, 97, 110, 103, 101]⟩, .string ⟨#[98, 121, 116, 101, 115, 61, 48, 45, 49]⟩] 48) = x := ⟨_, rfl⟩
              have HX1 := Lib.hid hy1
              have hbn : Below wc.heap.size wc y1 := by rw [← hy1]; exact below_al (Below.refl _ _) _
              have HM1 := Lib.hid (HM.out.below hbn)
              have HD1 := Lib.hid (HBW.out.trans (hbn.mono HBW.out.size))
              have HF1 : Hid (FieldsIn y1.heap.size y1 (some ⟨wc.heap.size, 0, none⟩) [(⟨#[82, 97, 110, 103, 101]⟩, ⟨#[98, 121, 116, 101, 115, 61, 48, 45, 49]⟩)]) := Lib.hid (row_at (l := [(⟨#[82, 97, 110, 103, 101]⟩, ⟨#[98, 121, 116, 101, 115, 61, 48, 45, 49]⟩)]) (by rw [← hy1]; exact heap_alloc_new wc _))
              clear hy1 hbn
              have kx := (four_at HM.out.block).2.2.1
              go_wp2_with ((with_reducible show wpList _ _ _ (⟨some 126, _, _, _, _, _⟩ :: _) _ _); (change wpList _ _ _ _ _ (wc.alloc (.cells #[.string ⟨#[82, 97, 110, 103, 101]⟩, .string ⟨#[98, 121, 116, 101, 115, 61, 48, 45, 49]⟩] 48))); rw [HX1.out]; refine wpList_plain rfl fun K' hK' => ?_; refine wp_msg_append HM1.out (by decide) (.tmp 123) (.tmp 125) rfl 126 rfl rfl (some ⟨wc.heap.size, 0, none⟩) 1 1 [(⟨#[82, 97, 110, 103, 101]⟩, ⟨#[98, 121, 116, 101, 115, 61, 48, 45, 49]⟩)] rfl rfl HF1.out (fun e => by cases e) (by simp) (small_one (by decide) (by decide)) rfl ?_; intro fa2 n2 fc2 x3 s2_ sf HN HF HGR; refine hK' _ _ ?_)
              go_meet
              exact ⟨fa2, n2, fc2, _, HN, Lib.hid (HF.out v0 HPG.out HD1.out)⟩
            have g6_ : ((k4 : Int) == 6) = false := by simp; omega
            clear h1_ h2_ h3_ h4_ h5_ h6_
            go_wp2_with fail
            go_meet
            exact ⟨_, _, _, _, Lib.hid (HM.out.more (by decide)), HBW⟩
          case rest =>
            clear HM HBW
            obtain ⟨fa, n, fc, L, HM, HBW⟩ := hcut
            have km := (four_at HM.out.block).1
            go_upto_if 130 with (fail)
            clear km
            go_cut [] (fun wx => ∃ fa n fc L ba bn bc, Hid (Msg 25 p 12 wx (.string M) (.string P) (.slice fa n fc) (.slice ba bn bc) L) ∧ Hid (Below v0.heap.size v0 wx))
            case first =>
              obtain ⟨b7, hb7⟩ : ∃ b, (M.toList == [80, 79, 83, 84]) = b := ⟨_, rfl⟩
              rw [hb7]
              clear hb7
              cases b7 with
              | false =>
                go_wp2_with fail
                go_meet
                exact ⟨_, _, _, _, _, _, _, HM, HBW⟩
              | true =>
                obtain ⟨y1, hy1⟩ : ∃ x, wc.alloc (.cells #[.int .u8 48, .int .u8 49, .int .u8 50, .int .u8 51, .int .u8 52, .int .u8 53, .int .u8 54, .int .u8 55, .int .u8 56, .int .u8 57] 5 (10, 11)) = x := ⟨_, rfl⟩
                have hbn : Below wc.heap.size wc y1 := by rw [← hy1]; exact below_al (Below.refl _ _) _
                have HX1 := Lib.hid hy1
                have HM1 := Lib.hid (HM.out.below hbn)
                have HD1 := Lib.hid (HBW.out.trans (hbn.mono HBW.out.size))
                clear hy1 hbn
                have kc := Lib.run_convert_bytes_const (P := Tryz.prog) wc 23 5 #[.int .u8 48, .int .u8 49, .int .u8 50, .int .u8 51, .int .u8 52, .int .u8 53, .int .u8 54, .int .u8 55, .int .u8 56, .int .u8 57] 10 10 Tryz.underlying23 Tryz.underlying5
                have kq := (HQ.out y1 HD1.out).2.2.2.2.2
                have kb := (four_at HM1.out.block).2.2.2
                have kf := heap_frozen HM1.out.block 3
                go_wp2_with ((with_reducible show wpList _ _ _ (⟨some 133, _, _, _, _, _⟩ :: _) _ _); (change wpList _ _ _ _ _ (wc.alloc (.cells #[.int .u8 48, .int .u8 49, .int .u8 50, .int .u8 51, .int .u8 52, .int .u8 53, .int .u8 54, .int .u8 55, .int .u8 56, .int .u8 57] 5 (10, 11)))); rw [HX1.out])
                go_meet
                exact ⟨_, _, _, _, _, _, _, Lib.hid (HM1.out.body _), Lib.hid (below_cell HD1.out HPG.out _)⟩
            case rest =>
              clear HM HBW
              obtain ⟨fa, n, fc, L, ba, bn, bc, HM, HBW⟩ := hcut
              obtain ⟨fa1, fc1, hv, hin⟩ := HM.out.slice
              obtain ⟨rfl, rfl, rfl⟩ : fa = fa1 ∧ n = L.length ∧ fc = fc1 := by simpa using hv
              have hs0 := HS0.out
              have hp0 := HPW.out
              have HGZ := Lib.hid (HZ.out wc HBW.out)
              have HR2 := Lib.hid (heap_setCells (g := w.heap.size + 1) (t := 25) [.string M, .string P, .slice fa L.length fc, .slice ba bn bc] [] [.string ⟨#[]⟩, .string ⟨#[]⟩, .slice none 0 0, .slice none 0 0] [] wc HGZ.out rfl)
              have HM2 := Lib.hid (HM.out.far_sets (q := w.heap.size + 1) (by omega) [.string M, .string P, .slice fa L.length fc, .slice ba bn bc])
              have HB2 : Hid (Below w.heap.size w (wc.setCells (w.heap.size + 1) 0 [.string M, .string P, .slice fa L.length fc, .slice ba bn bc])) := Lib.hid (bl_set (HB0.out.trans (HBW.out.mono HB0.out.size)) (by omega))
              have HTH := Lib.hid (there_of HGZ.out 0 4 (by simp))
              have HBK := Lib.hid HM.out.block
              clear hv hin HGZ HM HBW hs0 hp0
              go_wp2_with (first | ((with_reducible show wpList _ _ _ (⟨some 138, _, _, _, _, _⟩ :: _) _ _); refine wpList_load_row rfl 25 (.tmp 3) rfl p rfl 25 _ (0, 0) _ HBK.out Tryz.underlying25 rfl info_req ?_) | ((with_reducible show wpList _ _ _ (⟨none, .store 25 _ _, _, _, _, _⟩ :: _) _ _); refine wpList_store_mid rfl 25 (.tmp 2) (.tmp 138) rfl (w.heap.size + 1) 0 #[.string M, .string P, .slice fa L.length fc, .slice ba bn bc] rfl rfl HTH.out info_req (by simp [Value.oneCell']) ?_))
              obtain ⟨fa2, fc2, hv, hin⟩ := HM2.out.slice
              obtain ⟨rfl, rfl⟩ : fa = fa2 ∧ fc = fc2 := by simpa using hv
              exact bodyPost_ret (v := .agg #[.string M, .string P, .slice fa L.length fc, .slice ba bn bc]) (results_cell_row rfl _ _ (w.heap.size + 1) 25 #[.string M, .string P, .slice fa L.length fc, .slice ba bn bc] (0, 0) _ rfl HR2.out Tryz.underlying25 (by rfl) info_req) rfl ⟨M, P, fa, fc, L, ba, bn, bc, rfl, Joins.ownsRow_le HM2.out.own (by have := HPW.out; omega), few_small HM2.out.small (by have := HM2.out.len; omega), zP.out, HB2.out⟩
end Go.Proofs.YtgfinhkplijhbaaGreatDoor
