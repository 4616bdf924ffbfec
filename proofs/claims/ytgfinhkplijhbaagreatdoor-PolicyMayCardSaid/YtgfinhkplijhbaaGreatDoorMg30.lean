/-
  What may be kept of the laws' own requests and responses.
  Which methods are safe; the reference's statuses; a request that may be asked.
  The law's own example.
  Which statuses may be kept, said to be or not: the law's walk.
  What was asked for with Authorization: the law's walk.
  Requests and numbers that came in, opened.
  Addresses' keys: the law's walk.
  Each of the words that forbid does so, wherever it stands: the law's walk.
-/
import Derived.Laws.AppendOwnNone
import Derived.Laws.OwnMore
import Derived.Test.YtgfinhkplijhbaaGreatDoorMg22
import Derived.Test.YtgfinhkplijhbaaGreatDoorMg25
import Derived.Test.YtgfinhkplijhbaaGreatDoorMg26
import Derived.Test.YtgfinhkplijhbaaGreatDoorMg29
namespace Go.Proofs.YtgfinhkplijhbaaGreatDoor
open Go.RowKit HeadMath HeadS CtrlS VaryS

def postB : ByteArray := ⟨#[80, 79, 83, 84]⟩
theorem parse_all {fs : Fls} {t : ByteArray} (ha : allF cacheN fs = [t]) {l : List ByteArray} (hp : partsF t = l) : parseF fs = ctlL l := by
  unfold CtrlS.parseF
  rw [ha, if_neg (by simp)]
  unfold listF
  rw [ha]
  show ctlL (partsF t ++ []) = _
  rw [List.append_nil, hp]
theorem star_none {fs : Fls} (h : allF varyN fs = []) : starP (listF varyN fs) = false := by
  unfold listF
  rw [h]
  rfl
theorem may_get {fq : Fls} {st : Int} {fr : Fls} {hn : Nat} {a s : Ctl} {au ex : Bool} (ha : parseF fq = a) (hs : parseF fr = s) (h1 : (getF authN fq).isSome = au) (h2 : allF varyN fr = []) (h3 : (getF expN fr).isSome = ex) :
    mayF getB fq st fr hn = (statusF st && (!a.noStore && !s.noStore && !s.priv) && (!au || s.pub || s.must || decide (0 ≤ s.sMax)) && (s.pub || decide (0 ≤ s.maxA) || decide (0 ≤ s.sMax) || ex || heurF st) && decide (hn ≤ 60000)) := by
  unfold mayF
  rw [ha, hs, h1, star_none h2, h3, show (getB.toList == [71, 69, 84]) = true by decide +kernel]
  simp
theorem may_post (fq : Fls) (st : Int) (fr : Fls) (hn : Nat) : mayF postB fq st fr hn = false := by
  unfold mayF
  rw [show (postB.toList == [71, 69, 84]) = false by decide +kernel]
  simp
theorem parse_nil : CtrlS.parseF [] = ctl0 := rfl
def statV : Nat → ByteArray
  | 0 => vNil | 1 => vMaxAge5 | 2 => vPublic | 3 => vSMaxage0 | 4 => vPrivateMaxAge9 | _ => vNoStore
def statFs (K : Nat) : Fls := if K = 0 then [] else [(ccL, statV K)]
theorem may_status (K : Nat) (hK : K < 6) (st : Int) : mayF getB [] st (statFs K) 0 = (statusF st && (decide (K < 4) && (decide (0 < K) || heurF st))) := by
  match K, hK with
  | 0, _ => rw [show statFs 0 = [] from rfl, may_get (au := false) (ex := false) parse_nil parse_nil rfl rfl rfl]; simp [ctl0]
  | 1, _ => rw [show statFs 1 = [(ccL, vMaxAge5)] from rfl, may_get (au := false) (ex := false) parse_nil ctl_vMaxAge5_ccL rfl (by decide +kernel) (by decide +kernel)]; simp [ctl0]
  | 2, _ => rw [show statFs 2 = [(ccL, vPublic)] from rfl, may_get (au := false) (ex := false) parse_nil ctl_vPublic_ccL rfl (by decide +kernel) (by decide +kernel)]; simp [ctl0]
  | 3, _ => rw [show statFs 3 = [(ccL, vSMaxage0)] from rfl, may_get (au := false) (ex := false) parse_nil ctl_vSMaxage0_ccL rfl (by decide +kernel) (by decide +kernel)]; simp [ctl0]
  | 4, _ => rw [show statFs 4 = [(ccL, vPrivateMaxAge9)] from rfl, may_get (au := false) (ex := false) parse_nil ctl_vPrivateMaxAge9_ccL rfl (by decide +kernel) (by decide +kernel)]; simp [ctl0]
  | 5, _ => rw [show statFs 5 = [(ccL, vNoStore)] from rfl, may_get (au := false) (ex := false) parse_nil ctl_vNoStore_ccL rfl (by decide +kernel) (by decide +kernel)]; simp [ctl0]
def authV : Nat → ByteArray
  | 0 => vMaxAge5 | 1 => vMaxAge5Public | 2 => vMaxAge5MustRevalidate | 3 => vSMaxage5 | 4 => vMaxAge5ProxyRevalidate | _ => vNil
def authL : ByteArray := ⟨#[97, 117, 116, 104, 111, 114, 105, 122, 97, 116, 105, 111, 110]⟩
def xB : ByteArray := ⟨#[120]⟩
def authFs (e : Bool) : Fls := if e then [(authL, xB), (ccN, vNoCache)] else [(authL, xB)]
theorem auth_parse (e : Bool) : parseF (authFs e) = if e then ⟨false, true, false, false, false, false, false, false, -1, -1, -1, -1⟩ else ctl0 := by
  cases e with
  | false => exact parse_other (by decide +kernel) (by decide +kernel)
  | true => exact (parse_all (t := vNoCache) (by decide +kernel) rfl).trans say_vNoCache
theorem auth_is (e : Bool) : (getF authN (authFs e)).isSome = true := by cases e <;> decide +kernel
theorem heur_200 : heurF 200 = true := by decide
theorem status_200 : statusF 200 = true := by decide
theorem may_auth (K : Nat) (hK : K < 6) (e : Bool) : mayF getB (authFs e) 200 [(ccN, authV K)] 0 = (decide (1 ≤ K) && decide (K ≤ 3)) := by
  have go : ∀ (v : ByteArray) (c : Ctl), parseF [(ccN, v)] = c → c.noStore = false → c.priv = false → mayF getB (authFs e) 200 [(ccN, v)] 0 = (c.pub || c.must || decide (0 ≤ c.sMax)) := by
    intro v c hc h1 h2
    rw [may_get (auth_parse e) hc (auth_is e) (by unfold allF; rw [List.filter_cons_of_neg (by show ¬ sameF ccN.data.toList varyN.data.toList = true; decide +kernel)]; rfl) rfl, heur_200, status_200, h1, h2]
    cases e <;> simp [ctl0]
  match K, hK with
  | 0, _ => exact go vMaxAge5 _ ctl_vMaxAge5_ccN rfl rfl
  | 1, _ => exact go vMaxAge5Public _ ctl_vMaxAge5Public_ccN rfl rfl
  | 2, _ => exact go vMaxAge5MustRevalidate _ ctl_vMaxAge5MustRevalidate_ccN rfl rfl
  | 3, _ => exact go vSMaxage5 _ ctl_vSMaxage5_ccN rfl rfl
  | 4, _ => exact go vMaxAge5ProxyRevalidate _ ctl_vMaxAge5ProxyRevalidate_ccN rfl rfl
  | 5, _ => exact go vNil _ ctl_vNil_ccN rfl rfl
theorem may_great (k : Nat) : mayF getB [] 200 [] k = decide (k ≤ 60000) := by
  rw [may_get (au := false) (ex := false) parse_nil parse_nil rfl rfl rfl, heur_200, status_200]
  simp [ctl0]
def hBig : ByteArray := ⟨#[72]⟩
def kqFs : Fls := [(hostN, hBig)]
theorem kq_parse : parseF kqFs = ctl0 := parse_other (by decide +kernel) (by decide +kernel)
theorem may_known1 : mayF getB kqFs 200 [] 0 = true := by
  rw [may_get (au := false) (ex := false) kq_parse parse_nil (by decide +kernel) rfl rfl, heur_200, status_200]
  simp [ctl0]
theorem may_known2 : mayF getB kqFs 200 [(ccN, vPrivate)] 0 = false := by
  rw [may_get (au := false) (ex := false) kq_parse ctl_vPrivate_ccN (by decide +kernel) (by decide +kernel) (by decide +kernel)]
  simp
theorem act_ns (k : Nat) (has : Bool) (n : Int) (c : Ctl) (h : c.noStore = true) : (actK k has n c).noStore = true := by
  unfold actK
  repeat' split
  all_goals first | rfl | exact h
theorem act_pr (k : Nat) (has : Bool) (n : Int) (c : Ctl) (h : c.priv = true) : (actK k has n c).priv = true := by
  unfold actK
  repeat' split
  all_goals first | rfl | exact h
theorem fold_ns : ∀ (l : List ByteArray) (c : Ctl), (c.noStore = true ∨ ∃ p ∈ l, kindP p = 0) → (l.foldl sayF c).noStore = true
  | [], c, h => by
    rcases h with h | ⟨p, hp, _⟩
    · exact h
    · cases hp
  | p :: l, c, h => by
    refine fold_ns l (sayF c p) ?_
    rcases h with h | ⟨q, hq, hk⟩
    · exact .inl (act_ns _ _ _ _ h)
    · rcases List.mem_cons.1 hq with rfl | hq
      · exact .inl (by unfold sayF; rw [hk]; rfl)
      · exact .inr ⟨q, hq, hk⟩
theorem fold_pr : ∀ (l : List ByteArray) (c : Ctl), (c.priv = true ∨ ∃ p ∈ l, kindP p = 2) → (l.foldl sayF c).priv = true
  | [], c, h => by
    rcases h with h | ⟨p, hp, _⟩
    · exact h
    · cases hp
  | p :: l, c, h => by
    refine fold_pr l (sayF c p) ?_
    rcases h with h | ⟨q, hq, hk⟩
    · exact .inl (act_pr _ _ _ _ h)
    · rcases List.mem_cons.1 hq with rfl | hq
      · exact .inl (by unfold sayF; rw [hk]; rfl)
      · exact .inr ⟨q, hq, hk⟩
theorem parse_ns {x : Fls} {p : ByteArray} (hp : p ∈ listF cacheN x) (hk : kindP p = 0) : (parseF x).noStore = true := by
  have h : (ctlL (listF cacheN x)).noStore = true := fold_ns _ _ (.inr ⟨p, hp, hk⟩)
  unfold CtrlS.parseF
  split
  · exact h
  · exact h
theorem parse_pr {x : Fls} {p : ByteArray} (hp : p ∈ listF cacheN x) (hk : kindP p = 2) : (parseF x).priv = true := by
  have h : (ctlL (listF cacheN x)).priv = true := fold_pr _ _ (.inr ⟨p, hp, hk⟩)
  unfold CtrlS.parseF
  split
  · exact h
  · exact h
theorem list_mem {n : ByteArray} {x : Fls} {f : ByteArray × ByteArray} {p : ByteArray} (hf : f ∈ x) (hn : isNamed n f = true) (hp : p ∈ partsF f.2) : p ∈ listF n x := by
  unfold listF allF
  exact List.mem_flatMap.2 ⟨f.2, List.mem_map.2 ⟨f, List.mem_filter.2 ⟨hf, hn⟩, rfl⟩, hp⟩
def starB : ByteArray := ⟨#[42]⟩
def varyW : ByteArray := ⟨#[86, 97, 114, 121]⟩
theorem parts_star : partsF starB = [starB] := by
  have e1 : starB = arr ([42] ++ []) := rfl
  rw [e1, parts_step _ _ _ (plain_closed (by decide)) (.inl ⟨rfl, rfl⟩), partsF_nil (v := arr []) rfl]
  decide +kernel
def wordF : Nat → ByteArray × ByteArray
  | 0 => (ccN, vNoStore) | 1 => (ccN, vPrivate) | 2 => (varyW, starB) | _ => (ccL, vMaxAge9NoStore)
/-- A response with one of the words isn't kept; nor is one to a request that says no-store. -/
theorem may_words (K : Nat) (hK : K < 4) {x : Fls} (hx : wordF K ∈ x) : mayF getB [] 200 x 0 = false := by
  unfold mayF
  match K, hK with
  | 0, _ => rw [parse_ns (p := ⟨#[110, 111, 45, 115, 116, 111, 114, 101]⟩) (list_mem hx (by decide +kernel) (by show _ ∈ partsF vNoStore; rw [parts_vNoStore]; exact List.mem_singleton.2 rfl)) (by decide +kernel)]; simp
  | 1, _ => rw [parse_pr (p := ⟨#[112, 114, 105, 118, 97, 116, 101]⟩) (list_mem hx (by decide +kernel) (by show _ ∈ partsF vPrivate; rw [parts_vPrivate]; exact List.mem_singleton.2 rfl)) (by decide +kernel)]; simp
  | 2, _ =>
    have h : starP (listF varyN x) = true := List.any_eq_true.2 ⟨starB, list_mem hx (by decide +kernel) (by show _ ∈ partsF starB; rw [parts_star]; exact List.mem_singleton.2 rfl), by decide +kernel⟩
    rw [h]
    simp
  | 3, _ => rw [parse_ns (p := ⟨#[78, 111, 45, 83, 116, 111, 114, 101]⟩) (list_mem hx (by decide +kernel) (by show _ ∈ partsF vMaxAge9NoStore; rw [parts_vMaxAge9NoStore]; exact List.mem_cons_of_mem _ (List.mem_singleton.2 rfl))) (by decide +kernel)]; simp
theorem may_asked (K : Nat) (hK : K = 0 ∨ K = 3) {x : Fls} (hx : wordF K ∈ x) : mayF getB x 200 [] 0 = false := by
  unfold mayF
  rcases hK with rfl | rfl
  · rw [parse_ns (p := ⟨#[110, 111, 45, 115, 116, 111, 114, 101]⟩) (list_mem hx (by decide +kernel) (by show _ ∈ partsF vNoStore; rw [parts_vNoStore]; exact List.mem_singleton.2 rfl)) (by decide +kernel)]; simp
  · rw [parse_ns (p := ⟨#[78, 111, 45, 83, 116, 111, 114, 101]⟩) (list_mem hx (by decide +kernel) (by show _ ∈ partsF vMaxAge9NoStore; rw [parts_vMaxAge9NoStore]; exact List.mem_cons_of_mem _ (List.mem_singleton.2 rfl))) (by decide +kernel)]; simp
end Go.Proofs.YtgfinhkplijhbaaGreatDoor
namespace Go.Proofs.YtgfinhkplijhbaaGreatDoor
open Go.RowKit HeadMath HeadS CtrlS VaryS

def safeF (m : ByteArray) : Bool := (m.toList == [71, 69, 84]) || (m.toList == [72, 69, 65, 68]) || (m.toList == [79, 80, 84, 73, 79, 78, 83]) || (m.toList == [84, 82, 65, 67, 69])
set_option maxHeartbeats 4000000 in
theorem safe_any (m : ByteArray) (w : World) : Calls Tryz.prog 16 #[.string m] w fun e w' => e = .returned (.bool (safeF m)) ∧ w = w' := by
  unfold safeF
  obtain ⟨b1, h1⟩ : ∃ b, (m.toList == [71, 69, 84]) = b := ⟨_, rfl⟩
  obtain ⟨b2, h2⟩ : ∃ b, (m.toList == [72, 69, 65, 68]) = b := ⟨_, rfl⟩
  obtain ⟨b3, h3⟩ : ∃ b, (m.toList == [79, 80, 84, 73, 79, 78, 83]) = b := ⟨_, rfl⟩
  obtain ⟨b4, h4⟩ : ∃ b, (m.toList == [84, 82, 65, 67, 69]) = b := ⟨_, rfl⟩
  rw [h1, h2, h3, h4]
  cases b1
  · cases b2
    · cases b3
      · cases b4
        all_goals
          go_enter Tryz.func16, Tryz.ntmps16
          go_wp2
          go_ret
          exact ⟨rfl, rfl⟩
      · go_enter Tryz.func16, Tryz.ntmps16
        go_wp2
        go_ret
        exact ⟨rfl, rfl⟩
    · go_enter Tryz.func16, Tryz.ntmps16
      go_wp2
      go_ret
      exact ⟨rfl, rfl⟩
  · go_enter Tryz.func16, Tryz.ntmps16
    go_wp2
    go_ret
    exact ⟨rfl, rfl⟩
set_option maxHeartbeats 4000000 in
theorem refSafe_any (m : ByteArray) (w : World) : Calls Tryz.prog 17 #[.string m] w fun e w' => e = .returned (.bool (safeF m)) ∧ w = w' := by
  unfold safeF
  obtain ⟨b1, h1⟩ : ∃ b, (m.toList == [71, 69, 84]) = b := ⟨_, rfl⟩
  obtain ⟨b2, h2⟩ : ∃ b, (m.toList == [72, 69, 65, 68]) = b := ⟨_, rfl⟩
  obtain ⟨b3, h3⟩ : ∃ b, (m.toList == [79, 80, 84, 73, 79, 78, 83]) = b := ⟨_, rfl⟩
  obtain ⟨b4, h4⟩ : ∃ b, (m.toList == [84, 82, 65, 67, 69]) = b := ⟨_, rfl⟩
  rw [h1, h2, h3, h4]
  cases b1
  · cases b2
    · cases b3
      · cases b4
        all_goals
          go_enter Tryz.func17, Tryz.ntmps17
          go_wp2
          go_ret
          exact ⟨rfl, rfl⟩
      · go_enter Tryz.func17, Tryz.ntmps17
        go_wp2
        go_ret
        exact ⟨rfl, rfl⟩
    · go_enter Tryz.func17, Tryz.ntmps17
      go_wp2
      go_ret
      exact ⟨rfl, rfl⟩
  · go_enter Tryz.func17, Tryz.ntmps17
    go_wp2
    go_ret
    exact ⟨rfl, rfl⟩
def heurL : List Int := [200, 203, 204, 300, 301, 308, 404, 405, 410, 414, 501]
theorem heur_list (n : Int) : heurF n = heurL.any (· == n) := by
  unfold heurF heurL
  simp only [List.any_cons, List.any_nil, Bool.or_false, Bool.or_assoc]
  simp only [Bool.beq_comm (a := n)]
theorem heur_yes {n : Int} {k : Nat} (hk : k < heurL.length) (h : heurL[k] = n) : heurF n = true := by
  rw [heur_list]
  exact List.any_eq_true.2 ⟨heurL[k], List.getElem_mem hk, by rw [h]; exact beq_self_eq_true n⟩
theorem heur_no {n : Int} (h : ∀ j (hj : j < heurL.length), heurL[j] ≠ n) : heurF n = false := by
  rw [heur_list, List.any_eq_false]
  intro x hx
  obtain ⟨j, hj, rfl⟩ := List.getElem_of_mem hx
  simpa using h j hj
set_option maxRecDepth 100000 in
set_option maxHeartbeats 4000000 in
theorem refHeur_any (n : Int) (w : World) : Calls Tryz.prog 21 #[.int .i64 n] w fun e w' => e = .returned (.bool (heurF n)) ∧ Below w.heap.size w w' := by
  obtain ⟨v, hv⟩ : ∃ v, w.alloc (.cells #[.int .i64 200, .int .i64 203, .int .i64 204, .int .i64 300, .int .i64 301, .int .i64 308, .int .i64 404, .int .i64 405, .int .i64 410, .int .i64 414, .int .i64 501] 3) = v := ⟨_, rfl⟩
  have hb : Below w.heap.size w v := by rw [← hv]; exact (Below.refl _ _).alloc (Nat.le_refl _) _
  have hc : ∀ k (h : k < heurL.length), v.cell? ⟨w.heap.size, k, none⟩ = some (.int .i64 heurL[k]) := by
    intro k hk
    have hg : v.heap[w.heap.size]? = some (.cells #[.int .i64 200, .int .i64 203, .int .i64 204, .int .i64 300, .int .i64 301, .int .i64 308, .int .i64 404, .int .i64 405, .int .i64 410, .int .i64 414, .int .i64 501] 3 (0, 0)) := by rw [← hv]; exact heap_alloc_new w _
    rw [Lib.cell_of_heap hg]
    have hk2 : k < 11 := hk
    match k, hk2 with
    | 0, _ | 1, _ | 2, _ | 3, _ | 4, _ | 5, _ | 6, _ | 7, _ | 8, _ | 9, _ | 10, _ => rfl
  have HC := Lib.hid hc
  have HB := Lib.hid hb
  have HV := Lib.hid hv
  clear hc hb hv
  go_enter Tryz.func21, Tryz.ntmps21
  go_upto_region 2 with (fail)
  change Code.wp _ _ _ _ (w.alloc (.cells #[.int .i64 200, .int .i64 203, .int .i64 204, .int .i64 300, .int .i64 301, .int .i64 308, .int .i64 404, .int .i64 405, .int .i64 410, .int .i64 414, .int .i64 501] 3))
  rw [HV.out]
  go_wp2_with fail
  go_loop [4] (fun i => ∃ k : Nat, k ≤ 11 ∧ i = .int .i64 k ∧ Hid (∀ j (h : j < heurL.length), j < k → heurL[j] ≠ n)) (fun i => 11 - (intOf i).toNat)
  case atStart => exact ⟨0, by omega, rfl, Lib.hid (fun j _ h => by omega)⟩
  case round =>
    obtain ⟨k, hk, rfl, HN⟩ := hrel
    by_cases hlt : k < 11
    · have hk2 : k < heurL.length := hlt
      have hc := HC.out k hk2
      obtain ⟨x, hx⟩ : ∃ x, heurL[k] = x := ⟨_, rfl⟩
      rw [hx] at hc
      have HX := Lib.hid hx
      have j1 : (k : Int) < 11 := by omega
      clear hx
      by_cases he : x = n
      · have HY := Lib.hid (heur_yes hk2 (HX.out.trans he))
        have e1 : (x == n) = true := by simp [he]
        have HE := Lib.hid he
        clear he
        go_wp2
        go_ret
        exact ⟨by rw [HY.out]; rfl, HB.out⟩
      · have HE := Lib.hid he
        have e1 : (x == n) = false := by simp [he]
        clear he
        go_wp2
        go_round
        case rel =>
          refine ⟨k + 1, by omega, by go_num, Lib.hid (fun j hj h => ?_)⟩
          rcases Nat.lt_or_ge j k with h2 | h2
          · exact HN.out j hj h2
          · obtain rfl : j = k := by omega
            rw [HX.out]
            exact HE.out
        case measure => simp [intOf]; omega
    · obtain rfl : k = 11 := by omega
      have HF := Lib.hid (heur_no (n := n) (fun j hj => HN.out j hj hj))
      clear hlt hk
      go_wp2
      go_ret
      exact ⟨by rw [HF.out]; rfl, HB.out⟩
def LitQP (_m t : ByteArray) (fs : Fls) (w : World) (e : Ending) (w' : World) : Prop :=
  ∃ b, e = .returned (.bool b) ∧ Below w.heap.size w w' ∧ (b = true → t.size ≤ 300 ∧ LightF fs 15)
set_option maxRecDepth 100000 in
set_option maxHeartbeats 4000000 in
theorem lightQP_any (m t : ByteArray) (fa : Option Addr) (fc : Nat) (fs : Fls) (ba : Option Addr) (bn bc : Nat) (w : World) (hin : FieldsIn w.heap.size w fa fs) (hw : WideF fs) (_hbn : bn ≤ 9223372036854775807) (hm : m.size ≤ 9223372036854775807) (ht : t.size ≤ 9223372036854775807) :
    Calls Tryz.prog 10 #[.agg #[.string m, .string t, .slice fa fs.length fc, .slice ba bn bc]] w (LitQP m t fs w) := by
  obtain ⟨w0, hw0⟩ : ∃ w0, w.alloc (.cells #[.string m, .string t, .slice fa fs.length fc, .slice ba bn bc] 25) = w0 := ⟨_, rfl⟩
  have hb0 : Below w.heap.size w w0 := by rw [← hw0]; exact ((Spares.refl nowhere w).alloc _).below0
  have CL := Lib.hid (lightW_any fs fa fc 15 w0 (kin_in (w := w) ⟨w0, hb0⟩ hin) hw (by omega))
  have HW0 := Lib.hid hw0
  have HB0 := Lib.hid hb0
  have q3 : Hid (w0.cell? ⟨w.heap.size, 3, none⟩ = some (.slice ba bn bc)) := Lib.hid (by rw [← hw0]; simp [go_sem])
  obtain ⟨nf, hnf⟩ : ∃ m, fs.length = m := ⟨_, rfl⟩
  rw [hnf] at CL HW0 ⊢
  clear hin hw0 hb0 hnf hw
  have hno : ∀ w', Below w.heap.size w w' → LitQP m t fs w (.returned (.bool false)) w' := fun _ h => ⟨false, rfl, h, fun h => by cases h⟩
  have HNO := Lib.hid hno
  clear hno
  by_cases h1 : m.size ≤ 100
  · by_cases h2 : t.size ≤ 300
    · have H12 := Lib.hid h2
      go_enter Tryz.func10, Tryz.ntmps10
      go_wp2_with fail
      change Calls _ _ _ (w.alloc (.cells #[.string m, .string t, .slice fa nf fc, .slice ba bn bc] 25)) _
      rw [HW0.out]
      refine CL.out.mono ?_
      rintro e w1 ⟨b, rfl, rfl, hb⟩
      have HL := Lib.hid hb
      have q := q3.out
      clear hb
      cases b with
      | false =>
        clear q
        go_wp2
        go_ret
        exact HNO.out _ HB0.out
      | true =>
        have HLT := Lib.hid (HL.out rfl)
        clear HL
        go_wp2
        go_ret
        exact ⟨_, rfl, HB0.out, fun _ => ⟨H12.out, HLT.out⟩⟩
    · go_enter Tryz.func10, Tryz.ntmps10
      go_wp2
      go_ret
      exact HNO.out _ (by have := HB0.out; rw [← HW0.out] at this; exact this)
  · go_enter Tryz.func10, Tryz.ntmps10
    go_wp2
    go_ret
    exact HNO.out _ (by have := HB0.out; rw [← HW0.out] at this; exact this)
end Go.Proofs.YtgfinhkplijhbaaGreatDoor
namespace Go.Proofs.YtgfinhkplijhbaaGreatDoor
open Go.RowKit HeadMath HeadS CtrlS VaryS

def slashB : ByteArray := ⟨#[47]⟩
theorem four_at {w : World} {p : Nat} {a b c d : Value} {t : TypeId} (h : w.heap[p]? = some (.cells #[a, b, c, d] t (0, 0))) : w.cell? ⟨p, 0, none⟩ = some a ∧ w.cell? ⟨p, 1, none⟩ = some b ∧ w.cell? ⟨p, 2, none⟩ = some c ∧ w.cell? ⟨p, 3, none⟩ = some d := by
  refine ⟨?_, ?_, ?_, ?_⟩ <;> (rw [Lib.cell_of_heap h]; rfl)
theorem one_at {w : World} {p : Nat} {f : ByteArray × ByteArray} (h : w.heap[p]? = some (.cells #[.string f.1, .string f.2] 48 (0, 0))) : FieldsIn w.heap.size w (some ⟨p, 0, none⟩) [f] := by
  intro j hj
  obtain rfl : j = 0 := by simpa using hj
  exact ⟨p, 0, rfl, (Array.getElem?_eq_some_iff.1 h).1, by rw [Lib.cell_of_heap h]; rfl, by rw [Lib.cell_of_heap h]; rfl⟩
theorem kin_block {w : World} {p : Nat} {o : Obj} (x : Kin w) (h : w.heap[p]? = some o) : x.wd.heap[p]? = some o := (x.below.block _ (Array.getElem?_eq_some_iff.1 h).1).trans h
theorem may_kin (m tg : ByteArray) (fq : Fls) (fa : Option Addr) (fc : Nat) (ba : Option Addr) (bn bc : Nat) (st : Int) (rs : ByteArray) (fr : Fls) (ga : Option Addr) (gc : Nat) (ha : Option Addr) (hn hc : Nat) (v : World)
    (hiq : FieldsIn v.heap.size v fa fq) (hfq : FewF fq) (hir : FieldsIn v.heap.size v ga fr) (hfr : FewF fr) {b : Bool} (hb : mayF m fq st fr hn = b) :
    ∀ x : Kin v, Calls Tryz.prog 14 #[.agg #[.string m, .string tg, .slice fa fq.length fc, .slice ba bn bc], .agg #[.int .i64 st, .string rs, .slice ga fr.length gc, .slice ha hn hc]] x.wd fun e w'' => e = .returned (.bool b) ∧ ∃ y : Kin v, w'' = y.wd := by
  intro x
  subst hb
  exact Kin.calls ((may_any x.wd m tg fq fa fc ba bn bc st rs fr ga gc ha hn hc (kin_in x hiq) hfq (kin_in x hir) hfr).mono fun _ _ h => h)
theorem new_block (w : World) (o p q r s : Obj) : let v := ((((w.alloc o).alloc p).alloc q).alloc r).alloc s
    v.heap[w.heap.size]? = some o ∧ v.heap[w.heap.size + 1]? = some p ∧ v.heap[w.heap.size + 1 + 1]? = some q ∧ v.heap[w.heap.size + 1 + 1 + 1]? = some r ∧ v.heap[w.heap.size + 1 + 1 + 1 + 1]? = some s := by
  intro v
  have e0 := heap_alloc_new w o
  have z1 : (w.alloc o).heap.size = w.heap.size + 1 := by simp
  have e1 := heap_alloc_new (w.alloc o) p
  rw [z1] at e1
  have z2 : ((w.alloc o).alloc p).heap.size = w.heap.size + 1 + 1 := by simp
  have e2 := heap_alloc_new ((w.alloc o).alloc p) q
  rw [z2] at e2
  have z3 : (((w.alloc o).alloc p).alloc q).heap.size = w.heap.size + 1 + 1 + 1 := by simp
  have e3 := heap_alloc_new (((w.alloc o).alloc p).alloc q) r
  rw [z3] at e3
  have z4 : ((((w.alloc o).alloc p).alloc q).alloc r).heap.size = w.heap.size + 1 + 1 + 1 + 1 := by simp
  have e4 := heap_alloc_new ((((w.alloc o).alloc p).alloc q).alloc r) s
  rw [z4] at e4
  exact ⟨stood0 (stood0 (stood0 (stood0 e0))), stood0 (stood0 (stood0 e1)), stood0 (stood0 e2), stood0 e3, e4⟩
theorem key_self (R : List UInt8) (h : R.length = 32) (w : World) : (Op.equalIn 10000 41 (.agg (bytesV R)) (.agg (bytesV R))).run Tryz.prog w = .ok true w := by
  rw [key_equal R R h h w]
  simp
set_option maxRecDepth 100000 in
set_option maxHeartbeats 8000000 in
theorem pknown_any (w : World) : Calls Tryz.prog 9 #[] w (RulePost true w) := by
  obtain ⟨v, hv⟩ : ∃ v, ((((w.alloc (.cells #[.string hostN, .string hBig] 48)).alloc (.cells #[.string getB, .string slashB, .slice (some ⟨w.heap.size, 0, none⟩) 1 1, .slice none 0 0] 25)).alloc (.cells #[.int .i64 200, .string ⟨#[]⟩, .slice none 0 0, .slice none 0 0] 27)).alloc (.cells #[.string ccN, .string vPrivate] 48)).alloc (.cells #[.int .i64 200, .string ⟨#[]⟩, .slice (some ⟨w.heap.size + 1 + 1 + 1, 0, none⟩) 1 1, .slice none 0 0] 27) = v := ⟨_, rfl⟩
  have hb : Below w.heap.size w v := by rw [← hv]; exact below_al (below_al (below_al (below_al (below_al (Below.refl _ _) _) _) _) _) _
  obtain ⟨g0, g1, g2, g3, g4⟩ := (by have h := new_block w (.cells #[.string hostN, .string hBig] 48) (.cells #[.string getB, .string slashB, .slice (some ⟨w.heap.size, 0, none⟩) 1 1, .slice none 0 0] 25) (.cells #[.int .i64 200, .string ⟨#[]⟩, .slice none 0 0, .slice none 0 0] 27) (.cells #[.string ccN, .string vPrivate] 48) (.cells #[.int .i64 200, .string ⟨#[]⟩, .slice (some ⟨w.heap.size + 1 + 1 + 1, 0, none⟩) 1 1, .slice none 0 0] 27); simp only [hv] at h; exact h :
    v.heap[w.heap.size]? = some (.cells #[.string hostN, .string hBig] 48 (0, 0)) ∧ v.heap[w.heap.size + 1]? = some (.cells #[.string getB, .string slashB, .slice (some ⟨w.heap.size, 0, none⟩) 1 1, .slice none 0 0] 25 (0, 0)) ∧ v.heap[w.heap.size + 1 + 1]? = some (.cells #[.int .i64 200, .string ⟨#[]⟩, .slice none 0 0, .slice none 0 0] 27 (0, 0)) ∧ v.heap[w.heap.size + 1 + 1 + 1]? = some (.cells #[.string ccN, .string vPrivate] 48 (0, 0)) ∧ v.heap[w.heap.size + 1 + 1 + 1 + 1]? = some (.cells #[.int .i64 200, .string ⟨#[]⟩, .slice (some ⟨w.heap.size + 1 + 1 + 1, 0, none⟩) 1 1, .slice none 0 0] 27 (0, 0)))
  have F1 : FieldsIn v.heap.size v (some ⟨w.heap.size, 0, none⟩) kqFs := one_at (f := (hostN, hBig)) g0
  have F2 : FieldsIn v.heap.size v (some ⟨w.heap.size + 1 + 1 + 1, 0, none⟩) [(ccN, vPrivate)] := one_at (f := (ccN, vPrivate)) g3
  have F0 : FieldsIn v.heap.size v none [] := fun j hj => absurd hj (Nat.not_lt_zero _)
  have L1 : FewF kqFs := few_lit rfl
  have L2 : FewF [(ccN, vPrivate)] := few_lit rfl
  have L0 : FewF [] := few_lit rfl
  have M1 := Lib.hid (may_kin getB slashB kqFs (some ⟨w.heap.size, 0, none⟩) 1 none 0 0 200 ⟨#[]⟩ [] none 0 none 0 0 v F1 L1 F0 L0 may_known1)
  have M2 := Lib.hid (may_kin getB slashB kqFs (some ⟨w.heap.size, 0, none⟩) 1 none 0 0 200 ⟨#[]⟩ [(ccN, vPrivate)] (some ⟨w.heap.size + 1 + 1 + 1, 0, none⟩) 1 none 0 0 v F1 L1 F2 L2 may_known2)
  have K1 : Hid (∀ x : Kin v, Calls Tryz.prog 18 #[.agg #[.string getB, .string slashB, .slice (some ⟨w.heap.size, 0, none⟩) 1 1, .slice none 0 0]] x.wd fun e w'' => e = .returned (.agg (bytesV (keyR kqFs slashB))) ∧ ∃ y : Kin v, w'' = y.wd) := Lib.hid (fun x => Kin.calls (key_pol x.wd getB slashB kqFs (some ⟨w.heap.size, 0, none⟩) 1 none 0 0 (kin_in x F1) L1 (by decide)))
  have K2 : Hid (∀ x : Kin v, Calls Tryz.prog 19 #[.agg #[.string getB, .string slashB, .slice (some ⟨w.heap.size, 0, none⟩) 1 1, .slice none 0 0]] x.wd fun e w'' => e = .returned (.agg (bytesV (keyR kqFs slashB))) ∧ ∃ y : Kin v, w'' = y.wd) := Lib.hid (fun x => Kin.calls (key_ref x.wd getB slashB kqFs (some ⟨w.heap.size, 0, none⟩) 1 none 0 0 (kin_in x F1) L1 (by decide)))
  have S1 : Hid (∀ x : Kin v, Calls Tryz.prog 16 #[.string getB] x.wd fun e w'' => e = .returned (.bool true) ∧ ∃ y : Kin v, w'' = y.wd) := Lib.hid (fun x => (safe_any getB x.wd).mono fun _ _ ⟨he, hw⟩ => ⟨he.trans (by rw [show safeF getB = true by decide +kernel]), x, hw.symm⟩)
  have S2 : Hid (∀ x : Kin v, Calls Tryz.prog 16 #[.string postB] x.wd fun e w'' => e = .returned (.bool false) ∧ ∃ y : Kin v, w'' = y.wd) := Lib.hid (fun x => (safe_any postB x.wd).mono fun _ _ ⟨he, hw⟩ => ⟨he.trans (by rw [show safeF postB = false by decide +kernel]), x, hw.symm⟩)
  have KE : ∀ x : Kin v, (Op.equalIn 10000 41 (.agg (bytesV (keyR kqFs slashB))) (.agg (bytesV (keyR kqFs slashB)))).run Tryz.prog x.wd = .ok true x.wd := fun x => key_self _ (keyR_len _ _) x.wd
  generalize bytesV (keyR kqFs slashB) = BV at K1 K2 KE
  have hc1 := four_at g1
  have hc2 := four_at g2
  have hc4 := four_at g4
  have k10 : ∀ y : Kin v, y.wd.cell? ⟨w.heap.size + 1, 0, none⟩ = some (.string getB) := fun y => y.cell hc1.1
  have k11 : ∀ y : Kin v, y.wd.cell? ⟨w.heap.size + 1, 1, none⟩ = some (.string slashB) := fun y => y.cell hc1.2.1
  have k12 : ∀ y : Kin v, y.wd.cell? ⟨w.heap.size + 1, 2, none⟩ = some (.slice (some ⟨w.heap.size, 0, none⟩) 1 1) := fun y => y.cell hc1.2.2.1
  have k13 : ∀ y : Kin v, y.wd.cell? ⟨w.heap.size + 1, 3, none⟩ = some (.slice none 0 0) := fun y => y.cell hc1.2.2.2
  have k20 : ∀ y : Kin v, y.wd.cell? ⟨w.heap.size + 1 + 1, 0, none⟩ = some (.int .i64 200) := fun y => y.cell hc2.1
  have k21 : ∀ y : Kin v, y.wd.cell? ⟨w.heap.size + 1 + 1, 1, none⟩ = some (.string ⟨#[]⟩) := fun y => y.cell hc2.2.1
  have k22 : ∀ y : Kin v, y.wd.cell? ⟨w.heap.size + 1 + 1, 2, none⟩ = some (.slice none 0 0) := fun y => y.cell hc2.2.2.1
  have k23 : ∀ y : Kin v, y.wd.cell? ⟨w.heap.size + 1 + 1, 3, none⟩ = some (.slice none 0 0) := fun y => y.cell hc2.2.2.2
  have k40 : ∀ y : Kin v, y.wd.cell? ⟨w.heap.size + 1 + 1 + 1 + 1, 0, none⟩ = some (.int .i64 200) := fun y => y.cell hc4.1
  have k41 : ∀ y : Kin v, y.wd.cell? ⟨w.heap.size + 1 + 1 + 1 + 1, 1, none⟩ = some (.string ⟨#[]⟩) := fun y => y.cell hc4.2.1
  have k42 : ∀ y : Kin v, y.wd.cell? ⟨w.heap.size + 1 + 1 + 1 + 1, 2, none⟩ = some (.slice (some ⟨w.heap.size + 1 + 1 + 1, 0, none⟩) 1 1) := fun y => y.cell hc4.2.2.1
  have k43 : ∀ y : Kin v, y.wd.cell? ⟨w.heap.size + 1 + 1 + 1 + 1, 3, none⟩ = some (.slice none 0 0) := fun y => y.cell hc4.2.2.2
  have HB := Lib.hid hb
  have HV := Lib.hid hv
  clear hb hv g0 g1 g2 g3 g4 F1 F2 F0 L1 L2 L0 hc1 hc2 hc4
  unfold getB at k10 M1 M2 K1 K2 HV
  unfold slashB at k11 M1 M2 K1 K2 HV
  unfold getB at S1
  unfold postB at S2
  simp only [List.length_cons, List.length_nil, Nat.zero_add, kqFs] at M1 M2
  unfold RulePost
  go_enter Tryz.func9, Tryz.ntmps9
  go_upto_region 4 with (fail)
  unfold hostN hBig ccN vPrivate at HV
  change Code.wp _ _ _ _ (((((w.alloc (.cells #[.string ⟨#[72, 111, 115, 116]⟩, .string ⟨#[72]⟩] 48)).alloc (.cells #[.string ⟨#[71, 69, 84]⟩, .string ⟨#[47]⟩, .slice (some ⟨w.heap.size, 0, none⟩) 1 1, .slice none 0 0] 25)).alloc (.cells #[.int .i64 200, .string ⟨#[]⟩, .slice none 0 0, .slice none 0 0] 27)).alloc (.cells #[.string ⟨#[67, 97, 99, 104, 101, 45, 67, 111, 110, 116, 114, 111, 108]⟩, .string ⟨#[112, 114, 105, 118, 97, 116, 101]⟩] 48)).alloc (.cells #[.int .i64 200, .string ⟨#[]⟩, .slice (some ⟨w.heap.size + 1 + 1 + 1, 0, none⟩) 1 1, .slice none 0 0] 27))
  rw [HV.out]
  refine wp_region_kin (by kernel_rfl) (by kernel_rfl) ?_
  repeat (go_big_quiet_step (first | (go_at_call 14; first | with_reducible exact M1.out _ | with_reducible exact M2.out _) | (go_at_call 16; first | with_reducible exact S1.out _ | with_reducible exact S2.out _) | (go_at_call 18; with_reducible exact K1.out _) | (go_at_call 19; with_reducible exact K2.out _)))
  refine wpQuiet_nil ?_
  intro _ hx
  obtain ⟨y, rfl⟩ := hx
  have HY := Lib.hid (HB.out.trans (y.below.mono HB.out.size))
  clear k10 k11 k12 k13 k20 k21 k22 k23 k40 k41 k42 k43
  go_wp2
  go_ret
  exact ⟨rfl, HY.out⟩
end Go.Proofs.YtgfinhkplijhbaaGreatDoor
namespace Go.Proofs.YtgfinhkplijhbaaGreatDoor
open Go.RowKit HeadMath HeadS CtrlS VaryS

/-- A response's fields as they lie, and what is told of it. -/
structure Stand (x : World) (p : Nat) (st : Int) (a : Option Addr) (n c : Nat) (M : Bool) : Prop where
  cells : ∀ y, Below x.heap.size x y → y.cell? ⟨p, 0, none⟩ = some (.int .i64 st) ∧ y.cell? ⟨p, 1, none⟩ = some (.string ⟨#[]⟩) ∧ y.cell? ⟨p, 2, none⟩ = some (.slice a n c) ∧ y.cell? ⟨p, 3, none⟩ = some (.slice none 0 0)
  get : ∀ y, Below x.heap.size x y → Calls Tryz.prog 14 #[.agg #[.string ⟨#[71, 69, 84]⟩, .string ⟨#[]⟩, .slice none 0 0, .slice none 0 0], .agg #[.int .i64 st, .string ⟨#[]⟩, .slice a n c, .slice none 0 0]] y (RulePost M y)
  post : ∀ y, Below x.heap.size x y → Calls Tryz.prog 14 #[.agg #[.string ⟨#[80, 79, 83, 84]⟩, .string ⟨#[]⟩, .slice none 0 0, .slice none 0 0], .agg #[.int .i64 st, .string ⟨#[]⟩, .slice a n c, .slice none 0 0]] y (RulePost false y)
theorem may_at (m tg : ByteArray) (fq : Fls) (fa : Option Addr) (fc : Nat) (ba : Option Addr) (bn bc : Nat) (st : Int) (rs : ByteArray) (fr : Fls) (ga : Option Addr) (gc : Nat) (ha : Option Addr) (hn hc : Nat) (v : World)
    (hiq : FieldsIn v.heap.size v fa fq) (hfq : FewF fq) (hir : FieldsIn v.heap.size v ga fr) (hfr : FewF fr) {b : Bool} (hb : mayF m fq st fr hn = b) :
    ∀ y, Below v.heap.size v y → Calls Tryz.prog 14 #[.agg #[.string m, .string tg, .slice fa fq.length fc, .slice ba bn bc], .agg #[.int .i64 st, .string rs, .slice ga fr.length gc, .slice ha hn hc]] y (RulePost b y) := by
  intro y hy
  subst hb
  exact may_any y m tg fq fa fc ba bn bc st rs fr ga gc ha hn hc (kin_in (w := v) ⟨y, hy⟩ hiq) hfq (kin_in (w := v) ⟨y, hy⟩ hir) hfr
theorem nil_fields (v : World) : FieldsIn v.heap.size v none [] := fun _ hj => absurd hj (Nat.not_lt_zero _)
theorem stand_of {x : World} {p : Nat} {st : Int} {a : Option Addr} {c : Nat} {fr : Fls} (h : x.heap[p]? = some (.cells #[.int .i64 st, .string ⟨#[]⟩, .slice a fr.length c, .slice none 0 0] 27 (0, 0))) (hf : FieldsIn x.heap.size x a fr) (hs : FewF fr) {M : Bool} (hM : mayF getB [] st fr 0 = M) : Stand x p st a fr.length c M :=
  ⟨fun _ hy => four_at ((hy.block _ (Array.getElem?_eq_some_iff.1 h).1).trans h),
   may_at getB ⟨#[]⟩ [] none 0 none 0 0 st ⟨#[]⟩ fr a c none 0 0 x (nil_fields x) (few_lit rfl) hf hs hM,
   may_at postB ⟨#[]⟩ [] none 0 none 0 0 st ⟨#[]⟩ fr a c none 0 0 x (nil_fields x) (few_lit rfl) hf hs (may_post _ _ _ _)⟩
theorem stat_cell (x : World) (K : Nat) (hK : K < 6) : (x.alloc (.cells #[.string ⟨#[]⟩, .string ⟨#[109, 97, 120, 45, 97, 103, 101, 61, 53]⟩, .string ⟨#[112, 117, 98, 108, 105, 99]⟩, .string ⟨#[115, 45, 109, 97, 120, 97, 103, 101, 61, 48]⟩, .string ⟨#[112, 114, 105, 118, 97, 116, 101, 44, 32, 109, 97, 120, 45, 97, 103, 101, 61, 57]⟩, .string ⟨#[110, 111, 45, 115, 116, 111, 114, 101]⟩] 9)).cell? ⟨x.heap.size, K, none⟩ = some (.string (statV K)) := by
  rw [Lib.cell_of_heap (heap_alloc_new x _)]
  match K, hK with
  | 0, _ | 1, _ | 2, _ | 3, _ | 4, _ | 5, _ => rfl
theorem statV_few (K : Nat) (hK : K < 6) : FewF (statFs K) := by
  match K, hK with
  | 0, _ | 1, _ | 2, _ | 3, _ | 4, _ | 5, _ => exact few_lit (by decide +kernel)
theorem statV_some (K : Nat) (hK : K < 6) : (statV K).toList.isEmpty = (K == 0) := by
  match K, hK with
  | 0, _ | 1, _ | 2, _ | 3, _ | 4, _ | 5, _ => decide +kernel
theorem three_new (w : World) (o p q : Obj) : let v := ((w.alloc o).alloc p).alloc q
    v.heap[w.heap.size + 1]? = some p ∧ v.heap[w.heap.size + 1 + 1]? = some q := by
  intro v
  have z2 : ((w.alloc o).alloc p).heap.size = w.heap.size + 1 + 1 := by simp
  have e2 := heap_alloc_new ((w.alloc o).alloc p) q
  rw [z2] at e2
  exact ⟨stood0 (new1 w o p), e2⟩
set_option maxRecDepth 100000 in
set_option maxHeartbeats 16000000 in
theorem status_law (st : Int) (t : Nat) (w : World) (ht : t < 256) : Calls Tryz.prog 6 #[.int .i64 st, .int .u8 t] w (RulePost true w) := by
  obtain ⟨K, hK⟩ : ∃ K, t % 6 = K := ⟨_, rfl⟩
  have hK6 : K < 6 := by omega
  have hm : (t : Int) % 6 = (K : Int) := by omega
  have hm2 : (t : Int).tmod 6 = (K : Int) := by rw [Int.tmod_eq_emod_of_nonneg (by omega)]; omega
  obtain ⟨M, hM⟩ : ∃ M, (statusF st && (decide (K < 4) && (decide (0 < K) || heurF st))) = M := ⟨_, rfl⟩
  have HM := Lib.hid hM
  have HMAY : Hid (mayF getB [] st (statFs K) 0 = M) := Lib.hid ((may_status K hK6 st).trans hM)
  have HFEW := Lib.hid (statV_few K hK6)
  obtain ⟨V, hV⟩ : ∃ V, statV K = V := ⟨_, rfl⟩
  have hc := fun x => stat_cell x K hK6
  have he := statV_some K hK6
  rw [hV] at hc he
  have HV := Lib.hid hV
  obtain ⟨b1, d1⟩ : ∃ b, decide (200 ≤ st) = b := ⟨_, rfl⟩
  obtain ⟨b2, d2⟩ : ∃ b, (st != 206) = b := ⟨_, rfl⟩
  obtain ⟨b3, d3⟩ : ∃ b, (st != 304) = b := ⟨_, rfl⟩
  obtain ⟨k4, d4⟩ : ∃ b, decide (K < 4) = b := ⟨_, rfl⟩
  obtain ⟨k0, d0⟩ : ∃ b, decide (0 < K) = b := ⟨_, rfl⟩
  have d4i : decide ((K : Int) < 4) = k4 := by rw [← d4]; exact decide_eq_decide.2 (by omega)
  have d0i : decide (0 < (K : Int)) = k0 := by rw [← d0]; exact decide_eq_decide.2 (by omega)
  have HME : Hid (((b1 && b2 && b3) && (k4 && (k0 || heurF st))) = M) := Lib.hid (by rw [← hM, ← d1, ← d2, ← d3, ← d4, ← d0]; rfl)
  have kl : (K : Int) < 6 := by omega
  have HD1 := Lib.hid d1
  have HD2 := Lib.hid d2
  have HD3 := Lib.hid d3
  have HD4 := Lib.hid d4
  have HD4i := Lib.hid d4i
  have HD0 := Lib.hid d0
  have HD0i := Lib.hid d0i
  have HKN := Lib.hid (fun x => pknown_any x)
  have HEE := Lib.hid he
  have HK := Lib.hid hK
  clear hK hM hV d1 d2 d3 d4 d0 d4i d0i he
  unfold RulePost at HKN ⊢
  go_enter Tryz.func6, Tryz.ntmps6
  go_wp2_with fail
  refine (HKN.out _).mono ?_
  rintro e w1 ⟨rfl, hb⟩
  have HB1 := Lib.hid hb
  clear hb HKN
  by_cases h0 : K = 0
  · have e0 : V.toList.isEmpty = true := by rw [HEE.out, h0]; rfl
    obtain ⟨x, hx⟩ : ∃ x, (w1.alloc (.cells #[.string ⟨#[]⟩, .string ⟨#[109, 97, 120, 45, 97, 103, 101, 61, 53]⟩, .string ⟨#[112, 117, 98, 108, 105, 99]⟩, .string ⟨#[115, 45, 109, 97, 120, 97, 103, 101, 61, 48]⟩, .string ⟨#[112, 114, 105, 118, 97, 116, 101, 44, 32, 109, 97, 120, 45, 97, 103, 101, 61, 57]⟩, .string ⟨#[110, 111, 45, 115, 116, 111, 114, 101]⟩] 9)).alloc (.cells #[.int .i64 st, .string ⟨#[]⟩, .slice none 0 0, .slice none 0 0] 27) = x := ⟨_, rfl⟩
    have HXB : Hid (Below w.heap.size w x) := Lib.hid (by rw [← hx]; exact HB1.out.trans ((below_al (below_al (Below.refl _ _) _) _).mono HB1.out.size))
    have HS : Hid (Stand x (w1.heap.size + 1) st none 0 0 M) := Lib.hid (by
      have h := new1 w1 (.cells #[.string ⟨#[]⟩, .string ⟨#[109, 97, 120, 45, 97, 103, 101, 61, 53]⟩, .string ⟨#[112, 117, 98, 108, 105, 99]⟩, .string ⟨#[115, 45, 109, 97, 120, 97, 103, 101, 61, 48]⟩, .string ⟨#[112, 114, 105, 118, 97, 116, 101, 44, 32, 109, 97, 120, 45, 97, 103, 101, 61, 57]⟩, .string ⟨#[110, 111, 45, 115, 116, 111, 114, 101]⟩] 9) (.cells #[.int .i64 st, .string ⟨#[]⟩, .slice none 0 0, .slice none 0 0] 27)
      rw [hx] at h
      exact stand_of (fr := []) h (nil_fields x) (few_lit rfl) (by have := HMAY.out; rw [h0] at this; exact this))
    have HX := Lib.hid hx
    have H0 := Lib.hid h0
    clear hx h0
    go_upto_region 7 with (fail)
    change Code.wp _ _ _ _ ((w1.alloc (.cells #[.string ⟨#[]⟩, .string ⟨#[109, 97, 120, 45, 97, 103, 101, 61, 53]⟩, .string ⟨#[112, 117, 98, 108, 105, 99]⟩, .string ⟨#[115, 45, 109, 97, 120, 97, 103, 101, 61, 48]⟩, .string ⟨#[112, 114, 105, 118, 97, 116, 101, 44, 32, 109, 97, 120, 45, 97, 103, 101, 61, 57]⟩, .string ⟨#[110, 111, 45, 115, 116, 111, 114, 101]⟩] 9)).alloc (.cells #[.int .i64 st, .string ⟨#[]⟩, .slice none 0 0, .slice none 0 0] 27))
    rw [HX.out]
    go_cut [7] (fun s7 wx => s7 = .bool M ∧ Below x.heap.size x wx)
    case first =>
      have d1 := HD1.out
      cases b1 with
      | false =>
        have hM : M = false := by rw [← HME.out]; simp
        have HMM := Lib.hid hM
        clear hM
        go_wp2
        go_meet
        exact ⟨by rw [HMM.out], Below.refl _ _⟩
      | true =>
        have d2 := HD2.out
        cases b2 with
        | false =>
          have hM : M = false := by rw [← HME.out]; simp
          have HMM := Lib.hid hM
          clear hM
          go_wp2
          go_meet
          exact ⟨by rw [HMM.out], Below.refl _ _⟩
        | true =>
          have d3 := HD3.out
          cases b3 with
          | false =>
            have hM : M = false := by rw [← HME.out]; simp
            have HMM := Lib.hid hM
            clear hM
            go_wp2
            go_meet
            exact ⟨by rw [HMM.out], Below.refl _ _⟩
          | true =>
            have d4 := HD4.out
            have d4i := HD4i.out
            cases k4 with
            | false =>
              have hM : M = false := by rw [← HME.out]; simp
              have HMM := Lib.hid hM
              clear hM
              go_wp2
              go_meet
              exact ⟨by rw [HMM.out], Below.refl _ _⟩
            | true =>
              have d0 := HD0.out
              have d0i := HD0i.out
              cases k0 with
              | true =>
                have hM : M = true := by rw [← HME.out]; simp
                have HMM := Lib.hid hM
                clear hM
                go_wp2
                go_meet
                exact ⟨by rw [HMM.out], Below.refl _ _⟩
              | false =>
                have hM : heurF st = M := by rw [← HME.out]; simp
                have HMM := Lib.hid hM
                have CH := Lib.hid (refHeur_any st x)
                clear hM
                rw [HMM.out] at CH
                go_wp2_with fail
                refine CH.out.mono ?_
                rintro e y ⟨rfl, hy⟩
                have HY := Lib.hid hy
                clear hy CH
                go_wp2
                go_meet
                exact ⟨rfl, HY.out⟩
    case rest =>
      obtain ⟨rfl, hb⟩ := hcut
      have HB := Lib.hid hb
      obtain ⟨c0, c1, c2, c3⟩ := HS.out.cells wc hb
      have CG := Lib.hid (HS.out.get wc hb)
      unfold RulePost at CG
      clear hb
      have hMM : (M == M) = true := beq_self_eq_true _
      go_wp2_with fail
      refine CG.out.mono ?_
      rintro e y ⟨rfl, hy⟩
      have hxy := HB.out.trans (hy.mono HB.out.size)
      have HY := Lib.hid hxy
      have CP := Lib.hid (HS.out.post y hxy)
      unfold RulePost at CP
      clear c0 c1 c2 c3
      obtain ⟨c0, c1, c2, c3⟩ := HS.out.cells y hxy
      clear hy hxy CG
      go_wp2_with fail
      refine CP.out.mono ?_
      rintro e z ⟨rfl, hz⟩
      have HZ := Lib.hid (HXB.out.trans ((HY.out.trans (hz.mono HY.out.size)).mono HXB.out.size))
      clear hz CP c0 c1 c2 c3
      go_wp2
      go_ret
      exact ⟨rfl, HZ.out⟩
  · have e0 : V.toList.isEmpty = false := by rw [HEE.out]; simpa using h0
    obtain ⟨x, hx⟩ : ∃ x, ((w1.alloc (.cells #[.string ⟨#[]⟩, .string ⟨#[109, 97, 120, 45, 97, 103, 101, 61, 53]⟩, .string ⟨#[112, 117, 98, 108, 105, 99]⟩, .string ⟨#[115, 45, 109, 97, 120, 97, 103, 101, 61, 48]⟩, .string ⟨#[112, 114, 105, 118, 97, 116, 101, 44, 32, 109, 97, 120, 45, 97, 103, 101, 61, 57]⟩, .string ⟨#[110, 111, 45, 115, 116, 111, 114, 101]⟩] 9)).alloc (.cells #[.int .i64 st, .string ⟨#[]⟩, .slice (some ⟨w1.heap.size + 1 + 1, 0, none⟩) 1 1, .slice none 0 0] 27)).alloc (.cells #[.string ⟨#[99, 97, 99, 104, 101, 45, 99, 111, 110, 116, 114, 111, 108]⟩, .string V] 48) = x := ⟨_, rfl⟩
    have HXB : Hid (Below w.heap.size w x) := Lib.hid (by rw [← hx]; exact HB1.out.trans ((below_al (below_al (below_al (Below.refl _ _) _) _) _).mono HB1.out.size))
    have HS : Hid (Stand x (w1.heap.size + 1) st (some ⟨w1.heap.size + 1 + 1, 0, none⟩) 1 1 M) := Lib.hid (by
      have h := three_new w1 (.cells #[.string ⟨#[]⟩, .string ⟨#[109, 97, 120, 45, 97, 103, 101, 61, 53]⟩, .string ⟨#[112, 117, 98, 108, 105, 99]⟩, .string ⟨#[115, 45, 109, 97, 120, 97, 103, 101, 61, 48]⟩, .string ⟨#[112, 114, 105, 118, 97, 116, 101, 44, 32, 109, 97, 120, 45, 97, 103, 101, 61, 57]⟩, .string ⟨#[110, 111, 45, 115, 116, 111, 114, 101]⟩] 9) (.cells #[.int .i64 st, .string ⟨#[]⟩, .slice (some ⟨w1.heap.size + 1 + 1, 0, none⟩) 1 1, .slice none 0 0] 27) (.cells #[.string ⟨#[99, 97, 99, 104, 101, 45, 99, 111, 110, 116, 114, 111, 108]⟩, .string V] 48)
      simp only [hx] at h
      have hF : statFs K = [(ccL, V)] := by unfold statFs; rw [if_neg h0, HV.out]
      have hfew := HFEW.out
      have hmay := HMAY.out
      rw [hF] at hfew hmay
      exact stand_of (fr := [(ccL, V)]) h.1 (one_at (f := (ccL, V)) h.2) hfew hmay)
    have HX := Lib.hid hx
    have H0 := Lib.hid h0
    clear hx h0
    go_upto_region 7 with (fail)
    change Code.wp _ _ _ _ (((w1.alloc (.cells #[.string ⟨#[]⟩, .string ⟨#[109, 97, 120, 45, 97, 103, 101, 61, 53]⟩, .string ⟨#[112, 117, 98, 108, 105, 99]⟩, .string ⟨#[115, 45, 109, 97, 120, 97, 103, 101, 61, 48]⟩, .string ⟨#[112, 114, 105, 118, 97, 116, 101, 44, 32, 109, 97, 120, 45, 97, 103, 101, 61, 57]⟩, .string ⟨#[110, 111, 45, 115, 116, 111, 114, 101]⟩] 9)).alloc (.cells #[.int .i64 st, .string ⟨#[]⟩, .slice (some ⟨w1.heap.size + 1 + 1, 0, none⟩) 1 1, .slice none 0 0] 27)).alloc (.cells #[.string ⟨#[99, 97, 99, 104, 101, 45, 99, 111, 110, 116, 114, 111, 108]⟩, .string V] 48))
    rw [HX.out]
    go_cut [7] (fun s7 wx => s7 = .bool M ∧ Below x.heap.size x wx)
    case first =>
      have d1 := HD1.out
      cases b1 with
      | false =>
        have hM : M = false := by rw [← HME.out]; simp
        have HMM := Lib.hid hM
        clear hM
        go_wp2
        go_meet
        exact ⟨by rw [HMM.out], Below.refl _ _⟩
      | true =>
        have d2 := HD2.out
        cases b2 with
        | false =>
          have hM : M = false := by rw [← HME.out]; simp
          have HMM := Lib.hid hM
          clear hM
          go_wp2
          go_meet
          exact ⟨by rw [HMM.out], Below.refl _ _⟩
        | true =>
          have d3 := HD3.out
          cases b3 with
          | false =>
            have hM : M = false := by rw [← HME.out]; simp
            have HMM := Lib.hid hM
            clear hM
            go_wp2
            go_meet
            exact ⟨by rw [HMM.out], Below.refl _ _⟩
          | true =>
            have d4 := HD4.out
            have d4i := HD4i.out
            cases k4 with
            | false =>
              have hM : M = false := by rw [← HME.out]; simp
              have HMM := Lib.hid hM
              clear hM
              go_wp2
              go_meet
              exact ⟨by rw [HMM.out], Below.refl _ _⟩
            | true =>
              have d0 := HD0.out
              have d0i := HD0i.out
              cases k0 with
              | true =>
                have hM : M = true := by rw [← HME.out]; simp
                have HMM := Lib.hid hM
                clear hM
                go_wp2
                go_meet
                exact ⟨by rw [HMM.out], Below.refl _ _⟩
              | false =>
                have hM : heurF st = M := by rw [← HME.out]; simp
                have HMM := Lib.hid hM
                have CH := Lib.hid (refHeur_any st x)
                clear hM
                rw [HMM.out] at CH
                go_wp2_with fail
                refine CH.out.mono ?_
                rintro e y ⟨rfl, hy⟩
                have HY := Lib.hid hy
                clear hy CH
                go_wp2
                go_meet
                exact ⟨rfl, HY.out⟩
    case rest =>
      obtain ⟨rfl, hb⟩ := hcut
      have HB := Lib.hid hb
      obtain ⟨c0, c1, c2, c3⟩ := HS.out.cells wc hb
      have CG := Lib.hid (HS.out.get wc hb)
      unfold RulePost at CG
      clear hb
      have hMM : (M == M) = true := beq_self_eq_true _
      go_wp2_with fail
      refine CG.out.mono ?_
      rintro e y ⟨rfl, hy⟩
      have hxy := HB.out.trans (hy.mono HB.out.size)
      have HY := Lib.hid hxy
      have CP := Lib.hid (HS.out.post y hxy)
      unfold RulePost at CP
      clear c0 c1 c2 c3
      obtain ⟨c0, c1, c2, c3⟩ := HS.out.cells y hxy
      clear hy hxy CG
      go_wp2_with fail
      refine CP.out.mono ?_
      rintro e z ⟨rfl, hz⟩
      have HZ := Lib.hid (HXB.out.trans ((HY.out.trans (hz.mono HY.out.size)).mono HXB.out.size))
      clear hz CP c0 c1 c2 c3
      go_wp2
      go_ret
      exact ⟨rfl, HZ.out⟩
end Go.Proofs.YtgfinhkplijhbaaGreatDoor
namespace Go.Proofs.YtgfinhkplijhbaaGreatDoor
open Go.RowKit HeadMath HeadS CtrlS VaryS

theorem auth_cell (x : World) (K : Nat) (hK : K < 6) : (x.alloc (.cells #[.string ⟨#[109, 97, 120, 45, 97, 103, 101, 61, 53]⟩, .string ⟨#[109, 97, 120, 45, 97, 103, 101, 61, 53, 44, 32, 112, 117, 98, 108, 105, 99]⟩, .string ⟨#[109, 97, 120, 45, 97, 103, 101, 61, 53, 44, 32, 109, 117, 115, 116, 45, 114, 101, 118, 97, 108, 105, 100, 97, 116, 101]⟩, .string ⟨#[115, 45, 109, 97, 120, 97, 103, 101, 61, 53]⟩, .string ⟨#[109, 97, 120, 45, 97, 103, 101, 61, 53, 44, 32, 112, 114, 111, 120, 121, 45, 114, 101, 118, 97, 108, 105, 100, 97, 116, 101]⟩, .string ⟨#[]⟩] 9)).cell? ⟨x.heap.size, K, none⟩ = some (.string (authV K)) := by
  rw [Lib.cell_of_heap (heap_alloc_new x _)]
  match K, hK with
  | 0, _ | 1, _ | 2, _ | 3, _ | 4, _ | 5, _ => rfl
theorem authV_few (K : Nat) (hK : K < 6) : FewF [(ccN, authV K)] := by
  match K, hK with
  | 0, _ | 1, _ | 2, _ | 3, _ | 4, _ | 5, _ => exact few_lit (by decide +kernel)
theorem authFs_few (e : Bool) : FewF (authFs e) := by cases e <;> exact few_lit (by decide +kernel)
/-- Where a request lies, and its fields. -/
structure Asks (x : World) (p : Nat) (a : Option Addr) (c : Nat) (fq : Fls) : Prop where
  block : x.heap[p]? = some (.cells #[.string ⟨#[71, 69, 84]⟩, .string ⟨#[]⟩, .slice a fq.length c, .slice none 0 0] 25 (0, 0))
  fields : FieldsIn x.heap.size x a fq
theorem Asks.below {x y : World} {p : Nat} {a : Option Addr} {c : Nat} {fq : Fls} (h : Asks x p a c fq) (hb : Below x.heap.size x y) : Asks y p a c fq := ⟨(hb.block _ (Array.getElem?_eq_some_iff.1 h.block).1).trans h.block, kin_in (w := x) ⟨y, hb⟩ h.fields⟩
theorem two_cells {x : World} {g : Nat} {a b : ByteArray} (h : x.heap[g]? = some (.cells #[.string a, .string b] 48 (0, 0))) : ∀ j u, [Value.string a, Value.string b][j]? = some u → x.cell? ((⟨g, 0, none⟩ : Addr).add j) = some u := by
  intro j u hj
  match j, hj with
  | 0, hj => injection hj with hj; subst hj; show x.cell? ⟨g, 0, none⟩ = _; rw [Lib.cell_of_heap h]; rfl
  | 1, hj => injection hj with hj; subst hj; show x.cell? ⟨g, 1, none⟩ = _; rw [Lib.cell_of_heap h]; rfl
theorem strs_one {a b : ByteArray} : ∀ u ∈ [Value.string a, Value.string b], u.oneCell' = true := by
  intro u hu
  rcases List.mem_cons.1 hu with rfl | hu
  · rfl
  · obtain rfl : u = .string b := by simpa using hu
    rfl
theorem own_two {x : World} {B : Nat} {v : Value} {a b c d : ByteArray} (h : x.ownsRow B 48 2 v 2 ([Value.string a, Value.string b] ++ [Value.string c, Value.string d])) : ∃ g cap, v = .slice (some ⟨g, 0, none⟩) 2 cap ∧ B ≤ g ∧ g < x.heap.size ∧ x.cell? ⟨g, 0, none⟩ = some (.string a) ∧ x.cell? ⟨g, 1, none⟩ = some (.string b) ∧ x.cell? ⟨g, 2, none⟩ = some (.string c) ∧ x.cell? ⟨g, 3, none⟩ = some (.string d) := by
  obtain ⟨g, cap, hv, h1, h2⟩ := World.ownsRow.form h (by decide)
  exact ⟨g, cap, hv, h1, h2, h.cells (g := g) (by rw [hv]; rfl) 0 _ rfl, h.cells (g := g) (by rw [hv]; rfl) 1 _ rfl, h.cells (g := g) (by rw [hv]; rfl) 2 _ rfl, h.cells (g := g) (by rw [hv]; rfl) 3 _ rfl⟩
theorem asks_set {x : World} {p g cap : Nat} {ao : Option Addr} {n c0 : Nat} {a b c d : ByteArray} (h : x.heap[p]? = some (.cells #[.string ⟨#[71, 69, 84]⟩, .string ⟨#[]⟩, .slice ao n c0, .slice none 0 0] 25 (0, 0))) (hgp : g ≠ p) (hg : g < x.heap.size)
    (h0 : x.cell? ⟨g, 0, none⟩ = some (.string a)) (h1 : x.cell? ⟨g, 1, none⟩ = some (.string b)) (h2 : x.cell? ⟨g, 2, none⟩ = some (.string c)) (h3 : x.cell? ⟨g, 3, none⟩ = some (.string d)) :
    Asks (x.setCell ⟨p, 2, none⟩ (.slice (some ⟨g, 0, none⟩) 2 cap)) p (some ⟨g, 0, none⟩) cap [(a, b), (c, d)] := by
  have far : ∀ k, (x.setCell ⟨p, 2, none⟩ (.slice (some ⟨g, 0, none⟩) 2 cap)).cell? ⟨g, k, none⟩ = x.cell? ⟨g, k, none⟩ := fun k => World.cell?_setCell_far _ _ _ _ (fun h => hgp h.symm)
  have hsz : (x.setCell ⟨p, 2, none⟩ (.slice (some ⟨g, 0, none⟩) 2 cap)).heap.size = x.heap.size := by simp
  refine ⟨?_, fun j hj => ?_⟩
  · have := heap_setCells (g := p) (t := 25) [.slice (some ⟨g, 0, none⟩) 2 cap] [.string ⟨#[71, 69, 84]⟩, .string ⟨#[]⟩] [.slice ao n c0] [.slice none 0 0] x h rfl
    exact this
  · have hj2 : j < 2 := hj
    match j, hj2 with
    | 0, _ => exact ⟨g, 0, rfl, by rw [hsz]; exact hg, by rw [far]; exact h0, by rw [far]; exact h1⟩
    | 1, _ => exact ⟨g, 0, rfl, by rw [hsz]; exact hg, by rw [far]; exact h2, by rw [far]; exact h3⟩
set_option maxRecDepth 100000 in
set_option maxHeartbeats 16000000 in
theorem auth_law (t : Nat) (ex : Bool) (w : World) (ht : t < 256) : Calls Tryz.prog 7 #[.int .u8 t, .bool ex] w (RulePost true w) := by
  obtain ⟨K, hK⟩ : ∃ K, t % 6 = K := ⟨_, rfl⟩
  have hK6 : K < 6 := by omega
  have hm : (t : Int) % 6 = (K : Int) := by omega
  have hm2 : (t : Int).tmod 6 = (K : Int) := by rw [Int.tmod_eq_emod_of_nonneg (by omega)]; omega
  obtain ⟨M, hM⟩ : ∃ M, (decide (1 ≤ K) && decide (K ≤ 3)) = M := ⟨_, rfl⟩
  have HMAY : Hid (mayF getB (authFs ex) 200 [(ccN, authV K)] 0 = M) := Lib.hid ((may_auth K hK6 ex).trans hM)
  have HFEW := Lib.hid (authV_few K hK6)
  obtain ⟨V, hV⟩ : ∃ V, authV K = V := ⟨_, rfl⟩
  have hc := fun x => auth_cell x K hK6
  rw [hV] at hc HFEW HMAY
  obtain ⟨k1, d1⟩ : ∃ b, decide (1 ≤ K) = b := ⟨_, rfl⟩
  obtain ⟨k3, d3⟩ : ∃ b, decide (K ≤ 3) = b := ⟨_, rfl⟩
  have d1i : decide (1 ≤ (K : Int)) = k1 := by rw [← d1]; exact decide_eq_decide.2 (by omega)
  have d3i : decide ((K : Int) ≤ 3) = k3 := by rw [← d3]; exact decide_eq_decide.2 (by omega)
  have HME : Hid ((k1 && k3) = M) := Lib.hid (by rw [← hM, ← d1, ← d3])
  have kl : (K : Int) < 6 := by omega
  have HD1 := Lib.hid d1
  have HD1i := Lib.hid d1i
  have HD3 := Lib.hid d3
  have HD3i := Lib.hid d3i
  have HKN := Lib.hid (fun x => pknown_any x)
  have HK := Lib.hid hK
  clear hK hM hV d1 d3 d1i d3i
  unfold RulePost at HKN ⊢
  go_enter Tryz.func7, Tryz.ntmps7
  go_wp2_with fail
  refine (HKN.out _).mono ?_
  rintro e w1 ⟨rfl, hb⟩
  have HB1 := Lib.hid hb
  clear hb HKN
  obtain ⟨x1, hx1⟩ : ∃ x, ((w1.alloc (.cells #[.string ⟨#[109, 97, 120, 45, 97, 103, 101, 61, 53]⟩, .string ⟨#[109, 97, 120, 45, 97, 103, 101, 61, 53, 44, 32, 112, 117, 98, 108, 105, 99]⟩, .string ⟨#[109, 97, 120, 45, 97, 103, 101, 61, 53, 44, 32, 109, 117, 115, 116, 45, 114, 101, 118, 97, 108, 105, 100, 97, 116, 101]⟩, .string ⟨#[115, 45, 109, 97, 120, 97, 103, 101, 61, 53]⟩, .string ⟨#[109, 97, 120, 45, 97, 103, 101, 61, 53, 44, 32, 112, 114, 111, 120, 121, 45, 114, 101, 118, 97, 108, 105, 100, 97, 116, 101]⟩, .string ⟨#[]⟩] 9)).alloc (.cells #[.string ⟨#[97, 117, 116, 104, 111, 114, 105, 122, 97, 116, 105, 111, 110]⟩, .string ⟨#[120]⟩] 48)).alloc (.cells #[.string ⟨#[71, 69, 84]⟩, .string ⟨#[]⟩, .slice (some ⟨w1.heap.size + 1, 0, none⟩) 1 1, .slice none 0 0] 25) = x := ⟨_, rfl⟩
  have hb1 : Below w1.heap.size w1 x1 := by rw [← hx1]; exact below_al (below_al (below_al (Below.refl _ _) _) _) _
  have h3 := three_new w1 (.cells #[.string ⟨#[109, 97, 120, 45, 97, 103, 101, 61, 53]⟩, .string ⟨#[109, 97, 120, 45, 97, 103, 101, 61, 53, 44, 32, 112, 117, 98, 108, 105, 99]⟩, .string ⟨#[109, 97, 120, 45, 97, 103, 101, 61, 53, 44, 32, 109, 117, 115, 116, 45, 114, 101, 118, 97, 108, 105, 100, 97, 116, 101]⟩, .string ⟨#[115, 45, 109, 97, 120, 97, 103, 101, 61, 53]⟩, .string ⟨#[109, 97, 120, 45, 97, 103, 101, 61, 53, 44, 32, 112, 114, 111, 120, 121, 45, 114, 101, 118, 97, 108, 105, 100, 97, 116, 101]⟩, .string ⟨#[]⟩] 9) (.cells #[.string ⟨#[97, 117, 116, 104, 111, 114, 105, 122, 97, 116, 105, 111, 110]⟩, .string ⟨#[120]⟩] 48) (.cells #[.string ⟨#[71, 69, 84]⟩, .string ⟨#[]⟩, .slice (some ⟨w1.heap.size + 1, 0, none⟩) 1 1, .slice none 0 0] 25)
  simp only [hx1] at h3
  have HX1 := Lib.hid hx1
  have HBX := Lib.hid (HB1.out.trans (hb1.mono HB1.out.size))
  have HA1 : Hid (Asks x1 (w1.heap.size + 1 + 1) (some ⟨w1.heap.size + 1, 0, none⟩) 1 (authFs false)) := Lib.hid ⟨h3.2, one_at (f := (authL, xB)) h3.1⟩
  have HF1 := Lib.hid h3.1
  clear hx1 hb1 h3
  cases ex with
  | false =>
    obtain ⟨x0, hx0⟩ : ∃ x, x1 = x := ⟨_, rfl⟩
    have HA : Hid (Asks x0 (w1.heap.size + 1 + 1) (some ⟨w1.heap.size + 1, 0, none⟩) 1 (authFs false)) := Lib.hid (hx0 ▸ HA1.out)
    have HB0 : Hid (Below w.heap.size w x0) := Lib.hid (hx0 ▸ HBX.out)
    have HX0 := Lib.hid hx0
    clear hx0
    go_upto_region 7 with (fail)
    change Code.wp _ _ _ _ (((w1.alloc (.cells #[.string ⟨#[109, 97, 120, 45, 97, 103, 101, 61, 53]⟩, .string ⟨#[109, 97, 120, 45, 97, 103, 101, 61, 53, 44, 32, 112, 117, 98, 108, 105, 99]⟩, .string ⟨#[109, 97, 120, 45, 97, 103, 101, 61, 53, 44, 32, 109, 117, 115, 116, 45, 114, 101, 118, 97, 108, 105, 100, 97, 116, 101]⟩, .string ⟨#[115, 45, 109, 97, 120, 97, 103, 101, 61, 53]⟩, .string ⟨#[109, 97, 120, 45, 97, 103, 101, 61, 53, 44, 32, 112, 114, 111, 120, 121, 45, 114, 101, 118, 97, 108, 105, 100, 97, 116, 101]⟩, .string ⟨#[]⟩] 9)).alloc (.cells #[.string ⟨#[97, 117, 116, 104, 111, 114, 105, 122, 97, 116, 105, 111, 110]⟩, .string ⟨#[120]⟩] 48)).alloc (.cells #[.string ⟨#[71, 69, 84]⟩, .string ⟨#[]⟩, .slice (some ⟨w1.heap.size + 1, 0, none⟩) 1 1, .slice none 0 0] 25))
    rw [HX1.out, HX0.out]
    obtain ⟨x, hx⟩ : ∃ x, (x0.alloc (.cells #[.string ⟨#[67, 97, 99, 104, 101, 45, 67, 111, 110, 116, 114, 111, 108]⟩, .string V] 48)).alloc (.cells #[.int .i64 200, .string ⟨#[]⟩, .slice (some ⟨x0.heap.size, 0, none⟩) 1 1, .slice none 0 0] 27) = x := ⟨_, rfl⟩
    have hbx : Below x0.heap.size x0 x := by rw [← hx]; exact below_al (below_al (Below.refl _ _) _) _
    have hxr := new1 x0 (.cells #[.string ⟨#[67, 97, 99, 104, 101, 45, 67, 111, 110, 116, 114, 111, 108]⟩, .string V] 48) (.cells #[.int .i64 200, .string ⟨#[]⟩, .slice (some ⟨x0.heap.size, 0, none⟩) 1 1, .slice none 0 0] 27)
    rw [hx] at hxr
    have hxf : FieldsIn x.heap.size x (some ⟨x0.heap.size, 0, none⟩) [(ccN, V)] := one_at (f := (ccN, V)) (by rw [← hx]; exact stood0 (heap_alloc_new x0 _))
    have hA := HA.out.below hbx
    obtain ⟨q0, q1, q2, q3⟩ := four_at hA.block
    obtain ⟨r0, r1, r2, r3⟩ := four_at hxr
    have CM : Hid (Calls Tryz.prog 14 #[.agg #[.string ⟨#[71, 69, 84]⟩, .string ⟨#[]⟩, .slice (some ⟨w1.heap.size + 1, 0, none⟩) 1 1, .slice none 0 0], .agg #[.int .i64 200, .string ⟨#[]⟩, .slice (some ⟨x0.heap.size, 0, none⟩) 1 1, .slice none 0 0]] x (RulePost M x)) := Lib.hid (may_at getB ⟨#[]⟩ (authFs false) (some ⟨w1.heap.size + 1, 0, none⟩) 1 none 0 0 200 ⟨#[]⟩ [(ccN, V)] (some ⟨x0.heap.size, 0, none⟩) 1 none 0 0 x hA.fields (authFs_few false) hxf HFEW.out HMAY.out x (Below.refl _ _))
    have HX := Lib.hid hx
    have HXB := Lib.hid (HB0.out.trans (hbx.mono HB0.out.size))
    have hMM : (M == M) = true := beq_self_eq_true _
    unfold RulePost at CM
    clear hx hbx hxr hxf hA
    go_upto_region 8 with (fail)
    change Code.wp _ _ _ _ ((x0.alloc (.cells #[.string ⟨#[67, 97, 99, 104, 101, 45, 67, 111, 110, 116, 114, 111, 108]⟩, .string V] 48)).alloc (.cells #[.int .i64 200, .string ⟨#[]⟩, .slice (some ⟨x0.heap.size, 0, none⟩) 1 1, .slice none 0 0] 27))
    rw [HX.out]
    go_wp2_with fail
    refine CM.out.mono ?_
    rintro e y ⟨rfl, hy⟩
    have HY := Lib.hid (HXB.out.trans (hy.mono HXB.out.size))
    clear hy CM q0 q1 q2 q3 r0 r1 r2 r3
    have d1 := HD1.out
    have d1i := HD1i.out
    have d3 := HD3.out
    have d3i := HD3i.out
    cases k1 with
    | false =>
      have hM : M = false := by rw [← HME.out]; rfl
      subst hM
      go_wp2
      go_ret
      exact ⟨rfl, HY.out⟩
    | true =>
      cases k3 with
      | false =>
        have hM : M = false := by rw [← HME.out]; rfl
        subst hM
        go_wp2
        go_ret
        exact ⟨rfl, HY.out⟩
      | true =>
        have hM : M = true := by rw [← HME.out]; rfl
        subst hM
        go_wp2
        go_ret
        exact ⟨rfl, HY.out⟩
  | true =>
    go_upto_region 6 with (fail)
    change Code.wp _ _ _ _ (((w1.alloc (.cells #[.string ⟨#[109, 97, 120, 45, 97, 103, 101, 61, 53]⟩, .string ⟨#[109, 97, 120, 45, 97, 103, 101, 61, 53, 44, 32, 112, 117, 98, 108, 105, 99]⟩, .string ⟨#[109, 97, 120, 45, 97, 103, 101, 61, 53, 44, 32, 109, 117, 115, 116, 45, 114, 101, 118, 97, 108, 105, 100, 97, 116, 101]⟩, .string ⟨#[115, 45, 109, 97, 120, 97, 103, 101, 61, 53]⟩, .string ⟨#[109, 97, 120, 45, 97, 103, 101, 61, 53, 44, 32, 112, 114, 111, 120, 121, 45, 114, 101, 118, 97, 108, 105, 100, 97, 116, 101]⟩, .string ⟨#[]⟩] 9)).alloc (.cells #[.string ⟨#[97, 117, 116, 104, 111, 114, 105, 122, 97, 116, 105, 111, 110]⟩, .string ⟨#[120]⟩] 48)).alloc (.cells #[.string ⟨#[71, 69, 84]⟩, .string ⟨#[]⟩, .slice (some ⟨w1.heap.size + 1, 0, none⟩) 1 1, .slice none 0 0] 25))
    rw [HX1.out]
    obtain ⟨q0, q1, q2, q3⟩ := four_at HA1.out.block
    obtain ⟨x2, hx2⟩ : ∃ x, x1.alloc (.cells #[.string ⟨#[67, 97, 99, 104, 101, 45, 67, 111, 110, 116, 114, 111, 108]⟩, .string ⟨#[110, 111, 45, 99, 97, 99, 104, 101]⟩] 48) = x := ⟨_, rfl⟩
    have hb2 : Below x1.heap.size x1 x2 := by rw [← hx2]; exact below_al (Below.refl _ _) _
    have hA2 := HA1.out.below hb2
    have hf1 := (hb2.block _ (Array.getElem?_eq_some_iff.1 HF1.out).1).trans HF1.out
    have hf2 : x2.heap[x1.heap.size]? = some (.cells #[.string ⟨#[67, 97, 99, 104, 101, 45, 67, 111, 110, 116, 114, 111, 108]⟩, .string ⟨#[110, 111, 45, 99, 97, 99, 104, 101]⟩] 48 (0, 0)) := by rw [← hx2]; exact heap_alloc_new _ _
    have HO : Hid (∀ b, some (⟨w1.heap.size + 1, 0, none⟩ : Addr) = some b → ∀ j u, [Value.string ⟨#[97, 117, 116, 104, 111, 114, 105, 122, 97, 116, 105, 111, 110]⟩, Value.string ⟨#[120]⟩][j]? = some u → x2.cell? (b.add j) = some u) := Lib.hid (fun b hb => by injection hb with hb; subst hb; exact two_cells hf1)
    have HN2 := Lib.hid (two_cells hf2)
    have HA2 := Lib.hid hA2
    have HX2 := Lib.hid hx2
    have HB2 := Lib.hid (HBX.out.trans (hb2.mono HBX.out.size))
    obtain ⟨i0, hi, hz0, hz1, hz2⟩ := infoField
    clear hx2 hb2 hA2 hf1 hf2
    go_upto_region 7 with ((with_reducible show wpList _ _ _ (⟨some 23, _, _, _, _, _⟩ :: _) _ _); (change wpList _ _ _ _ _ (x1.alloc (.cells #[.string ⟨#[67, 97, 99, 104, 101, 45, 67, 111, 110, 116, 114, 111, 108]⟩, .string ⟨#[110, 111, 45, 99, 97, 99, 104, 101]⟩] 48))); rw [HX2.out]; refine wpList_append_grows x2 rfl _ _ 22 rfl 48 i0 _ 2 32 Tryz.underlying22 hi hz0 hz1 hz2 rfl (by decide) (some ⟨w1.heap.size + 1, 0, none⟩) 1 1 [.string ⟨#[97, 117, 116, 104, 111, 114, 105, 122, 97, 116, 105, 111, 110]⟩, .string ⟨#[120]⟩] rfl (fun e => by cases e) rfl HO.out ⟨x1.heap.size, 0, none⟩ 1 1 [.string ⟨#[67, 97, 99, 104, 101, 45, 67, 111, 110, 116, 114, 111, 108]⟩, .string ⟨#[110, 111, 45, 99, 97, 99, 104, 101]⟩] rfl rfl HN2.out strs_one (by decide) (by unfold maxLen; decide) (by decide) ?_; intro v' x3 ho3 hg3; obtain ⟨g, cap, hv, hB3, hlt3, c0, c1, c2, c3⟩ := own_two ho3; subst hv; have hb3 := grown_below hg3; have hA3 := HA2.out.below hb3; obtain ⟨r0, r1, r2, r3⟩ := four_at hA3.block; have rf := heap_frozen hA3.block 2; have HF3 := Lib.hid (asks_set (cap := cap) hA3.block (by have := (Array.getElem?_eq_some_iff.1 HA2.out.block).1; omega) hlt3 c0 c1 c2 c3); have HB3 := Lib.hid (HB2.out.trans (hb3.mono HB2.out.size)); clear ho3 hg3 hb3 hA3 hB3 hlt3 c0 c1 c2 c3 q0 q1 q2 q3)
    obtain ⟨x0, hx0⟩ : ∃ x, x3.setCell ⟨w1.heap.size + 1 + 1, 2, none⟩ (.slice (some ⟨g, 0, none⟩) 2 cap) = x := ⟨_, rfl⟩
    have HA : Hid (Asks x0 (w1.heap.size + 1 + 1) (some ⟨g, 0, none⟩) cap (authFs true)) := Lib.hid (by rw [← hx0]; exact HF3.out)
    have HB0 : Hid (Below w.heap.size w x0) := Lib.hid (by rw [← hx0]; exact below_cell HB3.out (by have := HB1.out.size; omega) _)
    have HX0 := Lib.hid hx0
    clear hx0 r0 r1 r2 r3 rf
    change Code.wp _ _ _ _ (x3.setCell ⟨w1.heap.size + 1 + 1, 2, none⟩ (.slice (some ⟨g, 0, none⟩) 2 cap))
    rw [HX0.out]
    obtain ⟨x, hx⟩ : ∃ x, (x0.alloc (.cells #[.string ⟨#[67, 97, 99, 104, 101, 45, 67, 111, 110, 116, 114, 111, 108]⟩, .string V] 48)).alloc (.cells #[.int .i64 200, .string ⟨#[]⟩, .slice (some ⟨x0.heap.size, 0, none⟩) 1 1, .slice none 0 0] 27) = x := ⟨_, rfl⟩
    have hbx : Below x0.heap.size x0 x := by rw [← hx]; exact below_al (below_al (Below.refl _ _) _) _
    have hxr := new1 x0 (.cells #[.string ⟨#[67, 97, 99, 104, 101, 45, 67, 111, 110, 116, 114, 111, 108]⟩, .string V] 48) (.cells #[.int .i64 200, .string ⟨#[]⟩, .slice (some ⟨x0.heap.size, 0, none⟩) 1 1, .slice none 0 0] 27)
    rw [hx] at hxr
    have hxf : FieldsIn x.heap.size x (some ⟨x0.heap.size, 0, none⟩) [(ccN, V)] := one_at (f := (ccN, V)) (by rw [← hx]; exact stood0 (heap_alloc_new x0 _))
    have hA := HA.out.below hbx
    obtain ⟨q0, q1, q2, q3⟩ := four_at hA.block
    obtain ⟨r0, r1, r2, r3⟩ := four_at hxr
    have CM : Hid (Calls Tryz.prog 14 #[.agg #[.string ⟨#[71, 69, 84]⟩, .string ⟨#[]⟩, .slice (some ⟨g, 0, none⟩) 2 cap, .slice none 0 0], .agg #[.int .i64 200, .string ⟨#[]⟩, .slice (some ⟨x0.heap.size, 0, none⟩) 1 1, .slice none 0 0]] x (RulePost M x)) := Lib.hid (may_at getB ⟨#[]⟩ (authFs true) (some ⟨g, 0, none⟩) cap none 0 0 200 ⟨#[]⟩ [(ccN, V)] (some ⟨x0.heap.size, 0, none⟩) 1 none 0 0 x hA.fields (authFs_few true) hxf HFEW.out HMAY.out x (Below.refl _ _))
    have HX := Lib.hid hx
    have HXB := Lib.hid (HB0.out.trans (hbx.mono HB0.out.size))
    have hMM : (M == M) = true := beq_self_eq_true _
    unfold RulePost at CM
    clear hx hbx hxr hxf hA
    go_upto_region 8 with (fail)
    change Code.wp _ _ _ _ ((x0.alloc (.cells #[.string ⟨#[67, 97, 99, 104, 101, 45, 67, 111, 110, 116, 114, 111, 108]⟩, .string V] 48)).alloc (.cells #[.int .i64 200, .string ⟨#[]⟩, .slice (some ⟨x0.heap.size, 0, none⟩) 1 1, .slice none 0 0] 27))
    rw [HX.out]
    go_wp2_with fail
    refine CM.out.mono ?_
    rintro e y ⟨rfl, hy⟩
    have HY := Lib.hid (HXB.out.trans (hy.mono HXB.out.size))
    clear hy CM q0 q1 q2 q3 r0 r1 r2 r3
    have d1 := HD1.out
    have d1i := HD1i.out
    have d3 := HD3.out
    have d3i := HD3i.out
    cases k1 with
    | false =>
      have hM : M = false := by rw [← HME.out]; rfl
      subst hM
      go_wp2
      go_ret
      exact ⟨rfl, HY.out⟩
    | true =>
      cases k3 with
      | false =>
        have hM : M = false := by rw [← HME.out]; rfl
        subst hM
        go_wp2
        go_ret
        exact ⟨rfl, HY.out⟩
      | true =>
        have hM : M = true := by rw [← HME.out]; rfl
        subst hM
        go_wp2
        go_ret
        exact ⟨rfl, HY.out⟩
end Go.Proofs.YtgfinhkplijhbaaGreatDoor
namespace Go.Proofs.YtgfinhkplijhbaaGreatDoor
open Go.ChangeShapes Go.WideShapes Go.ChangeAt Go.RowKit HeadS VaryS

section
variable {H : Type} {W : World} {enc : TypeId × Value → H}
set_option maxRecDepth 100000 in
theorem request_openP {v : Value} {d : DataW H} {p : List MemPlace} {r : Reach} {b0 : Nat} (hv : Value.okWide Tryz.prog W r b0 25 v) (h : DataW.Trod enc Tryz.prog W 0 (fun _ => true) true 25 v d p) :
    ∃ (m t : ByteArray) (fa : Option Addr) (fc : Nat) (fs : List (ByteArray × ByteArray)) (ba : Option Addr) (bn bc : Nat), v = .agg #[.string m, .string t, .slice fa fs.length fc, .slice ba bn bc] ∧ FieldsIn W.heap.size W fa fs ∧
      WideF fs ∧ m.size ≤ 9223372036854775807 ∧ t.size ≤ 9223372036854775807 ∧ bn ≤ 9223372036854775807 := by
  obtain ⟨v0, v1, v2, v3, y0, y1, y2, y3, n, rfl, _, _, t0, t1, t2, t3⟩ := Joins.open_agg4 Tryz.underlying25 (by kernel_rfl) (by kernel_rfl) hv h
  obtain ⟨z0, e0, _, w0⟩ := DataW.trod_string Tryz.underlying9 t0
  obtain ⟨z1, e1, _, w1⟩ := DataW.trod_string Tryz.underlying9 t1
  obtain ⟨fs, fa, fc, rfl, hat, hl, _, _, hsz⟩ := fields_of_trod t2
  obtain ⟨ba, bn, bc, rfl, hb⟩ := slice_lenV Tryz.underlying23 t3
  injection e0 with e0; injection e1 with e1
  subst e0; subst e1
  exact ⟨z0, z1, fa, fc, fs, ba, bn, bc, rfl, fieldsAt_inV hat, ⟨hl, hsz⟩, w0, w1, hb⟩
theorem fields_openP {d : DataW H} {p : List MemPlace} {fuel : Nat} {a : Option Addr} {len cap : Nat}
    (hf : DataW.trod enc Tryz.prog W 0 (fun _ => true) true fuel 22 (Value.slice a len cap).cells.toList = some (d, p)) :
    ∃ fs : List (ByteArray × ByteArray), fs.length = len ∧ FieldsIn W.heap.size W a fs ∧ WideF fs ∧ (a = none → cap = 0) := by
  obtain ⟨fs, h1, h2, h3, h5, h6, h4⟩ := fields_open hf
  exact ⟨fs, h1, fieldsAt_inV h2, ⟨by rw [h1]; exact h3, h4⟩, h6⟩
end
theorem i64_wideP {x : Int} (h : (Lit.int .i64 x).wf = true) : -9223372036854775808 ≤ x ∧ x ≤ 9223372036854775807 := by
  simpa [Lit.wf, IntKind.wrap, IntKind.bits, IntKind.signed] using bounds_i64 (by simpa [Lit.wf, IntKind.wrap, IntKind.bits, IntKind.signed] using h)
end Go.Proofs.YtgfinhkplijhbaaGreatDoor
namespace Go.Proofs.YtgfinhkplijhbaaGreatDoor
open Go.RowKit HeadMath HeadS CtrlS VaryS

theorem two_reqs (w : World) (o p : Obj) : ((w.alloc o).alloc p).heap[w.heap.size]? = some o ∧ ((w.alloc o).alloc p).heap[w.heap.size + 1]? = some p := ⟨stood0 (heap_alloc_new w o), new1 w o p⟩
theorem light_few {fs : Fls} (h : LightF fs 15) : FewF fs := ⟨by have := h.1; omega, fun j hj => by have := h.2 j hj; omega⟩
set_option maxRecDepth 100000 in
set_option maxHeartbeats 16000000 in
theorem keys_law (w : World) (m t : ByteArray) (fs : Fls) (fa : Option Addr) (fc : Nat) (ba : Option Addr) (bn bc : Nat) (m' t' : ByteArray) (fs' : Fls) (fa' : Option Addr) (fc' : Nat) (ba' : Option Addr) (bn' bc' : Nat)
    (hin : FieldsIn w.heap.size w fa fs) (hw : WideF fs) (hm : m.size ≤ 9223372036854775807) (ht : t.size ≤ 9223372036854775807) (hbn : bn ≤ 9223372036854775807)
    (hin' : FieldsIn w.heap.size w fa' fs') (hw' : WideF fs') (hm' : m'.size ≤ 9223372036854775807) (ht' : t'.size ≤ 9223372036854775807) (hbn' : bn' ≤ 9223372036854775807) :
    Calls Tryz.prog 4 #[.agg #[.string m, .string t, .slice fa fs.length fc, .slice ba bn bc], .agg #[.string m', .string t', .slice fa' fs'.length fc', .slice ba' bn' bc']] w (RulePost true w) := by
  obtain ⟨v, hv⟩ : ∃ v, (w.alloc (.cells #[.string m, .string t, .slice fa fs.length fc, .slice ba bn bc] 25)).alloc (.cells #[.string m', .string t', .slice fa' fs'.length fc', .slice ba' bn' bc'] 25) = v := ⟨_, rfl⟩
  have hb : Below w.heap.size w v := by rw [← hv]; exact below_al (below_al (Below.refl _ _) _) _
  have h2 := two_reqs w (.cells #[.string m, .string t, .slice fa fs.length fc, .slice ba bn bc] 25) (.cells #[.string m', .string t', .slice fa' fs'.length fc', .slice ba' bn' bc'] 25)
  rw [hv] at h2
  have HC : Hid (∀ y, Below v.heap.size v y → (y.cell? ⟨w.heap.size, 0, none⟩ = some (.string m) ∧ y.cell? ⟨w.heap.size, 1, none⟩ = some (.string t) ∧ y.cell? ⟨w.heap.size, 2, none⟩ = some (.slice fa fs.length fc) ∧ y.cell? ⟨w.heap.size, 3, none⟩ = some (.slice ba bn bc)) ∧ (y.cell? ⟨w.heap.size + 1, 0, none⟩ = some (.string m') ∧ y.cell? ⟨w.heap.size + 1, 1, none⟩ = some (.string t') ∧ y.cell? ⟨w.heap.size + 1, 2, none⟩ = some (.slice fa' fs'.length fc') ∧ y.cell? ⟨w.heap.size + 1, 3, none⟩ = some (.slice ba' bn' bc'))) :=
    Lib.hid (fun y hy => ⟨four_at ((hy.block _ (Array.getElem?_eq_some_iff.1 h2.1).1).trans h2.1), four_at ((hy.block _ (Array.getElem?_eq_some_iff.1 h2.2).1).trans h2.2)⟩)
  have HI : Hid (∀ y, Below v.heap.size v y → FieldsIn y.heap.size y fa fs ∧ FieldsIn y.heap.size y fa' fs') := Lib.hid (fun y hy => ⟨kin_in (w := w) ⟨y, hb.trans (hy.mono hb.size)⟩ hin, kin_in (w := w) ⟨y, hb.trans (hy.mono hb.size)⟩ hin'⟩)
  have CL : Hid (∀ y, Below v.heap.size v y → Calls Tryz.prog 10 #[.agg #[.string m, .string t, .slice fa fs.length fc, .slice ba bn bc]] y (LitQP m t fs y)) := Lib.hid (fun y hy => lightQP_any m t fa fc fs ba bn bc y (HI.out y hy).1 hw hbn hm ht)
  have CL' : Hid (∀ y, Below v.heap.size v y → Calls Tryz.prog 10 #[.agg #[.string m', .string t', .slice fa' fs'.length fc', .slice ba' bn' bc']] y (LitQP m' t' fs' y)) := Lib.hid (fun y hy => lightQP_any m' t' fa' fc' fs' ba' bn' bc' y (HI.out y hy).2 hw' hbn' hm' ht')
  have KP : Hid (∀ v0 : World, Below v.heap.size v v0 → t.size ≤ 300 ∧ LightF fs 15 → ∀ y : Kin v0, Calls Tryz.prog 18 #[.agg #[.string m, .string t, .slice fa fs.length fc, .slice ba bn bc]] y.wd fun e w'' => e = .returned (.agg (bytesV (keyR fs t))) ∧ ∃ z : Kin v0, w'' = z.wd) := Lib.hid (fun v0 h0 hl y => Kin.calls (key_pol y.wd m t fs fa fc ba bn bc (HI.out y.wd (h0.trans (y.below.mono h0.size))).1 (light_few hl.2) (by omega)))
  have KR : Hid (∀ v0 : World, Below v.heap.size v v0 → t.size ≤ 300 ∧ LightF fs 15 → ∀ y : Kin v0, Calls Tryz.prog 19 #[.agg #[.string m, .string t, .slice fa fs.length fc, .slice ba bn bc]] y.wd fun e w'' => e = .returned (.agg (bytesV (keyR fs t))) ∧ ∃ z : Kin v0, w'' = z.wd) := Lib.hid (fun v0 h0 hl y => Kin.calls (key_ref y.wd m t fs fa fc ba bn bc (HI.out y.wd (h0.trans (y.below.mono h0.size))).1 (light_few hl.2) (by omega)))
  have KP' : Hid (∀ v0 : World, Below v.heap.size v v0 → t'.size ≤ 300 ∧ LightF fs' 15 → ∀ y : Kin v0, Calls Tryz.prog 18 #[.agg #[.string m', .string t', .slice fa' fs'.length fc', .slice ba' bn' bc']] y.wd fun e w'' => e = .returned (.agg (bytesV (keyR fs' t'))) ∧ ∃ z : Kin v0, w'' = z.wd) := Lib.hid (fun v0 h0 hl y => Kin.calls (key_pol y.wd m' t' fs' fa' fc' ba' bn' bc' (HI.out y.wd (h0.trans (y.below.mono h0.size))).2 (light_few hl.2) (by omega)))
  have KR' : Hid (∀ v0 : World, Below v.heap.size v v0 → t'.size ≤ 300 ∧ LightF fs' 15 → ∀ y : Kin v0, Calls Tryz.prog 19 #[.agg #[.string m', .string t', .slice fa' fs'.length fc', .slice ba' bn' bc']] y.wd fun e w'' => e = .returned (.agg (bytesV (keyR fs' t'))) ∧ ∃ z : Kin v0, w'' = z.wd) := Lib.hid (fun v0 h0 hl y => Kin.calls (key_ref y.wd m' t' fs' fa' fc' ba' bn' bc' (HI.out y.wd (h0.trans (y.below.mono h0.size))).2 (light_few hl.2) (by omega)))
  have KE0 : Hid (∀ x : World, (Op.equalIn 10000 41 (.agg (bytesV (keyR fs t))) (.agg (bytesV (keyR fs t)))).run Tryz.prog x = .ok true x) := Lib.hid (fun x => key_self _ (keyR_len _ _) x)
  have KE1 : Hid (∀ x : World, (Op.equalIn 10000 41 (.agg (bytesV (keyR fs t))) (.agg (bytesV (keyR fs' t')))).run Tryz.prog x = .ok (decide (keyR fs t = keyR fs' t')) x) := Lib.hid (fun x => key_equal _ _ (keyR_len _ _) (keyR_len _ _) x)
  obtain ⟨r, hr⟩ : ∃ r, decide (keyR fs t = keyR fs' t') = r := ⟨_, rfl⟩
  rw [hr] at KE1
  generalize bytesV (keyR fs t) = BQ at KP KR KE0 KE1
  generalize bytesV (keyR fs' t') = BP at KP' KR' KE1
  have HKN := Lib.hid (fun x => pknown_any x)
  have HV := Lib.hid hv
  have HB := Lib.hid hb
  obtain ⟨n, hn⟩ : ∃ n, fs.length = n := ⟨_, rfl⟩
  obtain ⟨n', hn'⟩ : ∃ n, fs'.length = n := ⟨_, rfl⟩
  rw [hn] at HC CL KP KR HV ⊢
  rw [hn'] at HC CL' KP' KR' HV ⊢
  clear hin hw hm ht hbn hin' hw' hm' ht' hbn' hv hb h2 HI hr hn hn'
  unfold RulePost at HKN ⊢
  go_enter Tryz.func4, Tryz.ntmps4
  go_wp2_with fail
  change Calls _ _ _ ((w.alloc (.cells #[.string m, .string t, .slice fa n fc, .slice ba bn bc] 25)).alloc (.cells #[.string m', .string t', .slice fa' n' fc', .slice ba' bn' bc'] 25)) _
  rw [HV.out]
  refine (HKN.out _).mono ?_
  rintro e w1 ⟨rfl, hb1⟩
  have HB1 := Lib.hid hb1
  obtain ⟨⟨q0, q1, q2, q3⟩, _⟩ := HC.out w1 hb1
  have CL1 := Lib.hid (CL.out w1 hb1)
  clear hb1 HKN CL
  unfold LitQP at CL1
  go_wp2_with fail
  refine CL1.out.mono ?_
  rintro e w2 ⟨b, rfl, hb2, hl⟩
  have hb2' := HB1.out.trans (hb2.mono HB1.out.size)
  have HB2 := Lib.hid hb2'
  have HL := Lib.hid hl
  have CL2 := Lib.hid (CL'.out w2 hb2')
  unfold LitQP at CL2
  clear q0 q1 q2 q3 CL1 CL'
  obtain ⟨_, q0, q1, q2, q3⟩ := HC.out w2 hb2'
  clear hb2 hb2' hl
  cases b with
  | false =>
    go_wp2
    go_ret
    exact ⟨rfl, HB.out.trans (HB2.out.mono HB.out.size)⟩
  | true =>
    have HLT := Lib.hid (HL.out rfl)
    clear HL
    go_wp2_with fail
    refine CL2.out.mono ?_
    rintro e v0 ⟨b, rfl, hb3, hl⟩
    have hb3' := HB2.out.trans (hb3.mono HB2.out.size)
    have HB3 := Lib.hid hb3'
    have HL2 := Lib.hid hl
    have HCC := Lib.hid (HC.out v0 hb3')
    clear q0 q1 q2 q3 CL2 hb3 hb3' hl
    cases b with
    | false =>
      go_wp2
      go_ret
      exact ⟨rfl, HB.out.trans (HB3.out.mono HB.out.size)⟩
    | true =>
      have c1 := Lib.hid (KP.out v0 HB3.out (HLT.out))
      have c2 := Lib.hid (KR.out v0 HB3.out (HLT.out))
      have c3 := Lib.hid (KP'.out v0 HB3.out (HL2.out rfl))
      have c4 := Lib.hid (KR'.out v0 HB3.out (HL2.out rfl))
      have e0 : ∀ y : Kin v0, (Op.equalIn 10000 41 (.agg BQ) (.agg BQ)).run Tryz.prog y.wd = .ok true y.wd := fun y => KE0.out y.wd
      have e1 : ∀ y : Kin v0, (Op.equalIn 10000 41 (.agg BQ) (.agg BP)).run Tryz.prog y.wd = .ok r y.wd := fun y => KE1.out y.wd
      have er : (r == r) = true := beq_self_eq_true _
      have k0 : ∀ y : Kin v0, y.wd.cell? ⟨w.heap.size, 0, none⟩ = some (.string m) := fun y => y.cell HCC.out.1.1
      have k1 : ∀ y : Kin v0, y.wd.cell? ⟨w.heap.size, 1, none⟩ = some (.string t) := fun y => y.cell HCC.out.1.2.1
      have k2 : ∀ y : Kin v0, y.wd.cell? ⟨w.heap.size, 2, none⟩ = some (.slice fa n fc) := fun y => y.cell HCC.out.1.2.2.1
      have k3 : ∀ y : Kin v0, y.wd.cell? ⟨w.heap.size, 3, none⟩ = some (.slice ba bn bc) := fun y => y.cell HCC.out.1.2.2.2
      have l0 : ∀ y : Kin v0, y.wd.cell? ⟨w.heap.size + 1, 0, none⟩ = some (.string m') := fun y => y.cell HCC.out.2.1
      have l1 : ∀ y : Kin v0, y.wd.cell? ⟨w.heap.size + 1, 1, none⟩ = some (.string t') := fun y => y.cell HCC.out.2.2.1
      have l2 : ∀ y : Kin v0, y.wd.cell? ⟨w.heap.size + 1, 2, none⟩ = some (.slice fa' n' fc') := fun y => y.cell HCC.out.2.2.2.1
      have l3 : ∀ y : Kin v0, y.wd.cell? ⟨w.heap.size + 1, 3, none⟩ = some (.slice ba' bn' bc') := fun y => y.cell HCC.out.2.2.2.2
      clear HLT HL2 KP KR KP' KR' KE0 KE1 HCC
      go_wp2_with fail
      refine wp_region_kin (by kernel_rfl) (by kernel_rfl) ?_
      repeat (go_big_quiet_step (first | (go_at_call 18; first | with_reducible exact c1.out _ | with_reducible exact c3.out _) | (go_at_call 19; first | with_reducible exact c2.out _ | with_reducible exact c4.out _)))
      refine wpQuiet_nil ?_
      intro _ hx
      obtain ⟨y, rfl⟩ := hx
      have HY := Lib.hid (HB.out.trans ((HB3.out.trans (y.below.mono HB3.out.size)).mono HB.out.size))
      clear k0 k1 k2 k3 l0 l1 l2 l3
      go_wp2
      go_ret
      exact ⟨rfl, HY.out⟩
end Go.Proofs.YtgfinhkplijhbaaGreatDoor
namespace Go.Proofs.YtgfinhkplijhbaaGreatDoor
open Go.RowKit HeadMath HeadS CtrlS VaryS

theorem wpAnyH_twoTo {P : Program} {md : Region.Mode} {ops : Array Oper} {Q : Exit → Act → World → Prop} {S : World → Prop} {i j : Nat} {oi oj : Oper} {di dj : Option Tmp} {fuel : Nat} {listed : Array Bool} {a : Act} {w : World} (hr : Region.ready md ops listed = [i, j]) (hi : ops[i]? = some oi) (hj : ops[j]? = some oj) (hdi : oi.dst = di) (hdj : oj.dst = dj)
    (hwi : Region.wanted oi (yielded ops a.tmps) = true) (hwj : Region.wanted oj (yielded ops a.tmps) = true) (Gi Gj : Value → World → Prop)
    (hci : ∀ K : Act → World → Prop, (∀ v w', Gi v w' → K (a.put oi.dst v) w') → Oper.wp P oi a w K Q)
    (hcj : ∀ K : Act → World → Prop, (∀ v w', Gj v w' → K (a.put oj.dst v) w') → Oper.wp P oj a w K Q)
    (h1 : ∀ v w', Gi v w' → S w' ∧ wpAnyH P md ops Q S fuel (listed.setIfInBounds i true) (a.put di v) w')
    (h2 : ∀ v w', Gj v w' → S w' ∧ wpAnyH P md ops Q S fuel (listed.setIfInBounds j true) (a.put dj v) w') : wpAnyH P md ops Q S (fuel + 1) listed a w := by
  subst hdi
  subst hdj
  refine wpAnyH_ready hr (by simp) (AllReadyH.cons hi (fun K hK => ?_) (AllReadyH.cons hj (fun K hK => ?_) AllReadyH.nil))
  · rw [if_pos hwi]
    exact hci K (fun v w' hv => hK.out _ _ (h1 v w' hv).1 (fun _ => (h1 v w' hv).2))
  · rw [if_pos hwj]
    exact hcj K (fun v w' hv => hK.out _ _ (h2 v w' hv).1 (fun _ => (h2 v w' hv).2))
theorem fields_tail {B : Nat} {w : World} {b off : Nat} {r : ByteArray × ByteArray} {l : Fls} (h : FieldsIn B w (some ⟨b, off, none⟩) (r :: l)) : FieldsIn B w (some ⟨b, off + 2, none⟩) l := by
  intro k hk
  obtain ⟨b', off', e, hB, h0, h1⟩ := h (k + 1) (by simpa using hk)
  injection e with e
  injection e with e1 e2
  subst e1; subst e2
  refine ⟨b, off + 2, rfl, hB, ?_⟩
  rw [show off + (k + 1) * 2 = off + 2 + k * 2 by omega] at h0 h1
  exact ⟨h0, h1⟩
theorem fields_cells {B : Nat} {w : World} {b : Nat} : ∀ {l : Fls} {off : Nat}, FieldsIn B w (some ⟨b, off, none⟩) l → ∀ j u, (fieldCells l)[j]? = some u → w.cell? ⟨b, off + j, none⟩ = some u
  | [], _, _, j, u, hu => by simp [fieldCells] at hu
  | r :: l, off, h, j, u, hu => by
    obtain ⟨b', off', e, hB, h0, h1⟩ := h 0 (by simp)
    injection e with e
    injection e with e1 e2
    subst e1; subst e2
    simp only [Nat.zero_mul, Nat.add_zero, List.getElem_cons_zero] at h0 h1
    match j, hu with
    | 0, hu => injection hu with hu; subst hu; exact h0
    | 1, hu => injection hu with hu; subst hu; exact h1
    | j + 2, hu =>
      have := fields_cells (fields_tail h) j u hu
      rwa [show off + (j + 2) = off + 2 + j by omega]
theorem fieldCells_len2 (l : Fls) : (fieldCells l).length = l.length * 2 := by
  induction l with
  | nil => rfl
  | cons r l ih => unfold fieldCells at ih ⊢; simp only [List.flatMap_cons, List.length_append, List.length_cons, List.length_nil, ih]; omega
theorem add_plainP (b off j : Nat) : (⟨b, off, none⟩ : Addr).add j = ⟨b, off + j, none⟩ := by unfold Addr.add; split <;> simp_all
set_option maxRecDepth 100000 in
/-- append(v, l...), v a row of the call's own. -/
theorem wp_app_fields {o : Oper} {a : Act} {x : World} {K : Act → World → Prop} {Q : Exit → Act → World → Prop} (s u : Operand)
    (ho : o.op = .call { callee := .builtin .append, args := #[s, u], argTypes := #[22, 22] }) (B : Nat) (v : Value) (n : Nat) (xs : List Value) (hs : a.eval s = v) (hown : x.ownsRow B 48 2 v n xs) (hB : B ≤ x.heap.size)
    (ad : Option Addr) (c m : Nat) (l : Fls) (hu : a.eval u = .slice ad m c) (hm : m = l.length) (hin : FieldsIn x.heap.size x ad l) (hnil : ad = none → c = 0) (hlen : n + l.length ≤ 1000)
    (h : ∀ v' w', w'.ownsRow B 48 2 v' (n + m) (xs ++ fieldCells l) → x.grownBy w' v.ownBlock → K (a.put o.dst v') w') : Oper.wp Tryz.prog o a x K Q := by
  subst hm
  obtain ⟨i0, hi, hz0, hz1, hz2⟩ := infoField
  cases ad with
  | none =>
    obtain rfl := hnil rfl
    have hl : l = [] := by
      cases l with
      | nil => rfl
      | cons y l => obtain ⟨_, _, e, _⟩ := hin 0 (by simp); cases e
    subst hl
    have hrun := run_append_owned_none (P := Tryz.prog) (w := x) B 22 o.type 48 i0 2 Tryz.underlying22 hi v n xs hown
    have hx' : a.eval u = .slice none 0 0 := hu
    unfold Oper.wp
    simp [execOp, ho, resolve, invoke, builtin, hs, hx', hrun, Result.andThen]
    exact h _ x (by simpa [fieldCells] using hown) ⟨rfl, rfl, rfl, Nat.le_refl _, fun _ _ _ => rfl⟩
  | some ad =>
    refine wp_append_own x s u 22 ho B 48 i0 _ 2 32 Tryz.underlying22 hi hz0 hz1 hz2 rfl (by decide) v n xs hs hown ad l.length c (fieldCells l) hu (fieldCells_len2 l) ?_ (VaryS.cells_one l) (by unfold maxLen; omega) (by omega) hB fun v' w' h1 h2 _ => h v' w' h1 h2
    intro j y hy
    cases l with
    | nil => simp [fieldCells] at hy
    | cons f l =>
      obtain ⟨b, off, e, _⟩ := hin 0 (by simp)
      injection e with e
      subst e
      rw [add_plainP]
      exact fields_cells hin j y hy
theorem own_fieldsP {x : World} {B : Nat} {v : Value} {l : Fls} {n : Nat} (hn : n = l.length) (h0 : 0 < n) (h : x.ownsRow B 48 2 v n (fieldCells l)) : ∃ g cap, v = .slice (some ⟨g, 0, none⟩) n cap ∧ B ≤ g ∧ g < x.heap.size ∧ FieldsIn x.heap.size x (some ⟨g, 0, none⟩) l := by
  subst hn
  obtain ⟨g, cap, hv, h1, h2⟩ := World.ownsRow.form h h0
  refine ⟨g, cap, hv, h1, h2, fun j hj => ?_⟩
  have ha := fieldCells_at l j hj
  have c1 := h.cells (g := g) (by rw [hv]; rfl) _ _ ha.1
  have c2 := h.cells (g := g) (by rw [hv]; rfl) _ _ ha.2
  rw [add_plainP] at c1 c2
  exact ⟨g, 0, rfl, h2, c1, c2⟩
theorem one_own (x : World) (B : Nat) (hB : B ≤ x.heap.size) (a b : ByteArray) : (x.alloc (.cells #[.string a, .string b] 48)).ownsRow B 48 2 (.slice (some ⟨x.heap.size, 0, none⟩) 1 1) 1 (fieldCells [(a, b)]) :=
  ⟨rfl, .inr ⟨x.heap.size, 1, #[.string a, .string b], rfl, hB, heap_alloc_new x _, Nat.le_refl _, by unfold maxLen; decide, rfl, rfl⟩⟩
theorem fields_set {x : World} {p g k : Nat} {l : Fls} {v : Value} (h : FieldsIn x.heap.size x (some ⟨g, 0, none⟩) l) (hgp : g ≠ p) : FieldsIn (x.setCell ⟨p, k, none⟩ v).heap.size (x.setCell ⟨p, k, none⟩ v) (some ⟨g, 0, none⟩) l := by
  intro j hj
  obtain ⟨b, off, e, hB, h0, h1⟩ := h j hj
  injection e with e
  injection e with e1 e2
  subst e1; subst e2
  have far : ∀ k', (x.setCell ⟨p, k, none⟩ v).cell? ⟨g, k', none⟩ = x.cell? ⟨g, k', none⟩ := fun k' => World.cell?_setCell_far _ _ _ _ (fun h => hgp h.symm)
  have hsz : (x.setCell ⟨p, k, none⟩ v).heap.size = x.heap.size := by simp
  exact ⟨g, 0, rfl, by rw [hsz]; exact hB, by rw [far]; exact h0, by rw [far]; exact h1⟩
theorem word_cell (x : World) (K : Nat) (hK : K < 4) : (x.alloc (.cells #[.string ⟨#[67, 97, 99, 104, 101, 45, 67, 111, 110, 116, 114, 111, 108]⟩, .string ⟨#[110, 111, 45, 115, 116, 111, 114, 101]⟩, .string ⟨#[67, 97, 99, 104, 101, 45, 67, 111, 110, 116, 114, 111, 108]⟩, .string ⟨#[112, 114, 105, 118, 97, 116, 101]⟩, .string ⟨#[86, 97, 114, 121]⟩, .string ⟨#[42]⟩, .string ⟨#[99, 97, 99, 104, 101, 45, 99, 111, 110, 116, 114, 111, 108]⟩, .string ⟨#[109, 97, 120, 45, 97, 103, 101, 61, 57, 44, 32, 78, 111, 45, 83, 116, 111, 114, 101]⟩] 48)).cell? ⟨x.heap.size, K * 2, none⟩ = some (.string (wordF K).1) ∧ (x.alloc (.cells #[.string ⟨#[67, 97, 99, 104, 101, 45, 67, 111, 110, 116, 114, 111, 108]⟩, .string ⟨#[110, 111, 45, 115, 116, 111, 114, 101]⟩, .string ⟨#[67, 97, 99, 104, 101, 45, 67, 111, 110, 116, 114, 111, 108]⟩, .string ⟨#[112, 114, 105, 118, 97, 116, 101]⟩, .string ⟨#[86, 97, 114, 121]⟩, .string ⟨#[42]⟩, .string ⟨#[99, 97, 99, 104, 101, 45, 99, 111, 110, 116, 114, 111, 108]⟩, .string ⟨#[109, 97, 120, 45, 97, 103, 101, 61, 57, 44, 32, 78, 111, 45, 83, 116, 111, 114, 101]⟩] 48)).cell? ⟨x.heap.size, K * 2 + 1, none⟩ = some (.string (wordF K).2) := by
  rw [Lib.cell_of_heap (heap_alloc_new x _), Lib.cell_of_heap (heap_alloc_new x _)]
  match K, hK with
  | 0, _ | 1, _ | 2, _ | 3, _ => exact ⟨rfl, rfl⟩
theorem word_small (K : Nat) : (wordF K).1.size ≤ 1000000 ∧ (wordF K).2.size ≤ 1000000 := by
  match K with
  | 0 | 1 | 2 => exact ⟨by decide, by decide⟩
  | n + 3 => exact (by decide : ccL.size ≤ 1000000 ∧ vMaxAge9NoStore.size ≤ 1000000)
theorem few_of {l X : Fls} {f : ByteArray × ByteArray} (h : LightF l 10) (hf : f.1.size ≤ 1000000 ∧ f.2.size ≤ 1000000) (hX : X = l ++ [f] ∨ X = f :: l) : FewF X := by
  have hl : ∀ g ∈ l, g.1.size ≤ 1000000 ∧ g.2.size ≤ 1000000 := by
    intro g hg
    obtain ⟨j, hj, rfl⟩ := List.getElem_of_mem hg
    have := h.2 j hj
    omega
  rcases hX with rfl | rfl
  · refine few_mem (by have := h.1; simp; omega) (fun g hg => ?_)
    rcases List.mem_append.1 hg with h1 | h1
    · exact hl g h1
    · obtain rfl : g = f := by simpa using h1
      exact hf
  · refine few_mem (by have := h.1; simp; omega) (fun g hg => ?_)
    rcases List.mem_cons.1 hg with rfl | h1
    · exact hf
    · exact hl g h1
/-- What stands behind the fields: a response with them isn't kept, nor one to a request with them. -/
structure Words (x : World) (g m cap K : Nat) (X : Fls) : Prop where
  fields : FieldsIn x.heap.size x (some ⟨g, 0, none⟩) X
  lt : g < x.heap.size
  len : X.length = m
  few : FewF X
  mem : wordF K ∈ X
theorem Words.below {x y : World} {g m cap K : Nat} {X : Fls} (h : Words x g m cap K X) (hb : Below x.heap.size x y) : Words y g m cap K X := ⟨kin_in (w := x) ⟨y, hb⟩ h.fields, Nat.lt_of_lt_of_le h.lt hb.size, h.len, h.few, h.mem⟩
theorem Words.resp {x : World} {g m cap K : Nat} {X : Fls} (h : Words x g m cap K X) (hK : K < 4) : Calls Tryz.prog 14 #[.agg #[.string ⟨#[71, 69, 84]⟩, .string ⟨#[]⟩, .slice none 0 0, .slice none 0 0], .agg #[.int .i64 200, .string ⟨#[]⟩, .slice (some ⟨g, 0, none⟩) m cap, .slice none 0 0]] x (RulePost false x) := by
  have := may_at getB ⟨#[]⟩ [] none 0 none 0 0 200 ⟨#[]⟩ X (some ⟨g, 0, none⟩) cap none 0 0 x (nil_fields x) (few_lit rfl) h.fields h.few (may_words K hK h.mem) x (Below.refl _ _)
  rw [h.len] at this
  exact this
theorem Words.asked {x : World} {g m cap K : Nat} {X : Fls} (h : Words x g m cap K X) (hK : K = 0 ∨ K = 3) : Calls Tryz.prog 14 #[.agg #[.string ⟨#[71, 69, 84]⟩, .string ⟨#[]⟩, .slice (some ⟨g, 0, none⟩) m cap, .slice none 0 0], .agg #[.int .i64 200, .string ⟨#[]⟩, .slice none 0 0, .slice none 0 0]] x (RulePost false x) := by
  have := may_at getB ⟨#[]⟩ X (some ⟨g, 0, none⟩) cap none 0 0 200 ⟨#[]⟩ [] none 0 none 0 0 x h.fields h.few (nil_fields x) (few_lit rfl) (may_asked K hK h.mem) x (Below.refl _ _)
  rw [h.len] at this
  exact this
theorem Words.set {x : World} {g m cap K p : Nat} {X : Fls} {v : Value} (h : Words x g m cap K X) (hp : g ≠ p) : Words (x.setCell ⟨p, 2, none⟩ v) g m cap K X := ⟨fields_set h.fields hp, Nat.lt_of_lt_of_le h.lt (Nat.le_of_eq (show x.heap.size = (x.setCell ⟨p, 2, none⟩ v).heap.size by simp)), h.len, h.few, h.mem⟩
theorem req_set {x : World} {p : Nat} {a b c d v : Value} (h : x.heap[p]? = some (.cells #[a, b, c, d] 25 (0, 0))) : (x.setCell ⟨p, 2, none⟩ v).heap[p]? = some (.cells #[a, b, v, d] 25 (0, 0)) :=
  heap_setCells (g := p) (t := 25) [v] [a, b] [c] [d] x h rfl
set_option maxRecDepth 100000 in
set_option maxHeartbeats 16000000 in
theorem words_law (l : Fls) (a : Option Addr) (c : Nat) (t : Nat) (ah : Bool) (w : World) (hin : FieldsIn w.heap.size w a l) (hw : WideF l) (hnil : a = none → c = 0) (ht : t < 256) :
    Calls Tryz.prog 8 #[.slice a l.length c, .int .u8 t, .bool ah] w (RulePost true w) := by
  obtain ⟨K, hK⟩ : ∃ K, t % 4 = K := ⟨_, rfl⟩
  have hK4 : K < 4 := by omega
  have hm : (t : Int) % 4 = (K : Int) := by omega
  have hm2 : (t : Int).tmod 4 = (K : Int) := by rw [Int.tmod_eq_emod_of_nonneg (by omega)]; omega
  have hcw := fun x => word_cell x K hK4
  have HSM := Lib.hid (word_small K)
  have HFX : Hid (∃ f, f = wordF K) := Lib.hid ⟨_, rfl⟩
  obtain ⟨⟨N, T⟩, hf⟩ := HFX.out
  rw [← hf] at hcw HSM
  have hc1 := fun x => (hcw x).1
  have hc2 := fun x => (hcw x).2
  have HF := Lib.hid hf
  have HK4 := Lib.hid hK4
  have HIN := Lib.hid hin
  have HNIL := Lib.hid hnil
  have HKN := Lib.hid (fun x => pknown_any x)
  have CL : Hid (∀ y, Below w.heap.size w y → Calls Tryz.prog 22 #[.slice a l.length c, .int .i64 10] y fun e w' => ∃ b : Bool, e = .returned (.bool b) ∧ y = w' ∧ (b = true → LightF l 10)) := Lib.hid (fun y hy => lightW_any l a c 10 y (kin_in (w := w) ⟨y, hy⟩ hin) hw (by omega))
  obtain ⟨n, hn⟩ : ∃ n, l.length = n := ⟨_, rfl⟩
  have HN := Lib.hid hn
  have kl : (K : Int) < 4 := by omega
  rw [hn] at CL ⊢
  clear hK hcw HFX hf hin hnil hn hw
  unfold RulePost at HKN ⊢
  go_enter Tryz.func8, Tryz.ntmps8
  go_wp2_with fail
  refine (HKN.out _).mono ?_
  rintro e w1 ⟨rfl, hb⟩
  have HB1 := Lib.hid hb
  have CL1 := Lib.hid (CL.out w1 hb)
  clear hb HKN CL
  go_wp2_with fail
  refine CL1.out.mono ?_
  rintro e w2 ⟨b, rfl, rfl, hl⟩
  clear CL1
  cases b with
  | false =>
    clear hl
    go_wp2
    go_ret
    exact ⟨rfl, HB1.out⟩
  | true =>
    have HL := Lib.hid (hl rfl)
    clear hl
    go_upto_region 6 with (fail)
    obtain ⟨x0, hx0⟩ : ∃ x, (w1.alloc (.cells #[.string ⟨#[67, 97, 99, 104, 101, 45, 67, 111, 110, 116, 114, 111, 108]⟩, .string ⟨#[110, 111, 45, 115, 116, 111, 114, 101]⟩, .string ⟨#[67, 97, 99, 104, 101, 45, 67, 111, 110, 116, 114, 111, 108]⟩, .string ⟨#[112, 114, 105, 118, 97, 116, 101]⟩, .string ⟨#[86, 97, 114, 121]⟩, .string ⟨#[42]⟩, .string ⟨#[99, 97, 99, 104, 101, 45, 99, 111, 110, 116, 114, 111, 108]⟩, .string ⟨#[109, 97, 120, 45, 97, 103, 101, 61, 57, 44, 32, 78, 111, 45, 83, 116, 111, 114, 101]⟩] 48)).alloc (.cells #[.string N, .string T] 48) = x := ⟨_, rfl⟩
    change Code.wp _ _ _ _ ((w1.alloc (.cells #[.string ⟨#[67, 97, 99, 104, 101, 45, 67, 111, 110, 116, 114, 111, 108]⟩, .string ⟨#[110, 111, 45, 115, 116, 111, 114, 101]⟩, .string ⟨#[67, 97, 99, 104, 101, 45, 67, 111, 110, 116, 114, 111, 108]⟩, .string ⟨#[112, 114, 105, 118, 97, 116, 101]⟩, .string ⟨#[86, 97, 114, 121]⟩, .string ⟨#[42]⟩, .string ⟨#[99, 97, 99, 104, 101, 45, 99, 111, 110, 116, 114, 111, 108]⟩, .string ⟨#[109, 97, 120, 45, 97, 103, 101, 61, 57, 44, 32, 78, 111, 45, 83, 116, 111, 114, 101]⟩] 48)).alloc (.cells #[.string N, .string T] 48))
    rw [hx0]
    have hb0 : Below w.heap.size w x0 := by rw [← hx0]; exact HB1.out.trans ((below_al (below_al (Below.refl _ _) _) _).mono HB1.out.size)
    have hp := new1 w1 (.cells #[.string ⟨#[67, 97, 99, 104, 101, 45, 67, 111, 110, 116, 114, 111, 108]⟩, .string ⟨#[110, 111, 45, 115, 116, 111, 114, 101]⟩, .string ⟨#[67, 97, 99, 104, 101, 45, 67, 111, 110, 116, 114, 111, 108]⟩, .string ⟨#[112, 114, 105, 118, 97, 116, 101]⟩, .string ⟨#[86, 97, 114, 121]⟩, .string ⟨#[42]⟩, .string ⟨#[99, 97, 99, 104, 101, 45, 99, 111, 110, 116, 114, 111, 108]⟩, .string ⟨#[109, 97, 120, 45, 97, 103, 101, 61, 57, 44, 32, 78, 111, 45, 83, 116, 111, 114, 101]⟩] 48) (.cells #[.string N, .string T] 48)
    rw [hx0] at hp
    have HB0 := Lib.hid hb0
    have HP := Lib.hid hp
    have HI0 : Hid (∀ y, Below x0.heap.size x0 y → FieldsIn y.heap.size y a l) := Lib.hid (fun y hy => kin_in (w := w) ⟨y, HB0.out.trans (hy.mono HB0.out.size)⟩ HIN.out)
    have HFC : Hid (∀ y, Below x0.heap.size x0 y → y.cell? ⟨w1.heap.size + 1, 0, none⟩ = some (.string N) ∧ y.cell? ⟨w1.heap.size + 1, 1, none⟩ = some (.string T)) := Lib.hid (fun y hy => by
      have h := (hy.block _ (Array.getElem?_eq_some_iff.1 HP.out).1).trans HP.out
      exact ⟨by rw [Lib.cell_of_heap h]; rfl, by rw [Lib.cell_of_heap h]; rfl⟩)
    have HL10 : Hid (n ≤ 10) := Lib.hid (by rw [← HN.out]; exact HL.out.1)
    have HW1 : Hid (∀ (y : World) (g cap : Nat), FieldsIn y.heap.size y (some ⟨g, 0, none⟩) (l ++ [(N, T)]) → g < y.heap.size → Words y g (n + 1) cap K (l ++ [(N, T)])) := Lib.hid (fun y g cap h hg => ⟨h, hg, by simp [HN.out], few_of HL.out HSM.out (.inl rfl), List.mem_append_right _ (by rw [← HF.out]; exact List.mem_singleton.2 rfl)⟩)
    have HW2 : Hid (∀ (y : World) (g cap : Nat), FieldsIn y.heap.size y (some ⟨g, 0, none⟩) ((N, T) :: l) → g < y.heap.size → Words y g (n + 1) cap K ((N, T) :: l)) := Lib.hid (fun y g cap h hg => ⟨h, hg, by simp [HN.out], few_of HL.out HSM.out (.inr rfl), by rw [← HF.out]; exact List.mem_cons_self⟩)
    clear hx0 hb0 hp hc1 hc2
    go_cut [8] (fun s8 wx => ∃ g cap : Nat, s8 = .slice (some ⟨g, 0, none⟩) (n + 1) cap ∧ Hid (Words wx g (n + 1) cap K (l ++ [(N, T)])) ∧ Hid (Below x0.heap.size x0 wx))
    case first =>
      have hS0 := HFC.out x0.drew ((Below.refl _ _).drew)
      refine wp_region_held_drew (S := fun x => x.cell? ⟨w1.heap.size + 1, 0, none⟩ = some (.string N) ∧ x.cell? ⟨w1.heap.size + 1, 1, none⟩ = some (.string T)) (by kernel_rfl) hS0 (fun hH => ?_)
      refine wpAnyH_takeTo (i := 0) (d := some 24) (v := .slice a n c) rfl rfl (by kernel_rfl) (by kernel_rfl) (by kernel_rfl) (fun _ _ _ h => h) (Or.inl ⟨by rfl, fun x hx => ?_⟩) hH ?_
      · go_simp
      simp only [Act.put, List.setIfInBounds_toArray, List.set_cons_zero, List.set_cons_succ]
      refine wpAnyH_takeTo (i := 2) (d := some 26) (v := .agg #[.string N, .string T]) rfl rfl (by kernel_rfl) (by kernel_rfl) (by kernel_rfl) (fun _ _ _ h => h) (Or.inl ⟨by rfl, fun x hx => ?_⟩) hH ?_
      · obtain ⟨f0, f1⟩ := hx
        go_simp
      simp only [Act.put, List.setIfInBounds_toArray, List.set_cons_zero, List.set_cons_succ]
      have hbd : Below x0.heap.size x0 x0.drew := (Below.refl _ _).drew
      have HBD := Lib.hid hbd
      clear hbd hS0
      refine wpAnyH_twoTo (i := 1) (j := 3) (di := some 25) (dj := some 27) (by kernel_rfl) rfl rfl rfl rfl (by rfl) (by rfl)
        (fun u x => x.ownsRow x0.heap.size 48 2 u (0 + n) ([] ++ fieldCells l) ∧ x0.drew.grownBy x none) (fun u x => u = .slice (some ⟨x0.heap.size, 0, none⟩) 1 1 ∧ x = x0.drew.alloc (.cells #[.string N, .string T] 48)) (fun K' hK' => ?_) (fun K' hK' => ?_) ?_ ?_
      · exact wp_app_fields _ _ rfl x0.heap.size (.slice none 0 0) 0 [] rfl (World.ownsRow_nil _ _ _ _) HBD.out.size a c n l rfl HN.out.symm (HI0.out _ HBD.out) HNIL.out (by rw [HN.out]; have := HL10.out; omega) (fun v' w' h1 h2 => hK' v' w' ⟨h1, h2⟩)
      · go_simp
        exact hK' _ _ ⟨rfl, rfl⟩
      · intro v1 x1 ⟨ho1, hg1⟩
        have hb1 : Below x0.heap.size x0 x1 := HBD.out.grown hg1 HBD.out.size (fun _ e => by cases e)
        refine ⟨HFC.out _ hb1, ?_⟩
        have HO1 := Lib.hid ho1
        have HB1' := Lib.hid hb1
        clear hH ho1 hg1 hb1
        simp only [Act.put, List.setIfInBounds_toArray, List.set_cons_zero, List.set_cons_succ]
        refine wpAnyH_stepTo (i := 3) (d := some 27) (by kernel_rfl) rfl rfl (by rfl) (fun u x => u = .slice (some ⟨x1.heap.size, 0, none⟩) 1 1 ∧ x = x1.alloc (.cells #[.string N, .string T] 48)) (fun K' hK' => ?_) ?_
        · go_simp
          exact hK' _ _ ⟨rfl, rfl⟩
        rintro _ x2 ⟨rfl, hx2⟩
        have hb2 : Below x0.heap.size x0 x2 := by rw [hx2]; exact HB1'.out.alloc HB1'.out.size _
        have ho2 : x2.ownsRow x0.heap.size 48 2 v1 (0 + n) ([] ++ fieldCells l) := by rw [hx2]; exact World.ownsRow.alloc HO1.out _
        have hf2 : FieldsIn x2.heap.size x2 (some ⟨x1.heap.size, 0, none⟩) [(N, T)] := one_at (f := (N, T)) (by rw [hx2]; exact heap_alloc_new x1 _)
        refine ⟨HFC.out _ hb2, ?_⟩
        have HO2 := Lib.hid ho2
        have HF2 := Lib.hid hf2
        have HB2 := Lib.hid hb2
        clear ho2 hf2 hb2 hx2
        simp only [Act.put, List.setIfInBounds_toArray, List.set_cons_zero, List.set_cons_succ]
        refine wpAnyH_stepTo (i := 4) (d := some 28) (by kernel_rfl) rfl rfl (by rfl) (fun u x => x.ownsRow x0.heap.size 48 2 u (0 + n + 1) ([] ++ fieldCells l ++ fieldCells [(N, T)]) ∧ x2.grownBy x v1.ownBlock) (fun K' hK' => ?_) ?_
        · exact wp_app_fields _ _ rfl x0.heap.size v1 (0 + n) ([] ++ fieldCells l) rfl HO2.out HB2.out.size _ 1 1 [(N, T)] rfl rfl HF2.out (fun e => by cases e) (by have := HL10.out; simp; omega) (fun v' w' h1 h2 => hK' v' w' ⟨h1, h2⟩)
        intro v3 x3 ⟨ho3, hg3⟩
        have hb3 : Below x0.heap.size x0 x3 := HB2.out.grown hg3 HB2.out.size (fun g e => (World.ownsRow.lt HO2.out g e).1)
        refine ⟨HFC.out _ hb3, ?_⟩
        have hown3 : x3.ownsRow x0.heap.size 48 2 v3 (n + 1) (fieldCells (l ++ [(N, T)])) := by
          have h := ho3
          rw [Nat.zero_add, List.nil_append] at h
          have e : fieldCells l ++ fieldCells [(N, T)] = fieldCells (l ++ [(N, T)]) := by simp [fieldCells]
          rw [e] at h
          exact h
        obtain ⟨g, cap, hv3, _, hlt, hin3⟩ := own_fieldsP (l := l ++ [(N, T)]) (n := n + 1) (by simp [HN.out]) (by omega) hown3
        have HW3 := Lib.hid (HW1.out x3 g cap hin3 hlt)
        have HB3 := Lib.hid hb3
        have hH := HFC.out _ hb3
        clear ho3 hown3 hg3 hlt hin3 hb3
        subst hv3
        simp only [Act.put, List.setIfInBounds_toArray, List.set_cons_zero, List.set_cons_succ]
        refine wpAnyH_takeTo (i := 5) (d := some 8) (v := .slice (some ⟨g, 0, none⟩) (n + 1) cap) rfl rfl (by kernel_rfl) (by kernel_rfl) (by kernel_rfl) (fun _ _ _ h => h) (Or.inl ⟨by rfl, fun x hx => ?_⟩) hH ?_
        · go_simp
        simp only [Act.put, List.setIfInBounds_toArray, List.set_cons_zero, List.set_cons_succ]
        refine wpAnyH_done (by kernel_rfl) ?_ _
        go_wp2_with fail
        go_meet
        exact ⟨g, cap, rfl, HW3, HB3⟩
      · intro v1 x1 ⟨hv1, hx1⟩
        subst hv1
        have hb1 : Below x0.heap.size x0 x1 := by rw [hx1]; exact HBD.out.alloc HBD.out.size _
        have hf1 : FieldsIn x1.heap.size x1 (some ⟨x0.heap.size, 0, none⟩) [(N, T)] := one_at (f := (N, T)) (by rw [hx1]; exact heap_alloc_new x0.drew _)
        refine ⟨HFC.out _ hb1, ?_⟩
        have HF1 := Lib.hid hf1
        have HB1' := Lib.hid hb1
        clear hH hb1 hf1 hx1
        simp only [Act.put, List.setIfInBounds_toArray, List.set_cons_zero, List.set_cons_succ]
        refine wpAnyH_stepTo (i := 1) (d := some 25) (by kernel_rfl) rfl rfl (by rfl) (fun u x => x.ownsRow x0.heap.size 48 2 u (0 + n) ([] ++ fieldCells l) ∧ x1.grownBy x none) (fun K' hK' => ?_) ?_
        · exact wp_app_fields _ _ rfl x0.heap.size (.slice none 0 0) 0 [] rfl (World.ownsRow_nil _ _ _ _) HB1'.out.size a c n l rfl HN.out.symm (HI0.out _ HB1'.out) HNIL.out (by rw [HN.out]; have := HL10.out; omega) (fun v' w' h1 h2 => hK' v' w' ⟨h1, h2⟩)
        intro v1 x2 ⟨ho2, hg2⟩
        have hb2 : Below x0.heap.size x0 x2 := HB1'.out.grown hg2 HB1'.out.size (fun _ e => by cases e)
        have hf2 : FieldsIn x2.heap.size x2 (some ⟨x0.heap.size, 0, none⟩) [(N, T)] := kin_in (w := x1) ⟨x2, grown_below hg2⟩ HF1.out
        refine ⟨HFC.out _ hb2, ?_⟩
        have HO2 := Lib.hid ho2
        have HF2 := Lib.hid hf2
        have HB2 := Lib.hid hb2
        clear ho2 hf2 hb2 hg2
        simp only [Act.put, List.setIfInBounds_toArray, List.set_cons_zero, List.set_cons_succ]
        refine wpAnyH_stepTo (i := 4) (d := some 28) (by kernel_rfl) rfl rfl (by rfl) (fun u x => x.ownsRow x0.heap.size 48 2 u (0 + n + 1) ([] ++ fieldCells l ++ fieldCells [(N, T)]) ∧ x2.grownBy x v1.ownBlock) (fun K' hK' => ?_) ?_
        · exact wp_app_fields _ _ rfl x0.heap.size v1 (0 + n) ([] ++ fieldCells l) rfl HO2.out HB2.out.size _ 1 1 [(N, T)] rfl rfl HF2.out (fun e => by cases e) (by have := HL10.out; simp; omega) (fun v' w' h1 h2 => hK' v' w' ⟨h1, h2⟩)
        intro v3 x3 ⟨ho3, hg3⟩
        have hb3 : Below x0.heap.size x0 x3 := HB2.out.grown hg3 HB2.out.size (fun g e => (World.ownsRow.lt HO2.out g e).1)
        refine ⟨HFC.out _ hb3, ?_⟩
        have hown3 : x3.ownsRow x0.heap.size 48 2 v3 (n + 1) (fieldCells (l ++ [(N, T)])) := by
          have h := ho3
          rw [Nat.zero_add, List.nil_append] at h
          have e : fieldCells l ++ fieldCells [(N, T)] = fieldCells (l ++ [(N, T)]) := by simp [fieldCells]
          rw [e] at h
          exact h
        obtain ⟨g, cap, hv3, _, hlt, hin3⟩ := own_fieldsP (l := l ++ [(N, T)]) (n := n + 1) (by simp [HN.out]) (by omega) hown3
        have HW3 := Lib.hid (HW1.out x3 g cap hin3 hlt)
        have HB3 := Lib.hid hb3
        have hH := HFC.out _ hb3
        clear ho3 hown3 hg3 hlt hin3 hb3
        subst hv3
        simp only [Act.put, List.setIfInBounds_toArray, List.set_cons_zero, List.set_cons_succ]
        refine wpAnyH_takeTo (i := 5) (d := some 8) (v := .slice (some ⟨g, 0, none⟩) (n + 1) cap) rfl rfl (by kernel_rfl) (by kernel_rfl) (by kernel_rfl) (fun _ _ _ h => h) (Or.inl ⟨by rfl, fun x hx => ?_⟩) hH ?_
        · go_simp
        simp only [Act.put, List.setIfInBounds_toArray, List.set_cons_zero, List.set_cons_succ]
        refine wpAnyH_done (by kernel_rfl) ?_ _
        go_wp2_with fail
        go_meet
        exact ⟨g, cap, rfl, HW3, HB3⟩
    case rest =>
      obtain ⟨g, cap, rfl, HW, HBW⟩ := hcut
      have HWB := Lib.hid (HB0.out.trans (HBW.out.mono HB0.out.size))
      cases ah with
      | false =>
        have HYB := Lib.hid HWB.out
        go_upto_region 10 with (fail)
        obtain ⟨y1, hy1⟩ : ∃ x, wc.alloc (.cells #[.string ⟨#[71, 69, 84]⟩, .string ⟨#[]⟩, .slice none 0 0, .slice none 0 0] 25) = x := ⟨_, rfl⟩
        change Code.wp _ _ _ _ (wc.alloc (.cells #[.string ⟨#[71, 69, 84]⟩, .string ⟨#[]⟩, .slice none 0 0, .slice none 0 0] 25))
        rw [hy1]
        have hq : y1.heap[wc.heap.size]? = some (.cells #[.string ⟨#[71, 69, 84]⟩, .string ⟨#[]⟩, .slice none 0 0, .slice none 0 0] 25 (0, 0)) := by rw [← hy1]; exact heap_alloc_new wc _
        have hby : Below wc.heap.size wc y1 := by rw [← hy1]; exact below_al (Below.refl _ _) _
        have HW1 := Lib.hid (HW.out.below hby)
        have HQ1 := Lib.hid hq
        have HY1 := Lib.hid (HYB.out.trans (hby.mono HYB.out.size))
        obtain ⟨r0, r1, r2, r3⟩ := four_at hq
        have CM := Lib.hid (HW1.out.resp HK4.out)
        have hgp : g ≠ wc.heap.size := Nat.ne_of_lt HW.out.lt
        have HGP := Lib.hid hgp
        unfold RulePost at CM
        clear hy1 hq hby hgp
        go_wp2_with fail
        refine CM.out.mono ?_
        rintro e y2 ⟨rfl, hy2⟩
        have hq2 := (hy2.block _ (Array.getElem?_eq_some_iff.1 HQ1.out).1).trans HQ1.out
        have HW2 := Lib.hid (HW1.out.below hy2)
        have HY2 := Lib.hid (HY1.out.trans (hy2.mono HY1.out.size))
        clear r0 r1 r2 r3 CM hy2
        obtain ⟨r0, r1, r2, r3⟩ := four_at hq2
        have rf := heap_frozen hq2 2
        have HQ2 := Lib.hid hq2
        clear hq2
        by_cases h03 : K = 0 ∨ K = 3
        · obtain ⟨y3, hy3⟩ : ∃ x, y2.setCell ⟨wc.heap.size, 2, none⟩ (.slice (some ⟨g, 0, none⟩) (n + 1) cap) = x := ⟨_, rfl⟩
          have hq3 := req_set (v := .slice (some ⟨g, 0, none⟩) (n + 1) cap) HQ2.out
          rw [hy3] at hq3
          have CA : Hid (Calls Tryz.prog 14 #[.agg #[.string ⟨#[71, 69, 84]⟩, .string ⟨#[]⟩, .slice (some ⟨g, 0, none⟩) (n + 1) cap, .slice none 0 0], .agg #[.int .i64 200, .string ⟨#[]⟩, .slice none 0 0, .slice none 0 0]] y3 (RulePost false y3)) := Lib.hid (by rw [← hy3]; exact (HW2.out.set HGP.out).asked h03)
          have HY3 : Hid (Below w.heap.size w y3) := Lib.hid (by rw [← hy3]; exact below_cell HY2.out HYB.out.size _)
          have HQ3 := Lib.hid hq3
          have HX3 := Lib.hid hy3
          unfold RulePost at CA
          clear hy3 hq3
          rcases h03 with h | h
          · have e1 : ((K : Int) == 0) = true := by rw [h]; rfl
            have e2 : (K == 0) = true := by rw [h]; rfl
            have HH := Lib.hid h
            clear h
            go_upto_region 14 with (fail)
            change Code.wp _ _ _ _ (y2.setCell ⟨wc.heap.size, 2, none⟩ (.slice (some ⟨g, 0, none⟩) (n + 1) cap))
            rw [HX3.out]
            clear r0 r1 r2 r3 rf
            obtain ⟨r0, r1, r2, r3⟩ := four_at HQ3.out
            go_wp2_with fail
            refine CA.out.mono ?_
            rintro e y4 ⟨rfl, hy4⟩
            have HY4 := Lib.hid (HY3.out.trans (hy4.mono HY3.out.size))
            clear hy4 CA
            go_wp2
            go_ret
            exact ⟨rfl, HY4.out⟩
          · have e1 : ((K : Int) == 0) = false := by rw [h]; rfl
            have e2 : (K == 0) = false := by rw [h]; rfl
            have e3 : ((K : Int) == 3) = true := by rw [h]; rfl
            have e4 : (K == 3) = true := by rw [h]; rfl
            have HH := Lib.hid h
            clear h
            go_upto_region 14 with (fail)
            change Code.wp _ _ _ _ (y2.setCell ⟨wc.heap.size, 2, none⟩ (.slice (some ⟨g, 0, none⟩) (n + 1) cap))
            rw [HX3.out]
            clear r0 r1 r2 r3 rf
            obtain ⟨r0, r1, r2, r3⟩ := four_at HQ3.out
            go_wp2_with fail
            refine CA.out.mono ?_
            rintro e y4 ⟨rfl, hy4⟩
            have HY4 := Lib.hid (HY3.out.trans (hy4.mono HY3.out.size))
            clear hy4 CA
            go_wp2
            go_ret
            exact ⟨rfl, HY4.out⟩
        · have e1 : ((K : Int) == 0) = false := by simp; omega
          have e2 : (K == 0) = false := by simp; omega
          have e3 : ((K : Int) == 3) = false := by simp; omega
          have e4 : (K == 3) = false := by simp; omega
          clear h03
          go_wp2
          go_ret
          exact ⟨rfl, HY2.out⟩
      | true =>
        obtain ⟨f0, f1⟩ := HFC.out wc HBW.out
        obtain ⟨x2, hx2⟩ : ∃ x, wc.alloc (.cells #[.string N, .string T] 48) = x := ⟨_, rfl⟩
        have ho2 := one_own wc x0.heap.size HBW.out.size N T
        rw [hx2] at ho2
        have hb2 : Below x0.heap.size x0 x2 := by rw [← hx2]; exact HBW.out.alloc HBW.out.size _
        have HO2 := Lib.hid ho2
        have HB2 := Lib.hid hb2
        have HX2 := Lib.hid hx2
        clear ho2 hb2 hx2 HW
        go_upto_region 9 with ((with_reducible show wpList _ _ _ (⟨some 33, _, _, _, _, _⟩ :: _) _ _); (change wpList _ _ _ _ _ (wc.alloc (.cells #[.string N, .string T] 48))); rw [HX2.out]; refine wpList_plain rfl fun K' hK' => ?_; refine wp_app_fields (.tmp 31) (.tmp 32) rfl x0.heap.size (.slice (some ⟨wc.heap.size, 0, none⟩) 1 1) 1 (fieldCells [(N, T)]) rfl HO2.out HB2.out.size a c n l rfl HN.out.symm (HI0.out _ HB2.out) HNIL.out (by rw [HN.out]; have := HL10.out; omega) ?_; intro v3 x3 ho3 hg3; obtain ⟨g2, cap2, hv3, _, hlt, hin3⟩ := own_fieldsP (l := (N, T) :: l) (n := 1 + n) (by simp [HN.out]; omega) (by omega) (by simpa [fieldCells] using ho3); have hb3 : Below x0.heap.size x0 x3 := HB2.out.grown hg3 HB2.out.size (fun g e => (World.ownsRow.lt HO2.out g e).1); have HW := Lib.hid (HW2.out x3 g2 cap2 hin3 hlt); have HYB := Lib.hid (HB0.out.trans (hb3.mono HB0.out.size)); rw [Nat.add_comm] at hv3; subst hv3; clear ho3 hg3 hlt hin3 hb3; refine hK' _ _ ?_)
        clear f0 f1
        go_upto_region 10 with (fail)
        obtain ⟨y1, hy1⟩ : ∃ x, x3.alloc (.cells #[.string ⟨#[71, 69, 84]⟩, .string ⟨#[]⟩, .slice none 0 0, .slice none 0 0] 25) = x := ⟨_, rfl⟩
        change Code.wp _ _ _ _ (x3.alloc (.cells #[.string ⟨#[71, 69, 84]⟩, .string ⟨#[]⟩, .slice none 0 0, .slice none 0 0] 25))
        rw [hy1]
        have hq : y1.heap[x3.heap.size]? = some (.cells #[.string ⟨#[71, 69, 84]⟩, .string ⟨#[]⟩, .slice none 0 0, .slice none 0 0] 25 (0, 0)) := by rw [← hy1]; exact heap_alloc_new x3 _
        have hby : Below x3.heap.size x3 y1 := by rw [← hy1]; exact below_al (Below.refl _ _) _
        have HW1 := Lib.hid (HW.out.below hby)
        have HQ1 := Lib.hid hq
        have HY1 := Lib.hid (HYB.out.trans (hby.mono HYB.out.size))
        obtain ⟨r0, r1, r2, r3⟩ := four_at hq
        have CM := Lib.hid (HW1.out.resp HK4.out)
        have hgp : g2 ≠ x3.heap.size := Nat.ne_of_lt HW.out.lt
        have HGP := Lib.hid hgp
        unfold RulePost at CM
        clear hy1 hq hby hgp
        go_wp2_with fail
        refine CM.out.mono ?_
        rintro e y2 ⟨rfl, hy2⟩
        have hq2 := (hy2.block _ (Array.getElem?_eq_some_iff.1 HQ1.out).1).trans HQ1.out
        have HW2 := Lib.hid (HW1.out.below hy2)
        have HY2 := Lib.hid (HY1.out.trans (hy2.mono HY1.out.size))
        clear r0 r1 r2 r3 CM hy2
        obtain ⟨r0, r1, r2, r3⟩ := four_at hq2
        have rf := heap_frozen hq2 2
        have HQ2 := Lib.hid hq2
        clear hq2
        by_cases h03 : K = 0 ∨ K = 3
        · obtain ⟨y3, hy3⟩ : ∃ x, y2.setCell ⟨x3.heap.size, 2, none⟩ (.slice (some ⟨g2, 0, none⟩) (n + 1) cap2) = x := ⟨_, rfl⟩
          have hq3 := req_set (v := .slice (some ⟨g2, 0, none⟩) (n + 1) cap2) HQ2.out
          rw [hy3] at hq3
          have CA : Hid (Calls Tryz.prog 14 #[.agg #[.string ⟨#[71, 69, 84]⟩, .string ⟨#[]⟩, .slice (some ⟨g2, 0, none⟩) (n + 1) cap2, .slice none 0 0], .agg #[.int .i64 200, .string ⟨#[]⟩, .slice none 0 0, .slice none 0 0]] y3 (RulePost false y3)) := Lib.hid (by rw [← hy3]; exact (HW2.out.set HGP.out).asked h03)
          have HY3 : Hid (Below w.heap.size w y3) := Lib.hid (by rw [← hy3]; exact below_cell HY2.out HYB.out.size _)
          have HQ3 := Lib.hid hq3
          have HX3 := Lib.hid hy3
          unfold RulePost at CA
          clear hy3 hq3
          rcases h03 with h | h
          · have e1 : ((K : Int) == 0) = true := by rw [h]; rfl
            have e2 : (K == 0) = true := by rw [h]; rfl
            have HH := Lib.hid h
            clear h
            go_upto_region 14 with (fail)
            change Code.wp _ _ _ _ (y2.setCell ⟨x3.heap.size, 2, none⟩ (.slice (some ⟨g2, 0, none⟩) (n + 1) cap2))
            rw [HX3.out]
            clear r0 r1 r2 r3 rf
            obtain ⟨r0, r1, r2, r3⟩ := four_at HQ3.out
            go_wp2_with fail
            refine CA.out.mono ?_
            rintro e y4 ⟨rfl, hy4⟩
            have HY4 := Lib.hid (HY3.out.trans (hy4.mono HY3.out.size))
            clear hy4 CA
            go_wp2
            go_ret
            exact ⟨rfl, HY4.out⟩
          · have e1 : ((K : Int) == 0) = false := by rw [h]; rfl
            have e2 : (K == 0) = false := by rw [h]; rfl
            have e3 : ((K : Int) == 3) = true := by rw [h]; rfl
            have e4 : (K == 3) = true := by rw [h]; rfl
            have HH := Lib.hid h
            clear h
            go_upto_region 14 with (fail)
            change Code.wp _ _ _ _ (y2.setCell ⟨x3.heap.size, 2, none⟩ (.slice (some ⟨g2, 0, none⟩) (n + 1) cap2))
            rw [HX3.out]
            clear r0 r1 r2 r3 rf
            obtain ⟨r0, r1, r2, r3⟩ := four_at HQ3.out
            go_wp2_with fail
            refine CA.out.mono ?_
            rintro e y4 ⟨rfl, hy4⟩
            have HY4 := Lib.hid (HY3.out.trans (hy4.mono HY3.out.size))
            clear hy4 CA
            go_wp2
            go_ret
            exact ⟨rfl, HY4.out⟩
        · have e1 : ((K : Int) == 0) = false := by simp; omega
          have e2 : (K == 0) = false := by simp; omega
          have e3 : ((K : Int) == 3) = false := by simp; omega
          have e4 : (K == 3) = false := by simp; omega
          clear h03
          go_wp2
          go_ret
          exact ⟨rfl, HY2.out⟩
end Go.Proofs.YtgfinhkplijhbaaGreatDoor
