/-
  HeadLists.
-/
import Derived.Test.YtckhjhgddnjfpaaDoorHeadListsMath
import Derived.Test.YtckhjhgddnjfpaaDoorLaidInts
namespace Go.Proofs.YtckhjhgddnjfpaaDoor
open Go.RowKit HeadMath

def keepB (c : UInt8) : Bool := decide (97 ≤ c.toNat ∧ c.toNat ≤ 122) || c == 44
def segOf (x : ByteArray) (c : UInt8) : Seg := ⟨([32, 9] : List UInt8).take (c.toNat % 3), x.data.toList.filter keepB, c.toNat % 5 == 0⟩
theorem keep_not {c : UInt8} (h : keepB c = true) : c ≠ 34 ∧ c ≠ 92 := by
  constructor <;> (intro e; rw [e] at h; revert h; decide)
theorem segOf_ok (x : ByteArray) (c : UInt8) : (segOf x c).ok := by
  refine ⟨fun d hd => ?_, fun d hd => keep_not (List.mem_filter.1 hd).2⟩
  have := List.mem_of_mem_take hd
  simp at this
  rcases this with rfl | rfl <;> decide
def segsOf (ls : List ByteArray) (bl : List UInt8) : List Seg := List.zipWith segOf ls bl
theorem segsOf_len {ls : List ByteArray} {bl : List UInt8} (h : ls.length ≤ bl.length) : (segsOf ls bl).length = ls.length := by
  unfold segsOf; rw [List.length_zipWith]; omega
theorem segsOf_at {ls : List ByteArray} {bl : List UInt8} {k : Nat} (h1 : k < ls.length) (h2 : k < bl.length) (h : k < (segsOf ls bl).length) : (segsOf ls bl)[k] = segOf ls[k] bl[k] := by
  exact List.getElem_zipWith
theorem segsOf_ok (ls : List ByteArray) (bl : List UInt8) : ∀ s ∈ segsOf ls bl, s.ok := by
  intro s hs
  obtain ⟨k, hk, rfl⟩ := List.getElem_of_mem hs
  rw [show (segsOf ls bl)[k] = segOf (ls[k]'(by unfold segsOf at hk; rw [List.length_zipWith] at hk; omega)) (bl[k]'(by unfold segsOf at hk; rw [List.length_zipWith] at hk; omega)) from List.getElem_zipWith]
  exact segOf_ok _ _
def wantsOf (l : List Seg) : List ByteArray := l.map fun s => arr (quoted s.body)
theorem piece_one (x : ByteArray) (j : Nat) (h : j < x.size) : (x.extract j (j + 1)).data.toList = [x[j]] := by
  rw [Lib.extract_data, drop_at x j h, show j + 1 - j = 1 by omega]
  rfl
theorem filter_take (x : ByteArray) (j : Nat) (h : j < x.size) : (x.data.toList.take (j + 1)).filter keepB = (x.data.toList.take j).filter keepB ++ if keepB x[j] then [x[j]] else [] := by
  have e : x.data.toList.take (j + 1) = x.data.toList.take j ++ [x[j]] := by
    rw [List.take_succ_eq_append_getElem (by rw [size_list]; exact h)]; rfl
  rw [e, List.filter_append]
  congr 1
  simp [List.filter_cons]
theorem keep_eq (c : UInt8) : keepB c = ((decide ((97 : Int) ≤ (c.toNat : Int)) && decide ((c.toNat : Int) ≤ 122)) || ((c.toNat : Int) == 44)) := by
  unfold keepB
  have e : (c == 44) = ((c.toNat : Int) == 44) := by
    rw [Bool.eq_iff_iff, beq_iff_eq, beq_iff_eq]
    constructor
    · intro h; rw [h]; rfl
    · intro h; apply UInt8.toNat_inj.1; show c.toNat = 44; omega
  rw [e]
  congr 1
  rw [Bool.eq_iff_iff]
  simp
  omega
theorem seg_size (x : ByteArray) (c : UInt8) (h : x.size ≤ 300) : (segOf x c).text.length ≤ 308 := by
  unfold Seg.text segOf quoted
  have h1 := List.length_filter_le keepB x.data.toList
  rw [size_list] at h1
  have h2 : (List.take (c.toNat % 3) ([32, 9] : List UInt8)).length ≤ 2 := by rw [List.length_take]; simp; omega
  simp only [List.length_append, List.length_cons, List.length_nil]
  split <;> (simp only [List.length_cons, List.length_nil]; omega)
theorem join_size (l : List Seg) (h : ∀ s ∈ l, s.text.length ≤ 308) : (joinS l).length ≤ l.length * 309 := by
  have ht : ∀ l : List Seg, (∀ s ∈ l, s.text.length ≤ 308) → (tailS l).length ≤ l.length * 309 := by
    intro l
    induction l with
    | nil => intro _; simp [tailS]
    | cons s l ih =>
      intro h
      have h1 := h s (List.mem_cons_self ..)
      have h2 := ih (fun t ht => h t (List.mem_cons_of_mem _ ht))
      simp only [tailS, List.length_cons, List.length_append]
      omega
  cases l with
  | nil => simp [joinS]
  | cons s l =>
    have h1 := h s (List.mem_cons_self ..)
    have h2 := ht l (fun t ht => h t (List.mem_cons_of_mem _ ht))
    simp only [joinS, List.length_append, List.length_cons]
    omega

/-- What stands ahead of segment k. -/
def baseOf (G : List Seg) (k : Nat) : List UInt8 := if k = 0 then [] else joinS (G.take k) ++ [44]
theorem join_next {G : List Seg} {k : Nat} (h : k < G.length) : joinS (G.take (k + 1)) = baseOf G k ++ (G[k]).text := by
  rw [List.take_succ_eq_append_getElem h]
  unfold baseOf
  by_cases h0 : k = 0
  · subst h0
    rw [if_pos rfl, List.take_zero, List.nil_append, joinS_one, List.nil_append]
  · rw [if_neg h0, joinS_snoc _ _ (by
      intro e
      have h1 : (G.take k).length = 0 := by rw [e]; rfl
      rw [List.length_take] at h1
      omega)]
    simp
theorem seg_text {x : ByteArray} {c : UInt8} {q : Nat} {m : Bool} (hq : c.toNat % 3 = q) (hm : (c.toNat % 5 == 0) = m) : (segOf x c).text = ([32, 9] : List UInt8).take q ++ (quoted (x.data.toList.filter keepB) ++ (if m then [32, 44, 32, 44] else [])) := by
  unfold Seg.text segOf
  simp only [hq, hm, List.append_assoc]
theorem bytesAt_lt {w : World} {b o : Nat} {v : Value} (h : w.cell? ⟨b, o, none⟩ = some v) : b < w.heap.size := by
  rcases Nat.lt_or_ge b w.heap.size with h' | h'
  · exact h'
  · simp [World.cell?, Array.getElem?_eq_none h'] at h

set_option maxRecDepth 100000 in
set_option maxHeartbeats 8000000 in
theorem lists_any (ls : List ByteArray) (bl : List UInt8) (a aB : Option Addr) (cap capB n nB : Nat) (w : World) (hin : StrsIn w.heap.size w a ls) (hN : n = ls.length) (hle : n ≤ maxLen) (hsz : ∀ s ∈ ls, s.size ≤ maxLen) (hbl : BytesAt w aB bl) (hNB : nB = bl.length) :
    Calls Tryd.prog 8 #[.slice a n cap, .slice aB nB capB] w (SetsPost w) := by
  unfold maxLen at hle
  have HIN := Lib.hid hin
  have HN := Lib.hid hN
  have HSZ := Lib.hid hsz
  have HBL := Lib.hid hbl
  have HNB := Lib.hid hNB
  clear hin hN hsz hbl hNB
  go_enter Tryd.func8, Tryd.ntmps8
  go_wp2_with fail
  refine (known_any _).mono ?_
  rintro e w1 ⟨rfl, hb1⟩
  have HIN1 := Lib.hid (HIN.out.below hb1 hb1.size)
  have HB1 := Lib.hid hb1
  clear hb1
  go_wp2_with fail
  refine (lawLines_any ls a cap n w1 HIN1.out HN.out hle HSZ.out).mono ?_
  rintro e w2 ⟨lit, rfl, rfl, hlit⟩
  cases lit with
  | false =>
    clear hlit
    go_wp2
    go_ret
    exact ⟨rfl, HB1.out⟩
  | true =>
  by_cases h10 : (10 : Int) < (n : Int)
  · clear hlit
    go_wp2
    go_ret
    exact ⟨rfl, HB1.out⟩
  by_cases hshort : (nB : Int) < (n : Int)
  · clear hlit
    have h10' : ¬ (10 : Int) < (n : Int) := h10
    go_wp2
    go_ret
    exact ⟨rfl, HB1.out⟩
  obtain ⟨_, hl⟩ := hlit rfl
  have HL := Lib.hid hl
  have hn10 : n ≤ 10 := by omega
  have hnn : n ≤ nB := by omega
  obtain ⟨G, hG⟩ : ∃ G, segsOf ls bl = G := ⟨_, rfl⟩
  have hGl : G.length = n := by rw [← hG, segsOf_len (by have := HN.out; have := HNB.out; omega)]; exact HN.out.symm
  have HGL := Lib.hid hGl
  have HG := Lib.hid hG
  have HGT : Hid (∀ s ∈ G, s.text.length ≤ 308) := Lib.hid (fun s hs => by
    rw [← hG] at hs
    obtain ⟨j, hj, rfl⟩ := List.getElem_of_mem hs
    have hj1 : j < ls.length := by unfold segsOf at hj; rw [List.length_zipWith] at hj; omega
    have hj2 : j < bl.length := by unfold segsOf at hj; rw [List.length_zipWith] at hj; omega
    rw [segsOf_at hj1 hj2 hj]
    exact seg_size _ _ (hl _ (List.getElem_mem hj1)))
  have dn : decide (nB < n) = false := by simp; omega
  have dn' : decide ((nB : Int) < (n : Int)) = false := by simp; omega
  have d10 : decide ((10 : Int) < (n : Int)) = false := by simp; omega
  clear hlit hl hG hGl
  go_wp2
  go_loopw [5, 6, 7] (fun sv v i wr => ∃ (k : Nat) (s : ByteArray), k ≤ n ∧ i = .int .i64 k ∧ sv = .string s ∧ Hid (s.data.toList = joinS (G.take k)) ∧ Hid (OwnStrs w.heap.size wr v (wantsOf (G.take k))) ∧ Hid (Below w.heap.size w wr)) (fun _ _ i _ => n - (intOf i).toNat)
  case atStart => exact ⟨0, _, Nat.zero_le _, rfl, rfl, Lib.hid rfl, Lib.hid (World.ownsRow_nil _ _ _ _), HB1⟩
  case round =>
    obtain ⟨k, s, hk, rfl, rfl, HS, HO, HB⟩ := hrel
    have hssz : s.size ≤ 3090 := by
      rw [← size_list, HS.out]
      have := join_size (G.take k) (fun t ht => HGT.out t (List.mem_of_mem_take ht))
      rw [List.length_take] at this
      omega
    by_cases hlt : k < n
    · have hlt1 : k < ls.length := by have := HN.out; omega
      have hlt2 : k < bl.length := by have := HNB.out; omega
      have hlt3 : k < G.length := by have := HGL.out; omega
      obtain ⟨b, off, rfl, hb, hc⟩ := HIN.out k hlt1
      obtain ⟨b2, off2, rfl, hc2⟩ := HBL.out k hlt2
      have hb2 := bytesAt_lt hc2
      have hx300 := HL.out _ (List.getElem_mem hlt1)
      have hnx := join_next hlt3
      have hseg : G[k] = segOf ls[k] bl[k] := by
        have := segsOf_at hlt1 hlt2 (by rw [HG.out]; exact hlt3)
        simpa [HG.out] using this
      obtain ⟨x, hx⟩ : ∃ x, ls[k] = x := ⟨_, rfl⟩
      obtain ⟨c, hcc⟩ : ∃ c, bl[k] = c := ⟨_, rfl⟩
      rw [hx] at hc hx300 hseg
      rw [hcc] at hc2 hseg
      have x0 := (HB.out.cell (p := ⟨b, off + k, none⟩) hb).trans hc
      have HC2 := Lib.hid hc2
      obtain ⟨q3, hq3⟩ : ∃ q, c.toNat % 3 = q := ⟨_, rfl⟩
      obtain ⟨m5, hm5⟩ : ∃ m, (c.toNat % 5 == 0) = m := ⟨_, rfl⟩
      have HNX : Hid (joinS (G.take (k + 1)) = baseOf G k ++ (([32, 9] : List UInt8).take q3 ++ (quoted (x.data.toList.filter keepB) ++ (if m5 then [32, 44, 32, 44] else [])))) := Lib.hid (by rw [hnx, hseg, seg_text hq3 hm5])
      have HWN : Hid (wantsOf (G.take (k + 1)) = wantsOf (G.take k) ++ [arr (quoted (x.data.toList.filter keepB))]) := Lib.hid (by
        unfold wantsOf
        rw [List.take_succ_eq_append_getElem hlt3, List.map_append, hseg]; rfl)
      have i1 : (k : Int) < (n : Int) := by omega
      have hq2 : q3 ≤ 2 := by omega
      have hqi : (c.toNat : Int) % 3 = (q3 : Int) := by omega
      have hmi : ((c.toNat : Int) % 5 == 0) = m5 := by
        rw [← hm5, Bool.eq_iff_iff, beq_iff_eq, beq_iff_eq]; omega
      have hc255 : (c.toNat : Int) ≤ 255 := by have := c.toNat_lt; omega
      have HMI := Lib.hid hmi
      have hn63 : (n : Int) ≤ 10 := by omega
      obtain ⟨wo, hwo⟩ : ∃ wo : World, wo = wr := ⟨_, rfl⟩
      subst hwo
      clear hc hc2 hx hcc hnx hseg hq3 hm5 hmi
      go_wp2
      go_loop [8, 9] (fun pv jv => ∃ (j : Nat) (p : ByteArray), jv = .int .i64 j ∧ pv = .string p ∧ j ≤ x.size ∧ p.size ≤ j ∧ Hid (p.data.toList = (x.data.toList.take j).filter keepB)) (fun _ jv => x.size - (intOf jv).toNat)
      case atStart => exact ⟨0, _, rfl, rfl, Nat.zero_le _, Nat.le_refl _, Lib.hid rfl⟩
      case round =>
        obtain ⟨j, p, rfl, rfl, hj, hpj, HP⟩ := hrel
        by_cases hjx : j < x.size
        · have hjx1 : (j : Int) < (x.size : Int) := by omega
          have hft := filter_take x j hjx
          have hke := keep_eq x[j]
          have hz1 : (x.extract j (j + 1)).size = 1 := by rw [← size_list, piece_one x j hjx]; rfl
          obtain ⟨p', hp'⟩ : ∃ p', p ++ x.extract j (j + 1) = p' := ⟨_, rfl⟩
          have hpd : p'.data.toList = p.data.toList ++ [x[j]] := by rw [← hp', ByteArray.data_append, Array.toList_append, piece_one x j hjx]
          have hps : p'.size = p.size + 1 := by rw [← hp', ByteArray.size_append, hz1]
          have HPD := Lib.hid hpd
          have HPS := Lib.hid hps
          have HFT := Lib.hid hft
          have HKE := Lib.hid hke
          clear hpd hps hft hke
          by_cases k1 : (97 : Int) ≤ (x[j].toNat : Int)
          · by_cases k2 : (x[j].toNat : Int) ≤ 122
            · have HN2 : Hid (p'.data.toList = (x.data.toList.take (j + 1)).filter keepB) := Lib.hid (by
                rw [HFT.out, HPD.out, HP.out, if_pos]
                rw [HKE.out]; simp [k1, k2])
              go_wp2
              go_round
              case rel => exact ⟨j + 1, p', by go_num, by first | rfl | exact congrArg Value.string hp', by omega, by have := HPS.out; omega, HN2⟩
              case measure => simp [intOf]; omega
            · have k3 : ((x[j].toNat : Int) == 44) = false := by rw [beq_eq_false_iff_ne]; omega
              have HN2 : Hid (p.data.toList = (x.data.toList.take (j + 1)).filter keepB) := Lib.hid (by
                rw [HFT.out, HP.out, if_neg, List.append_nil]
                rw [HKE.out, k3]; simp; omega)
              go_wp2
              go_round
              case rel => exact ⟨j + 1, p, by go_num, rfl, by omega, by omega, HN2⟩
              case measure => simp [intOf]; omega
          · by_cases k4 : (x[j].toNat : Int) = 44
            · have k3 : ((x[j].toNat : Int) == 44) = true := by rw [beq_iff_eq]; exact k4
              have HN2 : Hid (p'.data.toList = (x.data.toList.take (j + 1)).filter keepB) := Lib.hid (by
                rw [HFT.out, HPD.out, HP.out, if_pos]
                rw [HKE.out, k3, Bool.or_true])
              clear k4
              go_wp2
              go_round
              case rel => exact ⟨j + 1, p', by go_num, by first | rfl | exact congrArg Value.string hp', by omega, by have := HPS.out; omega, HN2⟩
              case measure => simp [intOf]; omega
            · have k3 : ((x[j].toNat : Int) == 44) = false := by rw [beq_eq_false_iff_ne]; exact k4
              have HN2 : Hid (p.data.toList = (x.data.toList.take (j + 1)).filter keepB) := Lib.hid (by
                rw [HFT.out, HP.out, if_neg, List.append_nil]
                rw [HKE.out, k3]; simp; omega)
              clear k4
              go_wp2
              go_round
              case rel => exact ⟨j + 1, p, by go_num, rfl, by omega, by omega, HN2⟩
              case measure => simp [intOf]; omega
        · obtain rfl : j = x.size := by omega
          have hjx1 : ¬ (x.size : Int) < (x.size : Int) := by omega
          obtain ⟨pq, hpq⟩ : ∃ q, (⟨#[34]⟩ ++ p ++ ⟨#[34]⟩ : ByteArray) = q := ⟨_, rfl⟩
          have hpl : p.data.toList = x.data.toList.filter keepB := by have := HP.out; rwa [List.take_of_length_le (by rw [size_list]; exact Nat.le_refl _)] at this
          have hpqd : pq.data.toList = quoted (x.data.toList.filter keepB) := by rw [← hpq, ← hpl]; simp [quoted, ByteArray.data_append]
          have hpqs : pq.size = p.size + 2 := by rw [← size_list, hpqd, ← hpl]; unfold quoted; simp
          have HPQ : Hid (pq = arr (quoted (x.data.toList.filter keepB))) := Lib.hid (data_as pq hpqd)
          have HPD := Lib.hid hpqd
          have hpq2 : pq.size ≤ 302 := by omega
          have hz34 : (⟨#[34]⟩ : ByteArray).size = 1 := rfl
          have HO2 := Lib.hid (show OwnStrs w.heap.size (wo.alloc (.cells #[.string pq] 9)) u6 (wantsOf (G.take k)) from HO.out.alloc _)
          have HS2 := Lib.hid (strsIn_one wo 9 pq)
          have HB2 := Lib.hid (HB.out.alloc (o := .cells #[.string pq] 9) HB.out.size)
          have HLEN := Lib.hid (show (wantsOf (G.take k)).length + [pq].length ≤ 1000000000000 by unfold wantsOf; rw [List.length_map, List.length_take]; simp; omega)
          clear hpl hpqd hpqs
          go_wp2_with (at_builtin; refine wpList_append_strs rfl _ _ rfl w.heap.size (wo.alloc (.cells #[.string pq] 9)).heap.size u6 (wantsOf (G.take k)) rfl HO2.out HB2.out.size (some ⟨wo.heap.size, 0, none⟩) 1 1 [pq] rfl rfl HS2.out (fun e => by cases e) HLEN.out ?_)
          intro v4 w4 ho4 hg4
          have HO4 : Hid (OwnStrs w.heap.size w4 v4 (wantsOf (G.take (k + 1)))) := Lib.hid (by rw [HWN.out, ← HPQ.out]; exact ho4)
          have HB4 := Lib.hid (HB2.out.grown hg4 HB2.out.size (fun g hg => (World.ownsRow.lt HO2.out g hg).1))
          have y0 := (HB4.out.cell (p := ⟨b2, off2 + k, none⟩) hb2).trans HC2.out
          clear ho4 hg4 HO2 HS2 HB2 hpq x0 HO HB
          obtain ⟨s1, hs1⟩ : ∃ q, (s ++ ⟨#[44]⟩ : ByteArray) = q := ⟨_, rfl⟩
          have hs1s : s1.size = s.size + 1 := by rw [← hs1, ByteArray.size_append]; rfl
          have HS1S := Lib.hid hs1s
          have HBS0 : Hid (k = 0 → s.data.toList = baseOf G k) := Lib.hid (fun h0 => by
            rw [HS.out]; unfold baseOf; rw [if_pos h0, h0, List.take_zero]; rfl)
          have HBS1 : Hid (k ≠ 0 → s1.data.toList = baseOf G k) := Lib.hid (fun h0 => by
            rw [← hs1]; unfold baseOf; rw [if_neg h0, ByteArray.data_append, Array.toList_append, HS.out])
          have hz44 : (⟨#[44]⟩ : ByteArray).size = 1 := rfl
          clear hs1s
          by_cases hk0 : (0 : Int) < (k : Int)
          all_goals
            go_wp2
            go_loop [5, 11] (fun sv jv => ∃ (j : Nat) (t : ByteArray), jv = .int .i64 j ∧ sv = .string t ∧ j ≤ q3 ∧ t.size ≤ 3091 + j ∧ Hid (t.data.toList = baseOf G k ++ ([32, 9] : List UInt8).take j)) (fun _ jv => q3 - (intOf jv).toNat)
            case atStart =>
              first
                | exact ⟨0, s1, rfl, rfl, Nat.zero_le _, by have := HS1S.out; omega, Lib.hid (by rw [HBS1.out (by omega)]; simp)⟩
                | exact ⟨0, s1, rfl, congrArg Value.string hs1, Nat.zero_le _, by have := HS1S.out; omega, Lib.hid (by rw [HBS1.out (by omega)]; simp)⟩
                | exact ⟨0, s, rfl, rfl, Nat.zero_le _, by omega, Lib.hid (by rw [HBS0.out (by omega)]; simp)⟩
            case round =>
              obtain ⟨j, t, rfl, rfl, hj, hts, HT⟩ := hrel
              by_cases hjq : j < q3
              · have hjq1 : (j : Int) < (q3 : Int) := by omega
                rcases (show j = 0 ∨ j = 1 by omega) with rfl | rfl
                · obtain ⟨t', ht'⟩ : ∃ q, (t ++ (⟨#[32, 9]⟩ : ByteArray).extract 0 1 : ByteArray) = q := ⟨_, rfl⟩
                  have hze : ((⟨#[32, 9]⟩ : ByteArray).extract 0 1).size = 1 := rfl
                  have hzc : (⟨#[32, 9]⟩ : ByteArray).size = 2 := rfl
                  have HT' : Hid (t'.data.toList = baseOf G k ++ ([32, 9] : List UInt8).take 1 ∧ t'.size = t.size + 1) := Lib.hid (by
                    rw [← ht']
                    refine ⟨?_, by rw [ByteArray.size_append, hze]⟩
                    rw [ByteArray.data_append, Array.toList_append, HT.out]
                    simp)
                  go_wp2
                  go_round
                  case rel => exact ⟨1, t', by go_num, by first | rfl | exact congrArg Value.string ht', by omega, by have := HT'.out.2; omega, Lib.hid HT'.out.1⟩
                  case measure => simp [intOf]; omega
                · obtain ⟨t', ht'⟩ : ∃ q, (t ++ (⟨#[32, 9]⟩ : ByteArray).extract 1 2 : ByteArray) = q := ⟨_, rfl⟩
                  have hze : ((⟨#[32, 9]⟩ : ByteArray).extract 1 2).size = 1 := rfl
                  have hzc : (⟨#[32, 9]⟩ : ByteArray).size = 2 := rfl
                  have HT' : Hid (t'.data.toList = baseOf G k ++ ([32, 9] : List UInt8).take 2 ∧ t'.size = t.size + 1) := Lib.hid (by
                    rw [← ht']
                    refine ⟨?_, by rw [ByteArray.size_append, hze]⟩
                    rw [ByteArray.data_append, Array.toList_append, HT.out]
                    simp)
                  go_wp2
                  go_round
                  case rel => exact ⟨2, t', by go_num, by first | rfl | exact congrArg Value.string ht', by omega, by have := HT'.out.2; omega, Lib.hid HT'.out.1⟩
                  case measure => simp [intOf]; omega
              · obtain rfl : j = q3 := by omega
                have hjq1 : ¬ (j : Int) < (j : Int) := by omega
                obtain ⟨t1, ht1⟩ : ∃ q, t ++ pq = q := ⟨_, rfl⟩
                obtain ⟨t2, ht2⟩ : ∃ q, t1 ++ (⟨#[32, 44, 32, 44]⟩ : ByteArray) = q := ⟨_, rfl⟩
                have hzf : (⟨#[32, 44, 32, 44]⟩ : ByteArray).size = 4 := rfl
                have ht1s : t1.size ≤ 3400 := by rw [← ht1, ByteArray.size_append]; omega
                have HT1 : Hid (t1.data.toList = baseOf G k ++ (([32, 9] : List UInt8).take j ++ quoted (x.data.toList.filter keepB))) := Lib.hid (by
                  rw [← ht1, ByteArray.data_append, Array.toList_append, HT.out, HPD.out, List.append_assoc])
                have HT2 : Hid (t2.data.toList = t1.data.toList ++ [32, 44, 32, 44]) := Lib.hid (by
                  rw [← ht2, ByteArray.data_append, Array.toList_append])
                have hmi := HMI.out
                cases m5 with
                | true =>
                  have HSN : Hid (t2.data.toList = joinS (G.take (k + 1))) := Lib.hid (by
                    rw [HT2.out, HT1.out, HNX.out]; simp)
                  go_wp2
                  go_roundw
                  case rel => exact ⟨k + 1, t2, by omega, by go_num, by first | rfl | exact congrArg Value.string ht2, HSN, HO4, HB4⟩
                  case measure => simp [intOf]; omega
                | false =>
                  have HSN : Hid (t1.data.toList = joinS (G.take (k + 1))) := Lib.hid (by
                    rw [HT1.out, HNX.out]; simp)
                  go_wp2
                  go_roundw
                  case rel => exact ⟨k + 1, t1, by omega, by go_num, by first | rfl | exact congrArg Value.string ht1, HSN, HO4, HB4⟩
                  case measure => simp [intOf]; omega
    · obtain rfl : k = n := by omega
      have i1 : ¬ (k : Int) < (k : Int) := by omega
      have hGk : G.take k = G := List.take_of_length_le (by have := HGL.out; omega)
      have hso := HO.out
      have hsd := HS.out
      rw [hGk] at hso hsd
      have hok : ∀ t ∈ G, t.ok := by rw [← HG.out]; exact segsOf_ok ls bl
      have hparts : partsF s = wantsOf G := by
        have := parts_join G hok
        rw [← hsd] at this
        exact this
      have hlist : listF ⟨#[120]⟩ [(⟨#[88]⟩, s)] = wantsOf G := by
        unfold listF
        rw [show allF ⟨#[120]⟩ [(⟨#[88]⟩, s)] = [s] from by
          unfold allF
          rw [List.filter_cons, show isNamed ⟨#[120]⟩ (⟨#[88]⟩, s) = true from by unfold isNamed; show sameF [88] [120] = true; decide]
          rfl]
        rw [List.flatMap_cons, List.flatMap_nil, List.append_nil, hparts]
      obtain ⟨aw, cw, rfl, hinw, _⟩ := OwnStrs.shape hso
      obtain ⟨X, hX⟩ : ∃ X, wantsOf G = X := ⟨_, rfl⟩
      have hXl : X.length = k := by rw [← hX]; unfold wantsOf; rw [List.length_map]; exact HGL.out
      rw [hX] at hinw hlist ⊢
      have hin1 : FieldsIn (wr.alloc (.cells #[.string ⟨#[88]⟩, .string s] 48)).heap.size (wr.alloc (.cells #[.string ⟨#[88]⟩, .string s] 48)) (some ⟨wr.heap.size, 0, none⟩) [(⟨#[88]⟩, s)] := by
        intro j hj
        have hj0 : j = 0 := by simpa using hj
        subst hj0
        have hM := MBlk.new wr 48 #[.string ⟨#[88]⟩, .string s] (0, 0)
        exact ⟨wr.heap.size, 0, rfl, hM.lt, hM.cell 0, hM.cell 1⟩
      have hsm1 : SmallF [(⟨#[88]⟩, s)] := by
        intro j hj
        have hj0 : j = 0 := by simpa using hj
        subst hj0
        exact ⟨by show 1 ≤ _; omega, by show s.size ≤ _; omega⟩
      have hvs1 : ∀ j (h : j < [((⟨#[88]⟩ : ByteArray), s)].length), ([((⟨#[88]⟩ : ByteArray), s)][j]).2.size ≤ 1000000 := by
        intro j hj
        have hj0 : j = 0 := by simpa using hj
        subst hj0
        show s.size ≤ _
        omega
      have HB2 := Lib.hid (HB.out.alloc (o := .cells #[.string ⟨#[88]⟩, .string s] 48) HB.out.size)
      have HW := Lib.hid hinw
      have HCL := Lib.hid ((list_any [(⟨#[88]⟩, s)] ⟨#[120]⟩ (some ⟨wr.heap.size, 0, none⟩) 1 (wr.alloc (.cells #[.string ⟨#[88]⟩, .string s] 48)) hin1 hsm1 (by simp) hvs1 (by decide)).mono fun _ _ h => h.slice)
      rw [hlist] at HCL
      have HXL := Lib.hid hXl
      have HWB := Lib.hid (show Below wr.heap.size wr (wr.alloc (.cells #[.string ⟨#[88]⟩, .string s] 48)) from (Below.refl _ _).alloc (Nat.le_refl _) _)
      have hone : [((⟨#[88]⟩ : ByteArray), s)].length = 1 := rfl
      rw [hone] at HCL
      have hwl : (wantsOf G).length = k := by rw [hX]; exact hXl
      clear hGk hso hsd hok hparts hlist hinw hX hXl hin1 hsm1 hvs1 hone hwl
      rw [HXL.out]
      go_wp2_with fail
      refine HCL.out.mono ?_
      rintro e w3 ⟨a3, c3, rfl, hs3, hb3⟩
      rw [HXL.out]
      have HW3 := Lib.hid ((HW.out.below HWB.out HWB.out.size).below hb3 hb3.size)
      have HB3 := Lib.hid (HB2.out.trans (hb3.mono HB2.out.size))
      have HCR := Lib.hid (rows_same X a3 aw c3 cw k w3 HXL.out hs3 HW3.out (by have := HXL.out; omega))
      clear hs3 hb3 HCL
      go_wp2_with fail
      refine HCR.out.mono ?_
      rintro e w5 ⟨m5, rfl, rfl⟩
      have HB5 := Lib.hid (below_drewN HB3.out m5)
      go_wp2
      go_ret
      exact ⟨rfl, HB5.out⟩
end Go.Proofs.YtckhjhgddnjfpaaDoor
