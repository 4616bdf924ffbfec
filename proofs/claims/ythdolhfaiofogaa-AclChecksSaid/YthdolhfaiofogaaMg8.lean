/-
  A rule, of a text's words.
  Rules in memory, and the law's test of their weight.
  The reference's RuleOf: a text that isn't of four words, or of another first one.
  acl.Parse: a text that isn't of four words is no rule.
  acl.Parse: four words, the first of them neither allow nor deny, are no rule.
  A rule's text, in both.
  The law's test of the rules' weight.
-/
import Derived.Deep.MidRow
import Derived.Test.YthdolhfaiofogaaMg3
import Derived.Test.YthdolhfaiofogaaMg4
import Derived.Test.YthdolhfaiofogaaMg5
import Derived.Test.YthdolhfaiofogaaMg7
namespace Go.Proofs.Ythdolhfaiofogaa
open Go.RowKit GlobMath

def allowB : List UInt8 := [97, 108, 108, 111, 119]
def denyB : List UInt8 := [100, 101, 110, 121]
def ruleA (a : Bool) (m h p : ByteArray) : Value := .agg #[.bool a, .string m, .string h, .string p]
def noRule : Value := .tuple #[ruleA false ⟨#[]⟩ ⟨#[]⟩ ⟨#[]⟩, .int .i64 122]
def firstF (a : ByteArray) : Bool := a.data.toList == allowB || a.data.toList == denyB
def ruleL : List ByteArray → Value
  | [a, m, h, p] => if firstF a && (validF m.data.toList && (validF h.data.toList && validF p.data.toList)) then .tuple #[ruleA (a.data.toList == allowB) m h p, .int .i64 0] else noRule
  | _ => noRule
theorem ruleL_count {L : List ByteArray} (h : L.length ≠ 4) : ruleL L = noRule := by
  unfold ruleL
  split
  · simp at h
  · rfl
theorem ruleL_four (a m h p : ByteArray) : ruleL [a, m, h, p] = if firstF a && (validF m.data.toList && (validF h.data.toList && validF p.data.toList)) then .tuple #[ruleA (a.data.toList == allowB) m h p, .int .i64 0] else noRule := rfl
theorem ruleL_word {a m h p : ByteArray} (hw : firstF a = false) : ruleL [a, m, h, p] = noRule := by rw [ruleL_four, hw]; rfl
theorem ruleL_bad {a m h p : ByteArray} (hv : (validF m.data.toList && (validF h.data.toList && validF p.data.toList)) = false) : ruleL [a, m, h, p] = noRule := by rw [ruleL_four, hv, Bool.and_false]; rfl
theorem ruleL_good {a m h p : ByteArray} (hw : firstF a = true) (h1 : validF m.data.toList = true) (h2 : validF h.data.toList = true) (h3 : validF p.data.toList = true) : ruleL [a, m, h, p] = .tuple #[ruleA (a.data.toList == allowB) m h p, .int .i64 0] := by rw [ruleL_four, hw, h1, h2, h3]; rfl
def RulePost (s : ByteArray) (w : World) (e : Ending) (w' : World) : Prop := e = .returned (ruleL (wordsL s)) ∧ Spares nowhere w w'
theorem infoRule : (Try.prog.info? 23).map (·.size) = some 4 := by kernel_rfl
theorem rule_stored {v : World} {g : Nat} {a b c d a' b' c' d' : Value} (h : v.heap[g]? = some (.cells #[a, b, c, d] 23 (0, 0))) :
    v.there g 0 (#[a', b', c', d'] : Array Value).size ∧ (v.setCells g 0 [a', b', c', d']).heap[g]? = some (.cells #[a', b', c', d'] 23 (0, 0)) := by
  refine ⟨there_of h 0 _ (by simp), ?_⟩
  have := heap_setCells (g := g) (t := 23) [a', b', c', d'] [] [a, b, c, d] [] v (by simpa using h) rfl
  simpa using this
theorem onesRule (a : Bool) (m h p : ByteArray) : (#[.bool a, .string m, .string h, .string p] : Array Value).all (·.oneCell') = true := by simp [Value.oneCell']
theorem size_cut {s x : ByteArray} {l : List (Nat × Nat)} (h : x ∈ cutsOf s l) : x.size ≤ s.size := by
  obtain ⟨y, _, rfl⟩ := List.mem_map.1 h
  rw [ByteArray.size_extract]
  omega
end Go.Proofs.Ythdolhfaiofogaa
namespace Go.Proofs.Ythdolhfaiofogaa
open Go.RowKit GlobMath

structure RuleR where
  allow : Bool
  method : ByteArray
  host : ByteArray
  path : ByteArray
/-- The slice that starts at a reads as the rules l. -/
def RulesAt (w : World) (a : Option Addr) (l : List RuleR) : Prop :=
  ∀ k (h : k < l.length), ∃ b off, a = some ⟨b, off, none⟩ ∧ w.cell? ⟨b, off + k * 4, none⟩ = some (.bool l[k].allow) ∧ w.cell? ⟨b, off + k * 4 + 1, none⟩ = some (.string l[k].method) ∧ w.cell? ⟨b, off + k * 4 + 2, none⟩ = some (.string l[k].host) ∧ w.cell? ⟨b, off + k * 4 + 3, none⟩ = some (.string l[k].path)
theorem cell_in {w : World} {b o : Nat} {u : Value} (h : w.cell? ⟨b, o, none⟩ = some u) : b < w.heap.size := by
  rcases Nat.lt_or_ge b w.heap.size with h1 | h1
  · exact h1
  · simp [World.cell?, Array.getElem?_eq_none h1] at h
theorem RulesAt.spares {F : Nat → Prop} {w w' : World} {a : Option Addr} {l : List RuleR} (h : RulesAt w a l) (hs : Spares F w w') (hn : ∀ b, b < w.heap.size → ¬ F b) : RulesAt w' a l := by
  intro k hk
  obtain ⟨b, off, rfl, h0, h1, h2, h3⟩ := h k hk
  have hb := cell_in h0
  exact ⟨b, off, rfl, (hs.cell (p := ⟨b, off + k * 4, none⟩) hb (hn b hb)).trans h0, (hs.cell (p := ⟨b, off + k * 4 + 1, none⟩) hb (hn b hb)).trans h1, (hs.cell (p := ⟨b, off + k * 4 + 2, none⟩) hb (hn b hb)).trans h2, (hs.cell (p := ⟨b, off + k * 4 + 3, none⟩) hb (hn b hb)).trans h3⟩
def lightR (r : RuleR) : Bool := decide (r.method.size ≤ 100) && (decide (r.host.size ≤ 100) && decide (r.path.size ≤ 100))
def lightF (l : List RuleR) : Bool := decide (l.length ≤ 20) && l.all lightR
/-- Which rule fits first, from place i on: what it says and its number. -/
def checkF (m h p : List UInt8) : List RuleR → Nat → Value
  | [], _ => .tuple #[.bool true, .int .i64 (-1)]
  | r :: l, i => if matchF r.method.data.toList m && (matchF r.host.data.toList h && matchF r.path.data.toList p) then .tuple #[.bool r.allow, .int .i64 i] else checkF m h p l (i + 1)
theorem checkF_hit {m h p : List UInt8} {l : List RuleR} {k : Nat} (hk : k < l.length) (hf : (matchF l[k].method.data.toList m && (matchF l[k].host.data.toList h && matchF l[k].path.data.toList p)) = true) : checkF m h p (l.drop k) k = .tuple #[.bool l[k].allow, .int .i64 k] := by
  rw [List.drop_eq_getElem_cons hk, checkF, if_pos hf]
theorem checkF_miss {m h p : List UInt8} {l : List RuleR} {k : Nat} (hk : k < l.length) (hf : (matchF l[k].method.data.toList m && (matchF l[k].host.data.toList h && matchF l[k].path.data.toList p)) = false) : checkF m h p (l.drop k) k = checkF m h p (l.drop (k + 1)) (k + 1) := by
  rw [List.drop_eq_getElem_cons hk, checkF, if_neg (by rw [hf]; simp)]
theorem checkF_end {m h p : List UInt8} {l : List RuleR} {k : Nat} (hk : l.length ≤ k) : checkF m h p (l.drop k) k = .tuple #[.bool true, .int .i64 (-1)] := by
  rw [List.drop_of_length_le hk]; rfl
end Go.Proofs.Ythdolhfaiofogaa
namespace Go.Proofs.Ythdolhfaiofogaa
open Go.RowKit GlobMath

set_option maxHeartbeats 8000000 in
theorem refRule_count (s : ByteArray) (w : World) (hs : s.size ≤ 1000000) (h4 : (wordsL s).length ≠ 4) : Calls Try.prog 9 #[.string s] w (RulePost s w) := by
  have HV := Lib.hid (ruleL_count h4)
  have HI := Lib.hid infoRule
  obtain ⟨L, hL⟩ : ∃ L, wordsL s = L := ⟨_, rfl⟩
  unfold RulePost
  have cW := fun w => refWords_any s w hs
  unfold WordsPost at cW
  rw [hL] at HV ⊢ h4
  simp only [hL] at cW
  clear hL
  obtain ⟨v1, hv1⟩ : ∃ v1, w.alloc (.cells #[.bool false, .string ⟨#[]⟩, .string ⟨#[]⟩, .string ⟨#[]⟩] 23) = v1 := ⟨_, rfl⟩
  have hq : v1.heap[w.heap.size]? = some (.cells #[.bool false, .string ⟨#[]⟩, .string ⟨#[]⟩, .string ⟨#[]⟩] 23 (0, 0)) := by rw [← hv1]; exact heap_alloc_new w _
  have hs1 : Spares nowhere w v1 := by rw [← hv1]; exact (Spares.refl _ w).alloc _
  have hz1 : v1.heap.size = w.heap.size + 1 := by rw [← hv1]; simp
  have HV1 := Lib.hid hv1
  clear hv1
  go_enter Try.func9, Try.ntmps9
  go_wp2_with fail
  change Calls _ _ _ (w.alloc (.cells #[.bool false, .string ⟨#[]⟩, .string ⟨#[]⟩, .string ⟨#[]⟩] 23)) _
  rw [HV1.out]
  refine (cW v1).mono ?_
  rintro e v2 ⟨v, rfl, hr, hb⟩
  have HR2 : Hid (v2.heap[w.heap.size]? = some (.cells #[.bool false, .string ⟨#[]⟩, .string ⟨#[]⟩, .string ⟨#[]⟩] 23 (0, 0))) := Lib.hid ((hb.block _ (by omega)).trans hq)
  have HS2 : Hid (Spares nowhere w v2) := Lib.hid (hs1.trans' (Below.spares (F := nowhere) hb (fun k hk => .inr hk)) (fun _ h => by cases h))
  have hn : ((L.length : Int) == 4) = false := by simp; omega
  clear hq hs1 hz1 hb cW
  rcases hr.shape with ⟨rfl, hl0⟩ | ⟨g, c, rfl, _, _, _, _⟩
  · subst hl0
    clear hr hn h4
    go_wp2
    go_region
    have hst := rule_stored (v := v2.drew) (a' := .bool false) (b' := .string ⟨#[]⟩) (c' := .string ⟨#[]⟩) (d' := .string ⟨#[]⟩) (HR2.out)
    have HT := Lib.hid hst.1
    have HQ := Lib.hid hst.2
    clear hst
    go_wp2_with ((with_reducible show wpList _ _ _ (⟨none, .store 23 _ _, _, _, _, _⟩ :: _) _ _); refine wpList_store_mid rfl 23 (.tmp 2) (.tmp 39) rfl w.heap.size 0 #[.bool false, .string ⟨#[]⟩, .string ⟨#[]⟩, .string ⟨#[]⟩] rfl rfl HT.out HI.out (onesRule _ _ _ _) ?_)
    exact bodyPost_ret (v := .tuple #[.agg #[.bool false, .string ⟨#[]⟩, .string ⟨#[]⟩, .string ⟨#[]⟩], .int .i64 122]) (results_cell_two rfl _ _ w.heap.size 23 #[.bool false, .string ⟨#[]⟩, .string ⟨#[]⟩, .string ⟨#[]⟩] (0, 0) _ (.int .i64 122) rfl rfl HQ.out Try.underlying23 (by rfl) HI.out) rfl ⟨by rw [HV.out]; rfl, HS2.out.drew.trans' (F' := fun b => b = w.heap.size) (spares_setCells _ _ _ (Spares.refl _ _)) (fun b hb => .inr (by omega))⟩
  · clear hr
    obtain ⟨n, hln⟩ : ∃ n, L.length = n := ⟨_, rfl⟩
    rw [hln] at hn h4 ⊢
    have hn2 : ((n : Int) != 4) = true := by rw [bne, hn]; rfl
    clear hln
    go_wp2
    go_region
    have hst := rule_stored (v := v2.drew) (a' := .bool false) (b' := .string ⟨#[]⟩) (c' := .string ⟨#[]⟩) (d' := .string ⟨#[]⟩) (HR2.out)
    have HT := Lib.hid hst.1
    have HQ := Lib.hid hst.2
    clear hst
    go_wp2_with ((with_reducible show wpList _ _ _ (⟨none, .store 23 _ _, _, _, _, _⟩ :: _) _ _); refine wpList_store_mid rfl 23 (.tmp 2) (.tmp 39) rfl w.heap.size 0 #[.bool false, .string ⟨#[]⟩, .string ⟨#[]⟩, .string ⟨#[]⟩] rfl rfl HT.out HI.out (onesRule _ _ _ _) ?_)
    exact bodyPost_ret (v := .tuple #[.agg #[.bool false, .string ⟨#[]⟩, .string ⟨#[]⟩, .string ⟨#[]⟩], .int .i64 122]) (results_cell_two rfl _ _ w.heap.size 23 #[.bool false, .string ⟨#[]⟩, .string ⟨#[]⟩, .string ⟨#[]⟩] (0, 0) _ (.int .i64 122) rfl rfl HQ.out Try.underlying23 (by rfl) HI.out) rfl ⟨by rw [HV.out]; rfl, HS2.out.drew.trans' (F' := fun b => b = w.heap.size) (spares_setCells _ _ _ (Spares.refl _ _)) (fun b hb => .inr (by omega))⟩

set_option maxHeartbeats 8000000 in
theorem refRule_word (s : ByteArray) (w : World) (hs : s.size ≤ 1000000) (a m h p : ByteArray) (hL : wordsL s = [a, m, h, p]) (hw : firstF a = false) : Calls Try.prog 9 #[.string s] w (RulePost s w) := by
  have HV := Lib.hid (ruleL_word (m := m) (h := h) (p := p) hw)
  have HI := Lib.hid infoRule
  unfold RulePost
  have cW := fun w => refWords_any s w hs
  unfold WordsPost at cW
  rw [hL]
  simp only [hL] at cW
  have y1 : (a.toList == [97, 108, 108, 111, 119]) = false := by
    rw [Lib.toList_data]; unfold firstF at hw; rw [Bool.or_eq_false_iff] at hw; exact hw.1
  have y2 : (a.toList == [100, 101, 110, 121]) = false := by
    rw [Lib.toList_data]; unfold firstF at hw; rw [Bool.or_eq_false_iff] at hw; exact hw.2
  clear hL hw
  obtain ⟨v1, hv1⟩ : ∃ v1, w.alloc (.cells #[.bool false, .string ⟨#[]⟩, .string ⟨#[]⟩, .string ⟨#[]⟩] 23) = v1 := ⟨_, rfl⟩
  have hq : v1.heap[w.heap.size]? = some (.cells #[.bool false, .string ⟨#[]⟩, .string ⟨#[]⟩, .string ⟨#[]⟩] 23 (0, 0)) := by rw [← hv1]; exact heap_alloc_new w _
  have hs1 : Spares nowhere w v1 := by rw [← hv1]; exact (Spares.refl _ w).alloc _
  have hz1 : v1.heap.size = w.heap.size + 1 := by rw [← hv1]; simp
  have HV1 := Lib.hid hv1
  clear hv1
  go_enter Try.func9, Try.ntmps9
  go_wp2_with fail
  change Calls _ _ _ (w.alloc (.cells #[.bool false, .string ⟨#[]⟩, .string ⟨#[]⟩, .string ⟨#[]⟩] 23)) _
  rw [HV1.out]
  refine (cW v1).mono ?_
  rintro e v2 ⟨v, rfl, hr, hb⟩
  have HR2 : Hid (v2.heap[w.heap.size]? = some (.cells #[.bool false, .string ⟨#[]⟩, .string ⟨#[]⟩, .string ⟨#[]⟩] 23 (0, 0))) := Lib.hid ((hb.block _ (by omega)).trans hq)
  have HS2 : Hid (Spares nowhere w v2) := Lib.hid (hs1.trans' (Below.spares (F := nowhere) hb (fun k hk => .inr hk)) (fun _ h => by cases h))
  rcases hr.shape with ⟨_, hl0⟩ | ⟨g, c, rfl, _, hg, hc, hcells⟩
  · cases hl0
  · have c0 : v2.cell? ⟨g, 0, none⟩ = some (.string a) := hcells 0 (Nat.zero_lt_succ _)
    change 4 ≤ c at hc
    clear hr hcells hq hs1 hz1 hb cW hg
    rw [show [a, m, h, p].length = 4 from rfl]
    have z1 : (a.toList != [97, 108, 108, 111, 119]) = true := by rw [bne, y1]; rfl
    have z2 : (a.toList != [100, 101, 110, 121]) = true := by rw [bne, y2]; rfl
    go_wp2
    go_region
    have hst := rule_stored (v := v2.drew) (a' := .bool false) (b' := .string ⟨#[]⟩) (c' := .string ⟨#[]⟩) (d' := .string ⟨#[]⟩) (HR2.out)
    have HT := Lib.hid hst.1
    have HQ := Lib.hid hst.2
    clear hst
    go_wp2_with ((with_reducible show wpList _ _ _ (⟨none, .store 23 _ _, _, _, _, _⟩ :: _) _ _); refine wpList_store_mid rfl 23 (.tmp 2) (.tmp 39) rfl w.heap.size 0 #[.bool false, .string ⟨#[]⟩, .string ⟨#[]⟩, .string ⟨#[]⟩] rfl rfl HT.out HI.out (onesRule _ _ _ _) ?_)
    exact bodyPost_ret (v := .tuple #[.agg #[.bool false, .string ⟨#[]⟩, .string ⟨#[]⟩, .string ⟨#[]⟩], .int .i64 122]) (results_cell_two rfl _ _ w.heap.size 23 #[.bool false, .string ⟨#[]⟩, .string ⟨#[]⟩, .string ⟨#[]⟩] (0, 0) _ (.int .i64 122) rfl rfl HQ.out Try.underlying23 (by rfl) HI.out) rfl ⟨by rw [HV.out]; rfl, HS2.out.drew.trans' (F' := fun b => b = w.heap.size) (spares_setCells _ _ _ (Spares.refl _ _)) (fun b hb => .inr (by omega))⟩
end Go.Proofs.Ythdolhfaiofogaa
namespace Go.Proofs.Ythdolhfaiofogaa
open Go.RowKit GlobMath

set_option maxHeartbeats 4000000 in
theorem parse_count (s : ByteArray) (w : World) (hs : s.size ≤ 1000000) (h4 : (wordsL s).length ≠ 4) : Calls Try.prog 8 #[.string s] w (RulePost s w) := by
  have HV := Lib.hid (ruleL_count h4)
  have HI := Lib.hid infoRule
  obtain ⟨L, hL⟩ : ∃ L, wordsL s = L := ⟨_, rfl⟩
  unfold RulePost
  have cW := fun w => words_any s w hs
  unfold WordsPost at cW
  rw [hL] at HV ⊢ h4
  simp only [hL] at cW
  clear hL
  obtain ⟨v1, hv1⟩ : ∃ v1, w.alloc (.cells #[.bool false, .string ⟨#[]⟩, .string ⟨#[]⟩, .string ⟨#[]⟩] 23) = v1 := ⟨_, rfl⟩
  have hq : v1.heap[w.heap.size]? = some (.cells #[.bool false, .string ⟨#[]⟩, .string ⟨#[]⟩, .string ⟨#[]⟩] 23 (0, 0)) := by rw [← hv1]; exact heap_alloc_new w _
  have hs1 : Spares nowhere w v1 := by rw [← hv1]; exact (Spares.refl _ w).alloc _
  have hz1 : v1.heap.size = w.heap.size + 1 := by rw [← hv1]; simp
  have HV1 := Lib.hid hv1
  clear hv1
  go_enter Try.func8, Try.ntmps8
  go_wp2_with fail
  change Calls _ _ _ (w.alloc (.cells #[.bool false, .string ⟨#[]⟩, .string ⟨#[]⟩, .string ⟨#[]⟩] 23)) _
  rw [HV1.out]
  refine (cW v1).mono ?_
  rintro e v2 ⟨v, rfl, hr, hb⟩
  have hq2 : v2.heap[w.heap.size]? = some (.cells #[.bool false, .string ⟨#[]⟩, .string ⟨#[]⟩, .string ⟨#[]⟩] 23 (0, 0)) := (hb.block _ (by omega)).trans hq
  have hs2 : Spares nowhere w v2 := hs1.trans' (Below.spares (F := nowhere) hb (fun k hk => .inr hk)) (fun _ h => by cases h)
  have hst := rule_stored (a' := .bool false) (b' := .string ⟨#[]⟩) (c' := .string ⟨#[]⟩) (d' := .string ⟨#[]⟩) hq2
  have HT := Lib.hid hst.1
  have HQ := Lib.hid hst.2
  have HS := Lib.hid hs2
  have hn : ((L.length : Int) == 4) = false := by simp; omega
  clear hq hs1 hz1 hb hq2 hs2 hst cW
  rcases hr.shape with ⟨rfl, hl0⟩ | ⟨g, c, rfl, _, _, _, _⟩
  · go_wp2_with ((with_reducible show wpList _ _ _ (⟨none, .store 23 _ _, _, _, _, _⟩ :: _) _ _); refine wpList_store_mid rfl 23 (.tmp 2) (.tmp 24) rfl w.heap.size 0 #[.bool false, .string ⟨#[]⟩, .string ⟨#[]⟩, .string ⟨#[]⟩] rfl rfl HT.out HI.out (onesRule _ _ _ _) ?_)
    exact bodyPost_ret (v := .tuple #[.agg #[.bool false, .string ⟨#[]⟩, .string ⟨#[]⟩, .string ⟨#[]⟩], .int .i64 122]) (results_cell_two rfl _ _ w.heap.size 23 #[.bool false, .string ⟨#[]⟩, .string ⟨#[]⟩, .string ⟨#[]⟩] (0, 0) _ (.int .i64 122) rfl rfl HQ.out Try.underlying23 (by rfl) HI.out) rfl ⟨by rw [HV.out]; rfl, HS.out.trans' (F' := fun b => b = w.heap.size) (spares_setCells _ _ _ (Spares.refl _ _)) (fun b hb => .inr (by omega))⟩
  · clear hr
    go_wp2_with ((with_reducible show wpList _ _ _ (⟨none, .store 23 _ _, _, _, _, _⟩ :: _) _ _); refine wpList_store_mid rfl 23 (.tmp 2) (.tmp 24) rfl w.heap.size 0 #[.bool false, .string ⟨#[]⟩, .string ⟨#[]⟩, .string ⟨#[]⟩] rfl rfl HT.out HI.out (onesRule _ _ _ _) ?_)
    exact bodyPost_ret (v := .tuple #[.agg #[.bool false, .string ⟨#[]⟩, .string ⟨#[]⟩, .string ⟨#[]⟩], .int .i64 122]) (results_cell_two rfl _ _ w.heap.size 23 #[.bool false, .string ⟨#[]⟩, .string ⟨#[]⟩, .string ⟨#[]⟩] (0, 0) _ (.int .i64 122) rfl rfl HQ.out Try.underlying23 (by rfl) HI.out) rfl ⟨by rw [HV.out]; rfl, HS.out.trans' (F' := fun b => b = w.heap.size) (spares_setCells _ _ _ (Spares.refl _ _)) (fun b hb => .inr (by omega))⟩
end Go.Proofs.Ythdolhfaiofogaa
namespace Go.Proofs.Ythdolhfaiofogaa
open Go.RowKit GlobMath

set_option maxHeartbeats 4000000 in
theorem parse_word (s : ByteArray) (w : World) (hs : s.size ≤ 1000000) (a m h p : ByteArray) (hL : wordsL s = [a, m, h, p]) (hw : firstF a = false) : Calls Try.prog 8 #[.string s] w (RulePost s w) := by
  have HV := Lib.hid (ruleL_word (m := m) (h := h) (p := p) hw)
  have HI := Lib.hid infoRule
  unfold RulePost
  have cW := fun w => words_any s w hs
  unfold WordsPost at cW
  rw [hL]
  simp only [hL] at cW
  have y1 : (a.toList == [97, 108, 108, 111, 119]) = false := by
    rw [Lib.toList_data]; unfold firstF at hw; rw [Bool.or_eq_false_iff] at hw; exact hw.1
  have y2 : (a.toList == [100, 101, 110, 121]) = false := by
    rw [Lib.toList_data]; unfold firstF at hw; rw [Bool.or_eq_false_iff] at hw; exact hw.2
  clear hL hw
  obtain ⟨v1, hv1⟩ : ∃ v1, w.alloc (.cells #[.bool false, .string ⟨#[]⟩, .string ⟨#[]⟩, .string ⟨#[]⟩] 23) = v1 := ⟨_, rfl⟩
  have hq : v1.heap[w.heap.size]? = some (.cells #[.bool false, .string ⟨#[]⟩, .string ⟨#[]⟩, .string ⟨#[]⟩] 23 (0, 0)) := by rw [← hv1]; exact heap_alloc_new w _
  have hs1 : Spares nowhere w v1 := by rw [← hv1]; exact (Spares.refl _ w).alloc _
  have hz1 : v1.heap.size = w.heap.size + 1 := by rw [← hv1]; simp
  have HV1 := Lib.hid hv1
  clear hv1
  go_enter Try.func8, Try.ntmps8
  go_wp2_with fail
  change Calls _ _ _ (w.alloc (.cells #[.bool false, .string ⟨#[]⟩, .string ⟨#[]⟩, .string ⟨#[]⟩] 23)) _
  rw [HV1.out]
  refine (cW v1).mono ?_
  rintro e v2 ⟨v, rfl, hr, hb⟩
  have hq2 : v2.heap[w.heap.size]? = some (.cells #[.bool false, .string ⟨#[]⟩, .string ⟨#[]⟩, .string ⟨#[]⟩] 23 (0, 0)) := (hb.block _ (by omega)).trans hq
  have hs2 : Spares nowhere w v2 := hs1.trans' (Below.spares (F := nowhere) hb (fun k hk => .inr hk)) (fun _ h => by cases h)
  have hst := rule_stored (a' := .bool false) (b' := .string ⟨#[]⟩) (c' := .string ⟨#[]⟩) (d' := .string ⟨#[]⟩) hq2
  have HT := Lib.hid hst.1
  have HQ := Lib.hid hst.2
  have HS := Lib.hid hs2
  rcases hr.shape with ⟨_, hl0⟩ | ⟨g, c, rfl, _, _, hc, hcells⟩
  · cases hl0
  · have c0 : v2.cell? ⟨g, 0, none⟩ = some (.string a) := hcells 0 (Nat.zero_lt_succ _)
    clear hr hcells hq hs1 hz1 hb hq2 hs2 hst cW
    change 4 ≤ c at hc
    go_wp2_with ((with_reducible show wpList _ _ _ (⟨none, .store 23 _ _, _, _, _, _⟩ :: _) _ _); refine wpList_store_mid rfl 23 (.tmp 2) (.tmp 24) rfl w.heap.size 0 #[.bool false, .string ⟨#[]⟩, .string ⟨#[]⟩, .string ⟨#[]⟩] rfl rfl HT.out HI.out (onesRule _ _ _ _) ?_)
    exact bodyPost_ret (v := .tuple #[.agg #[.bool false, .string ⟨#[]⟩, .string ⟨#[]⟩, .string ⟨#[]⟩], .int .i64 122]) (results_cell_two rfl _ _ w.heap.size 23 #[.bool false, .string ⟨#[]⟩, .string ⟨#[]⟩, .string ⟨#[]⟩] (0, 0) _ (.int .i64 122) rfl rfl HQ.out Try.underlying23 (by rfl) HI.out) rfl ⟨by rw [HV.out]; rfl, HS.out.trans' (F' := fun b => b = w.heap.size) (spares_setCells _ _ _ (Spares.refl _ _)) (fun b hb => .inr (by omega))⟩
end Go.Proofs.Ythdolhfaiofogaa
namespace Go.Proofs.Ythdolhfaiofogaa
open Go.RowKit GlobMath

def firstB (a : Bool) : ByteArray := if a then ⟨#[97, 108, 108, 111, 119]⟩ else ⟨#[100, 101, 110, 121]⟩
def ruleT (a : Bool) (m h p : ByteArray) : List UInt8 := (firstB a).data.toList ++ ([32] ++ (m.data.toList ++ ([32] ++ (h.data.toList ++ ([32] ++ p.data.toList)))))
theorem join_four (a : Bool) (m h p : ByteArray) : Lib.join ([firstB a, m, h, p].map (·.data.toList)) [32] = ruleT a m h p := by
  simp only [List.map_cons, List.map_nil]
  rw [Lib.join_cons]
  simp [Lib.joinTail, ruleT]
def TextPost (a : Bool) (m h p : ByteArray) (w : World) (e : Ending) (w' : World) : Prop := e = .returned (.string ⟨(ruleT a m h p).toArray⟩) ∧ Below w.heap.size w w'
theorem textLen (a : Bool) (m h p : ByteArray) (h1 : m.size ≤ 1000000) (h2 : h.size ≤ 1000000) (h3 : p.size ≤ 1000000) : (ruleT a m h p).length ≤ 140737488355328 := by
  have e : ∀ x : ByteArray, x.data.toList.length = x.size := fun x => by simp
  have hf : (firstB a).size ≤ 5 := by cases a <;> decide
  unfold ruleT
  simp only [List.length_append, List.length_cons, List.length_nil, e]
  omega
theorem lit_cell (w : World) (L : List ByteArray) (j : Nat) (hj : j < L.length) : (w.alloc (.cells (L.map Value.string).toArray 9)).cell? ⟨w.heap.size, j, none⟩ = some (.string L[j]) := by
  simp [go_sem, hj]
theorem join_rule (a : Bool) (m h p : ByteArray) (w v : World) (hl : (ruleT a m h p).length ≤ 140737488355328) (hv : (w.alloc (.cells #[.bool a, .string m, .string h, .string p] 23)).alloc (.cells #[.string (firstB a), .string m, .string h, .string p] 9) = v) :
    Calls Try.prog 21 #[.slice (some ⟨w.heap.size + 1, 0, none⟩) 4 4, .string ⟨#[32]⟩] v fun e w' => e = .returned (.string ⟨(ruleT a m h p).toArray⟩) ∧ Below v.heap.size v w' := by
  obtain ⟨w1, hw1⟩ : ∃ w1, w.alloc (.cells #[.bool a, .string m, .string h, .string p] 23) = w1 := ⟨_, rfl⟩
  have hz : w1.heap.size = w.heap.size + 1 := by rw [← hw1]; simp
  rw [hw1] at hv
  have hj : Lib.join ([firstB a, m, h, p].map (·.data.toList)) (⟨#[32]⟩ : ByteArray).data.toList = ruleT a m h p := join_four a m h p
  have := Try.strings_Join (w.heap.size + 1) 0 4 [firstB a, m, h, p] ⟨#[32]⟩ v (fun j x hx => by
    obtain ⟨hj, rfl⟩ := List.getElem?_eq_some_iff.1 hx
    rw [Nat.zero_add, ← hz, ← hv]
    exact lit_cell w1 [firstB a, m, h, p] j hj) (by rw [← hv, ← hz]; simp) (by simp) (by simp) (by rw [hj]; exact hl)
  rw [hj] at this
  exact this
set_option maxHeartbeats 4000000 in
theorem ruleText_any (a : Bool) (m h p : ByteArray) (w : World) (h1 : m.size ≤ 1000000) (h2 : h.size ≤ 1000000) (h3 : p.size ≤ 1000000) : Calls Try.prog 10 #[ruleA a m h p] w (TextPost a m h p w) := by
  have HL := Lib.hid (textLen a m h p h1 h2 h3)
  unfold ruleA TextPost
  cases a with
  | true =>
    obtain ⟨v, hv⟩ : ∃ v, (w.alloc (.cells #[.bool true, .string m, .string h, .string p] 23)).alloc (.cells #[.string ⟨#[97, 108, 108, 111, 119]⟩, .string m, .string h, .string p] 9) = v := ⟨_, rfl⟩
    have cJ := join_rule true m h p w v HL.out hv
    have hb0 : Below w.heap.size w v := by rw [← hv]; exact (((Spares.refl nowhere w).alloc _).alloc _).below0
    have HVV := Lib.hid hv
    clear hv
    go_enter Try.func10, Try.ntmps10
    go_wp2_with fail
    change Calls _ _ _ ((w.alloc (.cells #[.bool true, .string m, .string h, .string p] 23)).alloc (.cells #[.string ⟨#[97, 108, 108, 111, 119]⟩, .string m, .string h, .string p] 9)) _
    rw [HVV.out]
    refine cJ.mono ?_
    rintro e w2 ⟨rfl, hb⟩
    replace hb := hb0.trans (hb.mono hb0.size)
    clear cJ
    go_wp2
    go_ret
    exact ⟨rfl, hb⟩
  | false =>
    obtain ⟨v, hv⟩ : ∃ v, (w.alloc (.cells #[.bool false, .string m, .string h, .string p] 23)).alloc (.cells #[.string ⟨#[100, 101, 110, 121]⟩, .string m, .string h, .string p] 9) = v := ⟨_, rfl⟩
    have cJ := join_rule false m h p w v HL.out hv
    have hb0 : Below w.heap.size w v := by rw [← hv]; exact (((Spares.refl nowhere w).alloc _).alloc _).below0
    have HVV := Lib.hid hv
    clear hv
    go_enter Try.func10, Try.ntmps10
    go_wp2_with fail
    change Calls _ _ _ ((w.alloc (.cells #[.bool false, .string m, .string h, .string p] 23)).alloc (.cells #[.string ⟨#[100, 101, 110, 121]⟩, .string m, .string h, .string p] 9)) _
    rw [HVV.out]
    refine cJ.mono ?_
    rintro e w2 ⟨rfl, hb⟩
    replace hb := hb0.trans (hb.mono hb0.size)
    clear cJ
    go_wp2
    go_ret
    exact ⟨rfl, hb⟩
set_option maxHeartbeats 4000000 in
theorem refRuleText_any (a : Bool) (m h p : ByteArray) (w : World) (h1 : m.size ≤ 1000000) (h2 : h.size ≤ 1000000) (h3 : p.size ≤ 1000000) : Calls Try.prog 11 #[ruleA a m h p] w (TextPost a m h p w) := by
  unfold ruleA TextPost
  cases a with
  | true =>
    have HE : Hid ((⟨#[97, 108, 108, 111, 119, 32]⟩ : ByteArray) ++ m ++ ⟨#[32]⟩ ++ h ++ ⟨#[32]⟩ ++ p = ⟨(ruleT true m h p).toArray⟩) := Lib.hid (by
      apply ByteArray.ext
      apply Array.toList_inj.1
      simp [ruleT, firstB, ByteArray.data_append])
    have hb : Below w.heap.size w (w.alloc (.cells #[.bool true, .string m, .string h, .string p] 23)) := ((Spares.refl nowhere w).alloc _).below0
    go_enter Try.func11, Try.ntmps11
    go_wp2
    go_ret
    exact ⟨congrArg (fun x => Ending.returned (Value.string x)) HE.out, hb⟩
  | false =>
    have HE : Hid ((⟨#[100, 101, 110, 121, 32]⟩ : ByteArray) ++ m ++ ⟨#[32]⟩ ++ h ++ ⟨#[32]⟩ ++ p = ⟨(ruleT false m h p).toArray⟩) := Lib.hid (by
      apply ByteArray.ext
      apply Array.toList_inj.1
      simp [ruleT, firstB, ByteArray.data_append])
    have hb : Below w.heap.size w (w.alloc (.cells #[.bool false, .string m, .string h, .string p] 23)) := ((Spares.refl nowhere w).alloc _).below0
    go_enter Try.func11, Try.ntmps11
    go_wp2
    go_ret
    exact ⟨congrArg (fun x => Ending.returned (Value.string x)) HE.out, hb⟩
end Go.Proofs.Ythdolhfaiofogaa
namespace Go.Proofs.Ythdolhfaiofogaa
open Go.RowKit GlobMath

theorem lightF_no {l : List RuleR} {k : Nat} (hk : k < l.length) (h : lightR l[k] = false) : lightF l = false := by
  unfold lightF
  rw [Bool.and_eq_false_iff]
  refine .inr ?_
  cases hh : l.all lightR with
  | false => rfl
  | true => rw [List.all_eq_true.1 hh l[k] (List.getElem_mem hk)] at h; cases h
theorem lightF_yes {l : List RuleR} (hl : l.length ≤ 20) (h : ∀ j (hj : j < l.length), lightR l[j] = true) : lightF l = true := by
  unfold lightF
  rw [Bool.and_eq_true]
  refine ⟨by simpa using hl, List.all_eq_true.2 fun x hx => ?_⟩
  obtain ⟨j, hj, rfl⟩ := List.getElem_of_mem hx
  exact h j hj
theorem lightF_long {l : List RuleR} (hl : ¬ l.length ≤ 20) : lightF l = false := by
  unfold lightF; rw [decide_eq_false hl]; rfl
set_option maxHeartbeats 4000000 in
theorem light_any (a : Option Addr) (c : Nat) (l : List RuleR) (w : World) (hat : RulesAt w a l) :
    Calls Try.prog 7 #[.slice a l.length c] w fun e w' => e = .returned (.bool (lightF l)) ∧ w' = w := by
  by_cases hl : l.length ≤ 20
  · have HAT := Lib.hid hat
    clear hat
    go_enter Try.func7, Try.ntmps7
    go_wp2
    go_loop [3] (fun i => ∃ k : Nat, k ≤ l.length ∧ i = .int .i64 k ∧ Hid (∀ j (hj : j < l.length), j < k → lightR l[j] = true)) (fun i => l.length - (intOf i).toNat)
    case atStart => exact ⟨0, Nat.zero_le _, rfl, Lib.hid (fun j _ hj => by omega)⟩
    case round =>
      obtain ⟨k, hk, rfl, HU⟩ := hrel
      by_cases hkl : k < l.length
      · obtain ⟨b, off, rfl, h0, h1, h2, h3⟩ := HAT.out k hkl
        obtain ⟨r, hr⟩ : ∃ r, l[k] = r := ⟨_, rfl⟩
        have HR := Lib.hid hr
        rw [hr] at h0 h1 h2 h3
        clear hr h0
        by_cases p1 : r.method.size ≤ 100
        · by_cases p2 : r.host.size ≤ 100
          · by_cases p3 : r.path.size ≤ 100
            · have HN : Hid (∀ j (hj : j < l.length), j < k + 1 → lightR l[j] = true) := Lib.hid (fun j hj hjk => by
                rcases Nat.lt_or_ge j k with h | h
                · exact HU.out j hj h
                · obtain rfl : j = k := by omega
                  rw [HR.out]; unfold lightR; simp [p1, p2, p3])
              go_wp2
              go_round
              case rel => exact ⟨k + 1, by omega, by go_num, HN⟩
              case measure => simp [intOf]; omega
            · have HV := Lib.hid (lightF_no hkl (by rw [HR.out]; unfold lightR; simp [p3]))
              go_wp2
              go_ret
              exact ⟨by rw [HV.out]; rfl, rfl⟩
          · have HV := Lib.hid (lightF_no hkl (by rw [HR.out]; unfold lightR; simp [p2]))
            go_wp2
            go_ret
            exact ⟨by rw [HV.out]; rfl, rfl⟩
        · have HV := Lib.hid (lightF_no hkl (by rw [HR.out]; unfold lightR; simp [p1]))
          go_wp2
          go_ret
          exact ⟨by rw [HV.out]; rfl, rfl⟩
      · have HV := Lib.hid (lightF_yes hl (fun j hj => HU.out j hj (by omega)))
        go_wp2
        go_ret
        exact ⟨by rw [HV.out]; rfl, rfl⟩
  · have HV := Lib.hid (lightF_long hl)
    go_enter Try.func7, Try.ntmps7
    go_wp2
    go_ret
    exact ⟨by rw [HV.out]; rfl, rfl⟩
end Go.Proofs.Ythdolhfaiofogaa
