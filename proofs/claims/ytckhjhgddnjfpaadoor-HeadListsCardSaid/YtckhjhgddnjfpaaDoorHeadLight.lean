/-
  ambryhelp.Light: few fields, none long.
-/
import Derived.Test.YtckhjhgddnjfpaaDoorHeadDrop
import Derived.Test.YtckhjhgddnjfpaaDoorStructRows
namespace Go.Proofs.YtckhjhgddnjfpaaDoor
open Go.ChangeShapes Go.WideShapes Go.ChangeAt Go.RowKit HeadMath

def Lit1 (fs : List (ByteArray × ByteArray)) (most : Nat) (w : World) (e : Ending) (w' : World) : Prop :=
  ∃ b : Bool, e = .returned (.bool b) ∧ w' = w ∧ (b = true → fs.length ≤ most ∧ ∀ j (h : j < fs.length), (fs[j]).1.size ≤ 300 ∧ (fs[j]).2.size ≤ 300)
set_option maxRecDepth 100000 in
set_option maxHeartbeats 1000000 in
theorem light_any (fs : List (ByteArray × ByteArray)) (a : Option Addr) (c n most : Nat) (w : World) (hat : FieldsIn w.heap.size w a fs) (hn : n = fs.length) (hn63 : n < 9223372036854775808) (hm : most < 9223372036854775808) (hsz : ∀ j (h : j < fs.length), (fs[j]).1.size ≤ 9223372036854775807 ∧ (fs[j]).2.size ≤ 9223372036854775807) :
    Calls Tryd.prog 23 #[.slice a n c, .int .i64 most] w (Lit1 fs most w) := by
  have HA := Lib.hid hat
  have HN := Lib.hid hn
  have HSZ := Lib.hid hsz
  clear hat hn hsz
  by_cases hbig : most < n
  · have i1 : (most : Int) < (n : Int) := by omega
    go_enter Tryd.func23, Tryd.ntmps23
    go_wp2
    go_ret
    exact ⟨false, rfl, rfl, fun h => by cases h⟩
  have i1 : ¬ (most : Int) < (n : Int) := by omega
  go_enter Tryd.func23, Tryd.ntmps23
  go_wp2
  go_loopw [5] (fun i wr => ∃ k : Nat, k ≤ n ∧ i = .int .i64 k ∧ wr = w ∧ Hid (∀ j (h : j < fs.length), j < k → (fs[j]).1.size ≤ 300 ∧ (fs[j]).2.size ≤ 300)) (fun i _ => n - (intOf i).toNat)
  case atStart => exact ⟨0, by omega, rfl, rfl, Lib.hid (fun j _ h => by omega)⟩
  case round =>
    obtain ⟨k, hk, rfl, rfl, HSM⟩ := hrel
    by_cases hlt : k < n
    · have hk2 : k < fs.length := by have := HN.out; omega
      obtain ⟨b, off, rfl, _, hc0, hc1⟩ := HA.out k hk2
      have hs := HSZ.out k hk2
      obtain ⟨s1, hs1⟩ : ∃ s, (fs[k]).1 = s := ⟨_, rfl⟩
      obtain ⟨s2, hs2⟩ : ∃ s, (fs[k]).2 = s := ⟨_, rfl⟩
      rw [hs1] at hc0 hs
      rw [hs2] at hc1 hs
      obtain ⟨z1, hz1⟩ : ∃ z, s1.size = z := ⟨_, rfl⟩
      obtain ⟨z2, hz2⟩ : ∃ z, s2.size = z := ⟨_, rfl⟩
      rw [hz1, hz2] at hs
      have HP := Lib.hid (show (fs[k]).1.size = z1 ∧ (fs[k]).2.size = z2 from ⟨by rw [hs1, hz1], by rw [hs2, hz2]⟩)
      have j1 : (k : Int) < (n : Int) := by omega
      clear hs1 hs2
      by_cases h1 : 300 < z1
      · have j3 : (300 : Int) < (z1 : Int) := by omega
        go_wp2
        go_ret
        exact ⟨false, rfl, rfl, fun h => by cases h⟩
      by_cases h2 : 300 < z2
      · have j3 : ¬ (300 : Int) < (z1 : Int) := by omega
        have j4 : (300 : Int) < (z2 : Int) := by omega
        go_wp2
        go_ret
        exact ⟨false, rfl, rfl, fun h => by cases h⟩
      have j3 : ¬ (300 : Int) < (z1 : Int) := by omega
      have j4 : ¬ (300 : Int) < (z2 : Int) := by omega
      go_wp2
      go_roundw
      case rel =>
        refine ⟨k + 1, by omega, by go_num, trivial, Lib.hid (fun j h hj => ?_)⟩
        by_cases e : j = k
        · subst e; rw [HP.out.1, HP.out.2]; omega
        · exact HSM.out j h (by omega)
      case measure => simp [intOf]; omega
    · obtain rfl : k = n := by omega
      go_wp2
      go_ret
      exact ⟨true, rfl, rfl, fun _ => ⟨by have := HN.out; omega, fun j h => HSM.out j h (by have := HN.out; omega)⟩⟩
def Drew (w : World) (v : Value) (e : Ending) (w' : World) : Prop := e = .returned v ∧ ∃ n, w' = w.drewN n
set_option maxRecDepth 100000 in
set_option maxHeartbeats 1000000 in
theorem fields_same (fs : List (ByteArray × ByteArray)) (a b : Option Addr) (c d : Nat) (w : World) (hx : FieldsIn w.heap.size w a fs) (hy : FieldsIn w.heap.size w b fs) (hl : fs.length ≤ 140737488355328) :
    Calls Tryd.prog 15 #[.slice a fs.length c, .slice b fs.length d] w (Drew w (.bool true)) := by
  have HX := Lib.hid hx
  have HY := Lib.hid hy
  obtain ⟨n, hn⟩ : ∃ n, fs.length = n := ⟨_, rfl⟩
  have HN := Lib.hid hn
  rw [hn] at hl ⊢
  have q : ((n : Int) != (n : Int)) = false := by simp
  clear hx hy hn
  go_enter Tryd.func15, Tryd.ntmps15
  go_wp2
  go_loopw [5] (fun i wr => ∃ k : Nat, k ≤ n ∧ i = .int .i64 k ∧ ∃ m, Hid (wr = w.drewN m)) (fun i _ => n - (intOf i).toNat)
  case atStart => exact ⟨0, Nat.zero_le _, rfl, 0, Lib.hid rfl⟩
  case round =>
    obtain ⟨k, hk, rfl, m, HM⟩ := hrel
    by_cases hlt : k < n
    · have hlt' : k < fs.length := by rw [HN.out]; exact hlt
      obtain ⟨b1, o1, rfl, _, hc1, hc2⟩ := HX.out k hlt'
      obtain ⟨b2, o2, rfl, _, hd1, hd2⟩ := HY.out k hlt'
      obtain ⟨u, hu⟩ : ∃ u, fs[k].1 = u := ⟨_, rfl⟩
      obtain ⟨v, hv⟩ : ∃ v, fs[k].2 = v := ⟨_, rfl⟩
      rw [hu] at hc1 hd1
      rw [hv] at hc2 hd2
      have hw := HM.out
      have x1 : wr.cell? ⟨b1, o1 + k * 2, none⟩ = some (.string u) := by rw [hw]; exact hc1
      have x2 : wr.cell? ⟨b1, o1 + k * 2 + 1, none⟩ = some (.string v) := by rw [hw]; exact hc2
      have y1 : wr.cell? ⟨b2, o2 + k * 2, none⟩ = some (.string u) := by rw [hw]; exact hd1
      have y2 : wr.cell? ⟨b2, o2 + k * 2 + 1, none⟩ = some (.string v) := by rw [hw]; exact hd2
      have t1 : (u.toList == u.toList) = true := by simp
      have t2 : (v.toList == v.toList) = true := by simp
      have i1 : (k : Int) < (n : Int) := by omega
      clear hw hc1 hc2 hd1 hd2 hu hv
      go_wp2
      go_quiet (fail)
      go_wp2
      go_roundw
      case rel => exact ⟨k + 1, by omega, by go_num, _, Lib.hid (by rw [HM.out, World.drewN_drewN])⟩
      case measure => simp [intOf]; omega
    · obtain rfl : k = n := by omega
      go_wp2
      go_ret
      exact ⟨rfl, m, HM.out⟩
/-- A slice of fields that came in. -/
theorem fieldsIn_open {H : Type} {enc : TypeId × Value → H} {W : World} {d : DataW H} {p : List MemPlace} {fuel : Nat} {a : Option Addr} {len cap : Nat}
    (hf : DataW.trod enc Tryd.prog W 0 (fun _ => true) true fuel 25 (Value.slice a len cap).cells.toList = some (d, p)) :
    ∃ fs : List (ByteArray × ByteArray), fs.length = len ∧ FieldsIn W.heap.size W a fs ∧ len ≤ maxLen ∧ ∀ j (h : j < fs.length), (fs[j]).1.size ≤ maxLen ∧ (fs[j]).2.size ≤ maxLen := by
  obtain ⟨h1, h2, h3, h4⟩ := structs_open Tryd.underlying25 Tryd.underlying48 (by kernel_rfl) (by kernel_rfl) (by decide) hf
  have hx : ∀ i : Fin len, ∃ f : ByteArray × ByteArray, (∃ b off, a = some ⟨b, off, none⟩ ∧ b < W.heap.size ∧ W.cell? ⟨b, off + i.val * 2, none⟩ = some (.string f.1) ∧ W.cell? ⟨b, off + i.val * 2 + 1, none⟩ = some (.string f.2)) ∧ f.1.size ≤ maxLen ∧ f.2.size ≤ maxLen := by
    intro i
    obtain ⟨b, off, ha, n, hj⟩ := h4 i.val i.isLt
    obtain ⟨v0, y0, hc0, ht0⟩ := hj 0 _ rfl
    obtain ⟨v1, y1, hc1, ht1⟩ := hj 1 _ rfl
    obtain ⟨s0, e0, _, z0⟩ := DataW.trod_string Tryd.underlying9 ht0
    obtain ⟨s1, e1, _, z1⟩ := DataW.trod_string Tryd.underlying9 ht1
    injection e0 with e0 _
    injection e1 with e1 _
    subst e0; subst e1
    refine ⟨(s0, s1), ⟨b, off, ha, ?_, hc0, hc1⟩, z0, z1⟩
    rcases Nat.lt_or_ge b W.heap.size with h' | h'
    · exact h'
    · simp [World.cell?, Array.getElem?_eq_none h'] at hc0
  refine ⟨List.ofFn fun i => Classical.choose (hx i), by simp, ?_, h1, ?_⟩
  · intro k hk
    have hk' : k < len := by simpa using hk
    obtain ⟨⟨b, off, ha, hb, hc, hd⟩, _⟩ := Classical.choose_spec (hx ⟨k, hk'⟩)
    exact ⟨b, off, ha, hb, by simpa using hc, by simpa using hd⟩
  · intro j hj
    have hj' : j < len := by simpa using hj
    have := (Classical.choose_spec (hx ⟨j, hj'⟩)).2
    simpa using this
end Go.Proofs.YtckhjhgddnjfpaaDoor
