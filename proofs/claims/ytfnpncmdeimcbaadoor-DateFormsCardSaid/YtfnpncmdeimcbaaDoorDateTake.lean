/-
  One number of a date.
-/
import Derived.Test.YtfnpncmdeimcbaaDoorDateNumber
namespace Go.Proofs.YtfnpncmdeimcbaaDoor
open Go.RowKit DateMath

set_option maxRecDepth 100000 in
set_option maxHeartbeats 4000000 in
/-- take: the number goes into g's cell j, the flag into f's cell. -/
theorem take_any (s : ByteArray) (g j f : Nat) (old : Value) (b : Bool) (w : World) (hs : s.size ≤ 9223372036854775807) (hgf : g ≠ f)
    (hg : w.cell? ⟨g, j, none⟩ = some old) (hgz : w.frozen? ⟨g, j, none⟩ = false) (hf : w.cell? ⟨f, 0, none⟩ = some (.bool b)) (hfz : w.frozen? ⟨f, 0, none⟩ = false) :
    Calls Tryd.prog 35 #[.string s, .pointer (some ⟨g, j, none⟩), .pointer (some ⟨f, 0, none⟩)] w fun e w' => e = .returned (.tuple #[]) ∧ w' = (w.setCell ⟨g, j, none⟩ (.int .i64 ((numF s.data.toList 4).getD 0 : Nat))).setCell ⟨f, 0, none⟩ (.bool (b && (numF s.data.toList 4).isSome)) := by
  have c := numberD_any s 4 w (by decide) hs
  unfold numV at c
  obtain ⟨n, hn⟩ : ∃ n, (numF s.data.toList 4).getD 0 = n := ⟨_, rfl⟩
  obtain ⟨o, ho⟩ : ∃ o, (numF s.data.toList 4).isSome = o := ⟨_, rfl⟩
  rw [hn, ho] at c ⊢
  have C := Lib.hid c
  have hf2 : (w.setCell ⟨g, j, none⟩ (.int .i64 n)).cell? ⟨f, 0, none⟩ = some (.bool b) := (World.cell?_setCell_other _ ⟨g, j, none⟩ ⟨f, 0, none⟩ _ (fun h => hgf (by cases h; rfl))).trans hf
  have hfz2 : (w.setCell ⟨g, j, none⟩ (.int .i64 n)).frozen? ⟨f, 0, none⟩ = false := by simpa using hfz
  have HGF := Lib.hid hgf
  clear hn ho c hgf
  cases b
  · go_enter Tryd.func35, Tryd.ntmps35
    go_wp2_with fail
    refine C.out.mono ?_
    rintro e w' ⟨rfl, hw'⟩
    replace hw' := hw'.symm
    subst hw'
    go_wp2
    go_end0
    exact ⟨rfl, rfl⟩
  · go_enter Tryd.func35, Tryd.ntmps35
    go_wp2_with fail
    refine C.out.mono ?_
    rintro e w' ⟨rfl, hw'⟩
    replace hw' := hw'.symm
    subst hw'
    go_wp2
    go_end0
    exact ⟨rfl, rfl⟩
end Go.Proofs.YtfnpncmdeimcbaaDoor
