import Derived.Test.YtoanekgphcijfaaDoorA4
namespace Go.Proofs.YtoanekgphcijfaaDoor
open Go.RowKit
open Sha

theorem results_roots {fn : Func} {p u : Tmp} (h : fn.results = #[.cell p 116, .tmp u]) (tmps : Array Value) (w : World) (g : Nat) (x y : Value)
    (hp : tmps.getD p undef = .pointer (some ⟨g, 0, none⟩)) (hr : Row w g 116 #[x, y]) :
    (results fn tmps).run Tryd.prog w = .ok (.tuple #[.agg #[x, y], tmps.getD u undef]) w := by
  rw [results_cell_tmp h, hp]
  have hl := run_loadVar_row (P := Tryd.prog) w g 116 116 #[x, y] (0, 0) _ hr Tryd.underlying116 rfl (by kernel_rfl)
  simp [asAddr, Result.andThen, hl]
/-- What the look at a part gives, as the program hands it back. -/
def Roots (o : Option (List UInt8 × List UInt8)) (w : World) (e : Ending) (w' : World) : Prop := ∃ s t b, e = .returned (.tuple #[.agg #[.string s, .string t], .bool b]) ∧ Told2 o s t b ∧ s.size ≤ 140737488355328 ∧ t.size ≤ 140737488355328 ∧ Below w.heap.size w w'
theorem oldAll_any (rs : List ByteArray) (m : Nat) (ao : Option Addr) (cap : Nat) (old : ByteArray) (w : World) (hn : rs.length ≤ 140737488355328) (ho : old.size ≤ 140737488355328) :
    Calls Tryd.prog 106 #[.slice ao rs.length cap, .string old, .bool true] w (Roots (bothR old.data.toList m m true (tol rs)) w) := by
  cases rs with
  | nil =>
    have HO : Hid (Told2 (bothR old.data.toList m m true (tol [])) old old true) := Or.inr ⟨_, _, bothR_all_nil _ _, rfl, (str_of old).symm, (str_of old).symm⟩
    show Calls Tryd.prog 106 #[.slice ao 0 cap, .string old, .bool true] w _
    go_enter Tryd.func106, Tryd.ntmps106
    go_wp2
    refine bodyPost_ret (results_roots rfl _ _ w.heap.size (.string old) (.string old) rfl (Row.new _ _ _)) rfl ?_
    exact ⟨_, _, _, rfl, HO.out, ho, ho, (Below.refl _ _).alloc (Nat.le_refl _) _⟩
  | cons x r =>
    have HO : Hid (Told2 (bothR old.data.toList m m true (tol (x :: r))) old old false) := Or.inl ⟨bothR_all_cons _ _ _ _, rfl⟩
    rw [List.length_cons] at hn ⊢
    go_enter Tryd.func106, Tryd.ntmps106
    go_wp2
    refine bodyPost_ret (results_roots rfl _ _ w.heap.size (.string old) (.string old) rfl (Row.new _ _ _)) rfl ?_
    exact ⟨_, _, _, rfl, HO.out, ho, ho, (Below.refl _ _).alloc (Nat.le_refl _) _⟩
theorem oldNot_any (rs : List ByteArray) (m : Nat) (ao : Option Addr) (cap : Nat) (old : ByteArray) (w : World) (hc : rs.length ≤ cap) (hn : rs.length ≤ 140737488355328) (hS : Strs w ao rs.reverse) (hs : ∀ s ∈ rs, s.size ≤ 140737488355328) :
    Calls Tryd.prog 106 #[.slice ao rs.length cap, .string old, .bool false] w (Roots (bothR old.data.toList m m false (tol rs)) w) := by
  match rs, hc, hn, hS, hs with
  | [], hc, hn, hS, hs =>
    have HO : Hid (Told2 (bothR old.data.toList m m false (tol [])) ⟨#[]⟩ ⟨#[]⟩ false) := Or.inl ⟨bothR_not_nil _ _, rfl⟩
    clear hS hs
    show Calls Tryd.prog 106 #[.slice ao 0 cap, .string old, .bool false] w _
    go_enter Tryd.func106, Tryd.ntmps106
    go_wp2
    refine bodyPost_ret (results_roots rfl _ _ w.heap.size (.string ⟨#[]⟩) (.string ⟨#[]⟩) rfl (Row.new _ _ _)) rfl ?_
    exact ⟨_, _, _, rfl, HO.out, by show 0 ≤ _; omega, by show 0 ≤ _; omega, (Below.refl _ _).alloc (Nat.le_refl _) _⟩
  | [x], hc, hn, hS, hs =>
    obtain ⟨g, o, rfl, hg, hcell⟩ := hS.last
    have hx := hs x (by simp)
    have hcell' : w.cell? ⟨g, o, none⟩ = some (.string x) := hcell
    have HO : Hid (Told2 (bothR old.data.toList m m false (tol [x])) x x true) := Or.inr ⟨_, _, bothR_not_one _ _ _, rfl, (str_of x).symm, (str_of x).symm⟩
    clear hS hs hcell
    show Calls Tryd.prog 106 #[.slice (some ⟨g, o, none⟩) 1 cap, .string old, .bool false] w _
    go_enter Tryd.func106, Tryd.ntmps106
    go_wp2
    go_region
    all_goals
      go_wp2
      refine bodyPost_ret (results_roots rfl _ _ w.heap.size (.string x) (.string x) rfl (Row.new _ _ _)) rfl ?_
      exact ⟨_, _, _, rfl, HO.out, hx, hx, ((Below.refl _ _).alloc (Nat.le_refl _) _).drew⟩
  | x :: y :: r, hc, hn, hS, hs =>
    have HO : Hid (Told2 (bothR old.data.toList m m false (tol (x :: y :: r))) ⟨#[]⟩ ⟨#[]⟩ false) := Or.inl ⟨bothR_not_more _ _ _ _ _, rfl⟩
    clear hS hs
    rw [List.length_cons, List.length_cons] at hc hn ⊢
    go_enter Tryd.func106, Tryd.ntmps106
    go_wp2
    refine bodyPost_ret (results_roots rfl _ _ w.heap.size (.string ⟨#[]⟩) (.string ⟨#[]⟩) rfl (Row.new _ _ _)) rfl ?_
    exact ⟨_, _, _, rfl, HO.out, by show 0 ≤ _; omega, by show 0 ≤ _; omega, (Below.refl _ _).alloc (Nat.le_refl _) _⟩
theorem old_any (rs : List ByteArray) (m : Nat) (ao : Option Addr) (cap : Nat) (old : ByteArray) (all : Bool) (w : World) (hc : rs.length ≤ cap) (hn : rs.length ≤ 140737488355328) (hS : Strs w ao rs.reverse) (hs : ∀ s ∈ rs, s.size ≤ 140737488355328) (ho : old.size ≤ 140737488355328) :
    Calls Tryd.prog 106 #[.slice ao rs.length cap, .string old, .bool all] w (Roots (bothR old.data.toList m m all (tol rs)) w) := by
  cases all
  · exact oldNot_any rs m ao cap old w hc hn hS hs
  · exact oldAll_any rs m ao cap old w hn ho
end Go.Proofs.YtoanekgphcijfaaDoor
