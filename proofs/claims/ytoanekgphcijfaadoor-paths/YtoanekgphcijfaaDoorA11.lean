import Derived.Test.YtoanekgphcijfaaDoorR5
namespace Go.Proofs.YtoanekgphcijfaaDoor
open Go.RowKit
open Sha

theorem hidden {p : Prop} (h : p) : Hid p := h
theorem Row.newAt (w : World) (t : TypeId) (cs : Array Value) (n : Nat) (h : w.heap.size = n) : Row (w.alloc (.cells cs t)) n t cs := by
  subst h; exact Row.new _ _ _
theorem Row.three {w : World} {b : Nat} {t : TypeId} {a c e : Value} (h : Row w b t #[a, c, e]) (x y z : Value) : Row (((w.setCell ⟨b, 0, none⟩ x).setCell ⟨b, 1, none⟩ y).setCell ⟨b, 2, none⟩ z) b t #[x, y, z] := ((h.setCell 0 x).setCell 1 y).setCell 2 z
theorem Row.four {w : World} {b : Nat} {t : TypeId} {a c e f : Value} (h : Row w b t #[a, c, e, f]) (x y z u : Value) : Row ((((w.setCell ⟨b, 0, none⟩ x).setCell ⟨b, 1, none⟩ y).setCell ⟨b, 2, none⟩ z).setCell ⟨b, 3, none⟩ u) b t #[x, y, z, u] := (((h.setCell 0 x).setCell 1 y).setCell 2 z).setCell 3 u
theorem Row.other3 {w : World} {c : Nat} {t : TypeId} {cs : Array Value} (h : Row w c t cs) {b : Nat} (hn : c ≠ b) (x y z : Value) : Row (((w.setCell ⟨b, 0, none⟩ x).setCell ⟨b, 1, none⟩ y).setCell ⟨b, 2, none⟩ z) c t cs := ((h.other (a := ⟨b, 0, none⟩) hn x).other (a := ⟨b, 1, none⟩) hn y).other (a := ⟨b, 2, none⟩) hn z
theorem Row.other4 {w : World} {c : Nat} {t : TypeId} {cs : Array Value} (h : Row w c t cs) {b : Nat} (hn : c ≠ b) (x y z u : Value) : Row ((((w.setCell ⟨b, 0, none⟩ x).setCell ⟨b, 1, none⟩ y).setCell ⟨b, 2, none⟩ z).setCell ⟨b, 3, none⟩ u) c t cs := (((h.other (a := ⟨b, 0, none⟩) hn x).other (a := ⟨b, 1, none⟩) hn y).other (a := ⟨b, 2, none⟩) hn z).other (a := ⟨b, 3, none⟩) hn u
theorem bel_set3 {B : Nat} {a w : World} (h : Below B a w) {b : Nat} (hB : B ≤ b) (x y z : Value) : Below B a (((w.setCell ⟨b, 0, none⟩ x).setCell ⟨b, 1, none⟩ y).setCell ⟨b, 2, none⟩ z) := ((h.setCell (p := ⟨b, 0, none⟩) hB x).setCell (p := ⟨b, 1, none⟩) hB y).setCell (p := ⟨b, 2, none⟩) hB z
theorem bel_set4 {B : Nat} {a w : World} (h : Below B a w) {b : Nat} (hB : B ≤ b) (x y z u : Value) : Below B a ((((w.setCell ⟨b, 0, none⟩ x).setCell ⟨b, 1, none⟩ y).setCell ⟨b, 2, none⟩ z).setCell ⟨b, 3, none⟩ u) := (((h.setCell (p := ⟨b, 0, none⟩) hB x).setCell (p := ⟨b, 1, none⟩) hB y).setCell (p := ⟨b, 2, none⟩) hB z).setCell (p := ⟨b, 3, none⟩) hB u
theorem results_cells3 {fn : Func} {p q r : Tmp} {tp tq tr : TypeId} (h : fn.results = #[.cell p tp, .cell q tq, .cell r tr]) (tmps : Array Value) (P : Program) (w : World) :
    (results fn tmps).run P w = ((asAddr (tmps.getD p undef)).run P w).andThen fun a w₁ => ((loadVar tp a).run P w₁).andThen fun v w₂ => ((asAddr (tmps.getD q undef)).run P w₂).andThen fun a w₃ => ((loadVar tq a).run P w₃).andThen fun u w₄ => ((asAddr (tmps.getD r undef)).run P w₄).andThen fun a w₅ => ((loadVar tr a).run P w₅).andThen fun x w₆ => .ok (.tuple #[v, u, x]) w₆ := by
  simp only [results, h]
  simp [Sem.run_bind, Result.andThen]
theorem results_signed {fn : Func} {p q r : Tmp} (h : fn.results = #[.cell p 30, .cell q 32, .cell r 32]) (tmps : Array Value) (w : World) (g1 g2 g3 : Nat) (a0 a1 a2 b0 b1 b2 b3 c0 c1 c2 c3 : Value)
    (hp : tmps.getD p undef = .pointer (some ⟨g1, 0, none⟩)) (hq : tmps.getD q undef = .pointer (some ⟨g2, 0, none⟩)) (hr : tmps.getD r undef = .pointer (some ⟨g3, 0, none⟩))
    (r1 : Row w g1 30 #[a0, a1, a2]) (r2 : Row w g2 32 #[b0, b1, b2, b3]) (r3 : Row w g3 32 #[c0, c1, c2, c3]) :
    (results fn tmps).run Tryd.prog w = .ok (.tuple #[.agg #[a0, a1, a2], .agg #[b0, b1, b2, b3], .agg #[c0, c1, c2, c3]]) w := by
  rw [results_cells3 h, hp, hq, hr]
  have l1 := run_loadVar_row (P := Tryd.prog) w g1 30 30 #[a0, a1, a2] (0, 0) _ r1 Tryd.underlying30 rfl (by kernel_rfl)
  have l2 := run_loadVar_row (P := Tryd.prog) w g2 32 32 #[b0, b1, b2, b3] (0, 0) _ r2 Tryd.underlying32 rfl (by kernel_rfl)
  have l3 := run_loadVar_row (P := Tryd.prog) w g3 32 32 #[c0, c1, c2, c3] (0, 0) _ r3 Tryd.underlying32 rfl (by kernel_rfl)
  simp [asAddr, Result.andThen, l1, l2, l3]
end Go.Proofs.YtoanekgphcijfaaDoor
