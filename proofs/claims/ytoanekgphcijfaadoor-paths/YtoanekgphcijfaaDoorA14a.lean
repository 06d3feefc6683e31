import Derived.Test.YtoanekgphcijfaaDoorA11
import Derived.Test.YtoanekgphcijfaaDoorL1
namespace Go.Proofs.YtoanekgphcijfaaDoor
open Go.RowKit
open Sha

/-- What roomy hands back, of a list or of none. -/
def Roomed (ss : List ByteArray) (ao ao' : Option Addr) (cap' : Nat) (w : World) : Prop :=
  (ao = none ∧ ao' = none ∧ cap' = 0 ∧ ss = []) ∨ ∃ ad G, ao = some ad ∧ ao' = some ⟨G, 0, none⟩ ∧ cap' = ss.length + 8 ∧ Row w G 9 (roomRow ss 8)
theorem Row.strs {w : World} {G : Nat} {ss : List ByteArray} {k : Nat} (hr : Row w G 9 (roomRow ss k)) : Strs w (some ⟨G, 0, none⟩) ss := fun j hj => ⟨G, 0, rfl, hr.lt, by rw [hr.cell, Nat.zero_add]; exact roomRow_low _ _ _ hj⟩
theorem Roomed.below {ss : List ByteArray} {ao ao' : Option Addr} {cap' : Nat} {w w' : World} (h : Roomed ss ao ao' cap' w) (hb : Below w.heap.size w w') : Roomed ss ao ao' cap' w' := by
  rcases h with h | ⟨ad, G, h1, h2, h3, h4⟩
  · exact Or.inl h
  · exact Or.inr ⟨ad, G, h1, h2, h3, h4.below hb h4.lt⟩
theorem Roomed.strs {ss : List ByteArray} {ao ao' : Option Addr} {cap' : Nat} {w : World} (h : Roomed ss ao ao' cap' w) : Strs w ao' ss := by
  rcases h with ⟨_, _, _, h⟩ | ⟨ad, G, h1, h2, h3, h4⟩
  · subst h; exact fun j hj => absurd hj (by simp)
  · subst h2; exact h4.strs
theorem Roomed.cap {ss : List ByteArray} {ao ao' : Option Addr} {cap' : Nat} {w : World} (h : Roomed ss ao ao' cap' w) : ss.length ≤ cap' := by
  rcases h with ⟨_, _, h2, h⟩ | ⟨ad, G, h1, h2, h3, h4⟩
  · subst h; subst h2; simp
  · omega
theorem roomyC (ss : List ByteArray) (n : Nat) (hn : ss.length = n) (ao : Option Addr) (cap : Nat) (hnil : ao = none → ss = []) (hc : n ≤ cap) (hm : n * 16 ≤ 140737488351232) (wx : World) (hS : Strs wx ao ss) :
    Calls Tryd.prog 10 #[.slice ao n cap] wx fun r w' => ∃ ao' cap', r = .returned (.slice ao' n cap') ∧ Roomed ss ao ao' cap' w' ∧ Below wx.heap.size wx w' := by
  subst hn
  cases ao with
  | none =>
    have h := hnil rfl
    subst h
    refine (roomy_nil wx _ cap).mono ?_
    rintro e w' ⟨rfl, rfl⟩
    exact ⟨none, 0, rfl, Or.inl ⟨rfl, rfl, rfl, rfl⟩, Below.refl _ _⟩
  | some ad =>
    refine (roomy_any ss ad cap wx hc hm hS).mono ?_
    rintro e w' ⟨rfl, hr, hb⟩
    exact ⟨_, _, rfl, Or.inr ⟨ad, _, rfl, rfl, rfl, hr⟩, hb⟩
theorem wholeC (ss : List ByteArray) (n : Nat) (hn : ss.length = n) (ao ao' : Option Addr) (cap cap' : Nat) (hm : n * 16 ≤ 140737488351232) (wx : World) (hS : Strs wx ao ss) (hR : Roomed ss ao ao' cap' wx) :
    Calls Tryd.prog 12 #[.slice ao' n cap', .slice ao n cap] wx fun r w' => r = .returned (.bool true) ∧ Below wx.heap.size wx w' := by
  subst hn
  rcases hR with ⟨h1, h2, h3, h4⟩ | ⟨ad, G, h1, h2, h3, h4⟩
  · subst h1 h2 h3 h4
    refine (whole_nil wx _ cap).mono ?_
    rintro e w' ⟨rfl, rfl⟩
    exact ⟨rfl, Below.refl _ _⟩
  · subst h1 h2 h3
    refine (whole_any ss ad cap G wx hm hS h4).mono ?_
    rintro e w' ⟨rfl, n, rfl⟩
    exact ⟨rfl, bel_drewN _ _ _⟩
end Go.Proofs.YtoanekgphcijfaaDoor
