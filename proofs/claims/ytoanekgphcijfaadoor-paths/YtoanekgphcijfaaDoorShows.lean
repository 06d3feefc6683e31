/-
  PLAIN MATHEMATICS: what a list shows (looked at from its end). Own work.
-/
import Derived.Test.YtoanekgphcijfaaDoorTree
namespace Go.Proofs.YtoanekgphcijfaaDoor.Sha

/-- The root of n leaves whose i-th is leaf; the list's hashes from the last one on. -/
def showR (leaf : List UInt8) : Nat → Nat → List (List UInt8) → Option (List UInt8)
  | _, n, [] => if n = 1 then some leaf else none
  | i, n, last :: r => if n = 1 then none else if i < spl n then (showR leaf i (spl n) r).map (nodeH · last) else (showR leaf (i - spl n) (n - spl n) r).map (nodeH last ·)
/-- Both roots: of the first m, and of n leaves. -/
def bothR (old : List UInt8) : Nat → Nat → Bool → List (List UInt8) → Option (List UInt8 × List UInt8)
  | m, n, all, [] => if m = n ∧ all = true then some (old, old) else none
  | m, n, all, last :: r =>
    if m = n then (if all = true then none else if r = [] then some (last, last) else none)
    else if m ≤ spl n then (bothR old m (spl n) all r).map fun p => (p.1, nodeH p.2 last)
    else (bothR old (m - spl n) (n - spl n) false r).map fun p => (nodeH last p.1, nodeH last p.2)
def inclB (leaf : List UInt8) (i n : Int) (rl : List (List UInt8)) (root : List UInt8) : Bool :=
  decide (0 ≤ i ∧ i < n ∧ n ≤ 1073741824) && decide (showR leaf i.toNat n.toNat rl = some root)
def extB (m n : Int) (old now : List UInt8) (rl : List (List UInt8)) : Bool :=
  decide (1 ≤ m ∧ m ≤ n ∧ n ≤ 1073741824) && decide (bothR old m.toNat n.toNat true rl = some (old, now))
theorem spl_two : spl 2 = 1 := by decide
theorem incl_two (x y : List UInt8) : inclB y 1 2 [x] (nodeH x y) = true := by
  simp [inclB, showR, spl_two]
theorem ext_two (x y : List UInt8) : extB 1 2 x (nodeH x y) [y] = true := by
  simp [extB, bothR, spl_two]
end Go.Proofs.YtoanekgphcijfaaDoor.Sha
