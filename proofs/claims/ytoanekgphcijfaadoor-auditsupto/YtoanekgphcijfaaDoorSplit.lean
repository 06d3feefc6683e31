/-
  THE GREATEST POWER OF 2 BELOW n. Plain. Own work.
-/
import Derived.Lib.BitFns
namespace Go.Proofs.YtoanekgphcijfaaDoor.Sha
open Go

def spl (n : Nat) : Nat := 2 ^ Nat.log2 (n - 1)
theorem spl_pos (n : Nat) : 0 < spl n := Nat.two_pow_pos _
theorem spl_lt (n : Nat) (h : 2 ≤ n) : spl n < n := by
  have := Nat.log2_self_le (n := n - 1) (by omega)
  unfold spl; omega
theorem spl_ge (n : Nat) (h : 2 ≤ n) : n ≤ 2 * spl n := by
  have := Nat.lt_log2_self (n := n - 1)
  unfold spl; rw [Nat.pow_succ] at this; omega
theorem spl_of (n j : Nat) (h1 : 2 ^ j < n) (h2 : n ≤ 2 ^ (j + 1)) : spl n = 2 ^ j := by
  have h0 := Nat.two_pow_pos j
  have : Nat.log2 (n - 1) = j := (Nat.log2_eq_iff (by omega)).2 ⟨by omega, by omega⟩
  unfold spl; rw [this]
theorem bitLen_log : ∀ (k x : Nat), x < 2 ^ k → k ≤ 64 → 0 < x → Lib.bitLen x = Nat.log2 x + 1 := by
  intro k
  induction k with
  | zero => intro x h _ h0; simp at h; omega
  | succ k ih =>
    intro x h hk h0
    have hb : x < 2 ^ 64 := Nat.lt_of_lt_of_le h (Nat.pow_le_pow_right (by omega) hk)
    rw [Lib.bitLen_half x (by omega) hb]
    by_cases h1 : x = 1
    · subst h1; decide
    · rw [ih (x / 2) (by rw [Nat.pow_succ] at h; omega) (by omega) (by omega), Nat.log2_def x, if_pos (by omega)]; omega
end Go.Proofs.YtoanekgphcijfaaDoor.Sha
