/-
  PLAIN MATHEMATICS: tags and the tree. Own work.
-/
import Derived.Test.YtoanekgphcijfaaDoorSha
import Derived.Test.YtoanekgphcijfaaDoorSplit
namespace Go.Proofs.YtoanekgphcijfaaDoor.Sha

def leafH (e : List UInt8) : List UInt8 := sha (0 :: e)
def nodeH (a b : List UInt8) : List UInt8 := sha (1 :: (a ++ b))
/-- The root of a list of leaves' hashes (fuel: as many as there are). -/
def rootF : Nat → List (List UInt8) → List UInt8
  | 0, _ => sha []
  | f + 1, l => if l.length = 0 then sha [] else if l.length = 1 then l.getD 0 [] else nodeH (rootF f (l.take (spl l.length))) (rootF f (l.drop (spl l.length)))
theorem rootF_fuel : ∀ (f g : Nat) (l : List (List UInt8)), l.length ≤ f → l.length ≤ g → rootF f l = rootF g l := by
  intro f
  induction f with
  | zero =>
    intro g l hf hg
    have : l.length = 0 := by omega
    cases g with
    | zero => rfl
    | succ g => simp [rootF, this]
  | succ f ih =>
    intro g l hf hg
    cases g with
    | zero =>
      have : l.length = 0 := by omega
      simp [rootF, this]
    | succ g =>
      simp only [rootF]
      by_cases h0 : l.length = 0
      · rw [if_pos h0, if_pos h0]
      · by_cases h1 : l.length = 1
        · rw [if_neg h0, if_neg h0, if_pos h1, if_pos h1]
        · have h2 := spl_lt l.length (by omega)
          have h3 := spl_pos l.length
          rw [if_neg h0, if_neg h0, if_neg h1, if_neg h1, ih g (l.take (spl l.length)) (by rw [List.length_take]; omega) (by rw [List.length_take]; omega), ih g (l.drop (spl l.length)) (by rw [List.length_drop]; omega) (by rw [List.length_drop]; omega)]
def root (l : List (List UInt8)) : List UInt8 := rootF l.length l
theorem root_nil : root [] = sha [] := rfl
theorem root_one (x : List UInt8) : root [x] = x := rfl
theorem root_node (l : List (List UInt8)) (h : 2 ≤ l.length) : root l = nodeH (root (l.take (spl l.length))) (root (l.drop (spl l.length))) := by
  have h2 := spl_lt l.length h
  have h3 := spl_pos l.length
  have e : root l = rootF (l.length + 1) l := rootF_fuel _ _ _ (Nat.le_refl _) (by omega)
  rw [e, rootF, if_neg (by omega), if_neg (by omega)]
  unfold root
  rw [rootF_fuel l.length (l.take (spl l.length)).length (l.take (spl l.length)) (by rw [List.length_take]; omega) (Nat.le_refl _), rootF_fuel l.length (l.drop (spl l.length)).length (l.drop (spl l.length)) (by rw [List.length_drop]; omega) (Nat.le_refl _)]
theorem root_length (l : List (List UInt8)) (hl : ∀ x ∈ l, x.length = 32) : (root l).length = 32 := by
  unfold root
  cases h : l.length with
  | zero => exact sha_length _
  | succ n =>
    simp only [rootF]
    split
    · exact sha_length _
    · split
      · match l, h with
        | x :: _, _ => exact hl x (by simp)
      · exact sha_length _
/-- A key of at most 64 bytes, filled up and turned by a pad. -/
def padKey (key : List UInt8) (p : UInt8) : List UInt8 := (List.range 64).map fun i => key.getD i 0 ^^^ p
def shortKey (key : List UInt8) : List UInt8 := if 64 < key.length then sha key else key
def hmac (key text : List UInt8) : List UInt8 := sha (padKey (shortKey key) 92 ++ sha (padKey (shortKey key) 54 ++ text))
theorem padKey_length (key : List UInt8) (p : UInt8) : (padKey key p).length = 64 := by simp [padKey]
theorem shortKey_le (key : List UInt8) : (shortKey key).length ≤ 64 := by
  unfold shortKey; split
  · rw [sha_length]; omega
  · omega
theorem hmac_length (key text : List UInt8) : (hmac key text).length = 32 := sha_length _
end Go.Proofs.YtoanekgphcijfaaDoor.Sha
