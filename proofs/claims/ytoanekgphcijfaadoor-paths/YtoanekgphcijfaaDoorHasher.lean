/-
  THE HASHER IN MEMORY: what its block holds when the bytes m have been written. Own work.
-/
import Derived.Test.YtoanekgphcijfaaDoorCopy
import Derived.Test.YtoanekgphcijfaaDoorSha
namespace Go.Proofs.YtoanekgphcijfaaDoor
open Go.RowKit
open Sha

structure HIs (cs : Array Value) (m : List UInt8) (tot : Nat) : Prop where
  size : cs.size = 74
  st : ∀ j, j < 8 → cs[j]? = some (.int .u32 ((absorb m (m.length / 64)).nth j : Int))
  bys : ∀ j, j < 64 → ∃ x : Nat, x < 256 ∧ cs[8 + j]? = some (.int .u8 (x : Int))
  tail : ∀ j, j < m.length % 64 → cs[8 + j]? = some (bcell (m.getD (64 * (m.length / 64) + j) 0))
  held : cs[72]? = some (.int .i64 ((m.length % 64 : Nat) : Int))
  tot : cs[73]? = some (.int .u64 (tot : Int))

/-- The cells behind 'copy' and 'held += n'. -/
def fed (cs : Array Value) (m c : List UInt8) : Array Value := ((splice cs.toList (8 + m.length % 64) (c.map bcell)).toArray).setIfInBounds 72 (.int .i64 ((m.length % 64 + c.length : Nat) : Int))
theorem fed_at {cs : Array Value} {m c : List UInt8} (hs : cs.size = 74) (hc : m.length % 64 + c.length ≤ 64) (j : Nat) :
    (fed cs m c)[j]? = if j = 72 then some (.int .i64 ((m.length % 64 + c.length : Nat) : Int)) else if j < 8 + m.length % 64 then cs[j]? else if j < 8 + m.length % 64 + c.length then (c[j - (8 + m.length % 64)]?).map bcell else cs[j]? := by
  have hl : 8 + m.length % 64 + (c.map bcell).length ≤ cs.toList.length := by simp [hs]; omega
  have hsz : (splice cs.toList (8 + m.length % 64) (c.map bcell)).length = 74 := by rw [length_splice _ _ _ hl]; simpa using hs
  unfold fed
  by_cases h : j = 72
  · subst h
    rw [Array.getElem?_setIfInBounds_self_of_lt (by simp [hsz]), if_pos rfl]
  · rw [Array.getElem?_setIfInBounds_ne (by omega), if_neg h]
    rw [List.getElem?_toArray, splice_at _ _ _ hl, List.length_map, Array.getElem?_toList, List.getElem?_map]
theorem fed_size {cs : Array Value} {m c : List UInt8} (hs : cs.size = 74) (hc : m.length % 64 + c.length ≤ 64) : (fed cs m c).size = 74 := by
  have hl : 8 + m.length % 64 + (c.map bcell).length ≤ cs.toList.length := by simp [hs]; omega
  unfold fed
  rw [Array.size_setIfInBounds, List.size_toArray, length_splice _ _ _ hl]; simpa using hs
theorem getD_left {l t : List UInt8} {i : Nat} (h : i < l.length) : (l ++ t).getD i 0 = l.getD i 0 := by
  rw [List.getD_eq_getElem?_getD, List.getElem?_append_left h, ← List.getD_eq_getElem?_getD]
theorem getD_right {l t : List UInt8} {i : Nat} (h : l.length ≤ i) : (l ++ t).getD i 0 = t.getD (i - l.length) 0 := by
  rw [List.getD_eq_getElem?_getD, List.getElem?_append_right h, ← List.getD_eq_getElem?_getD]
/-- The block's bytes behind the copy: those of m's tail, then c's. -/
theorem fed_byte {cs : Array Value} {m c : List UInt8} {tot : Nat} (h : HIs cs m tot) (hc : m.length % 64 + c.length ≤ 64) (j : Nat) (hj : j < m.length % 64 + c.length) :
    (fed cs m c)[8 + j]? = some (bcell ((m ++ c).getD (64 * (m.length / 64) + j) 0)) := by
  rw [fed_at h.size hc, if_neg (by omega)]
  by_cases h1 : 8 + j < 8 + m.length % 64
  · rw [if_pos h1, h.tail j (by omega), getD_left (by omega)]
  · rw [if_neg h1, if_pos (by omega), getD_right (by omega)]
    have e : 8 + j - (8 + m.length % 64) = 64 * (m.length / 64) + j - m.length := by omega
    rw [e, List.getElem?_eq_getElem (by omega), Option.map_some, List.getD_eq_getElem?_getD, List.getElem?_eq_getElem (by omega)]; rfl
/-- There is room left: the hasher has m and c. -/
theorem HIs.feed {cs : Array Value} {m c : List UInt8} {tot : Nat} (h : HIs cs m tot) (hc : m.length % 64 + c.length < 64) : HIs (fed cs m c) (m ++ c) tot := by
  have hd : (m ++ c).length / 64 = m.length / 64 := by rw [List.length_append]; omega
  have hm : (m ++ c).length % 64 = m.length % 64 + c.length := by rw [List.length_append]; omega
  refine ⟨fed_size h.size (by omega), ?_, ?_, ?_, ?_, ?_⟩
  · intro j hj
    rw [fed_at h.size (by omega), if_neg (by omega), if_pos (by omega), h.st j hj, hd, absorb_append _ _ _ (by omega)]
  · intro j hj
    by_cases h1 : j < m.length % 64 + c.length
    · exact ⟨_, UInt8.toNat_lt _, fed_byte h (by omega) j h1⟩
    · rw [fed_at h.size (by omega), if_neg (by omega), if_neg (by omega), if_neg (by omega)]
      exact h.bys j hj
  · intro j hj
    rw [hd]; exact fed_byte h (by omega) j (by omega)
  · rw [fed_at h.size (by omega), if_pos rfl, hm]
  · rw [fed_at h.size (by omega), if_neg (by omega), if_neg (by omega), if_neg (by omega)]; exact h.tot
/-- The block is full: what 'mix' is handed. -/
theorem fed_full {cs : Array Value} {m c : List UInt8} {tot : Nat} (h : HIs cs m tot) (hc : m.length % 64 + c.length = 64) :
    (∀ j, j < 8 → (fed cs m c)[j]? = some (.int .u32 ((absorb m (m.length / 64)).nth j : Int))) ∧ (∀ j, j < 64 → (fed cs m c)[8 + j]? = some (.int .u8 ((blk (m ++ c) (m.length / 64) j : Nat) : Int))) := by
  constructor
  · intro j hj
    rw [fed_at h.size (by omega), if_neg (by omega), if_pos (by omega), h.st j hj]
  · intro j hj
    rw [fed_byte h (by omega) j (by omega), blk, if_pos hj]; rfl
/-- Behind 'mix' and 'held = 0'. -/
theorem HIs.mixed {cs cs' : Array Value} {m c : List UInt8} {tot : Nat} (h : HIs cs m tot) (hc : m.length % 64 + c.length = 64) (hsz : cs'.size = 74)
    (hst : ∀ j, j < 8 → cs'[j]? = some (.int .u32 ((compress (absorb m (m.length / 64)) (blk (m ++ c) (m.length / 64))).nth j : Int))) (hrest : ∀ j, 8 ≤ j → cs'[j]? = (fed cs m c)[j]?) :
    HIs (cs'.setIfInBounds 72 (.int .i64 0)) (m ++ c) tot := by
  have hd : (m ++ c).length / 64 = m.length / 64 + 1 := by rw [List.length_append]; omega
  have hm : (m ++ c).length % 64 = 0 := by rw [List.length_append]; omega
  refine ⟨by simpa using hsz, ?_, ?_, ?_, ?_, ?_⟩
  · intro j hj
    rw [Array.getElem?_setIfInBounds_ne (by omega), hst j hj, hd]
    simp only [absorb]
    rw [absorb_append _ _ _ (by omega)]
  · intro j hj
    rw [Array.getElem?_setIfInBounds_ne (by omega), hrest _ (by omega), (fed_full h hc).2 j hj]
    exact ⟨_, blk_lt _ _ _, rfl⟩
  · intro j hj; omega
  · rw [Array.getElem?_setIfInBounds_self_of_lt (by omega), hm]; rfl
  · rw [Array.getElem?_setIfInBounds_ne (by omega), hrest _ (by omega), fed_at h.size (by omega), if_neg (by omega), if_neg (by omega), if_neg (by omega)]; exact h.tot
theorem HIs.total {cs : Array Value} {m : List UInt8} {tot : Nat} (h : HIs cs m tot) (t : Nat) : HIs (cs.setIfInBounds 73 (.int .u64 (t : Int))) m t := by
  refine ⟨by simpa using h.size, ?_, ?_, ?_, ?_, ?_⟩
  · intro j hj; rw [Array.getElem?_setIfInBounds_ne (by omega)]; exact h.st j hj
  · intro j hj; rw [Array.getElem?_setIfInBounds_ne (by omega)]; exact h.bys j hj
  · intro j hj; rw [Array.getElem?_setIfInBounds_ne (by omega)]; exact h.tail j hj
  · rw [Array.getElem?_setIfInBounds_ne (by omega)]; exact h.held
  · rw [Array.getElem?_setIfInBounds_self_of_lt (by have := h.size; omega)]
end Go.Proofs.YtoanekgphcijfaaDoor
