import Derived.Test.YtoanekgphcijfaaDoorW8
import Derived.Deep.RegionWith
namespace Go.Proofs.YtoanekgphcijfaaDoor
open Go.RowKit
open Sha

set_option maxHeartbeats 1000000 in
theorem dtag_short (key text : ByteArray) (w : World) (hk : key.size ≤ 64) (ht : text.size < 2305843009213693000) (hK : Tab w) (h0 : 0 < w.heap.size) :
    Calls Tryd.prog 37 #[.string key, .string text] w fun r w' => r = .returned (.string (str (sha (padKey key.data.toList 92 ++ sha (padKey key.data.toList 54 ++ text.data.toList))))) ∧ Below w.heap.size w w' := by
  go_enter Tryd.func37, Tryd.ntmps37
  go_wp2_with fail
  refine (padKey_any key 54 _ rfl _ hk).mono ?_
  rintro e w1 ⟨rfl, hb1⟩
  have hK1 := hK.below hb1 h0
  have hs1 := hb1.size
  go_wp2_with fail
  refine (sum_lit w1 [str (padKey key.data.toList 54), text] 2 hK1 (by omega) (by rw [flat2, List.length_append, str_toList, padKey_length, size_toList]; omega) (by simp)).mono ?_
  rintro e w2 ⟨rfl, hb2⟩
  have hb2' := hb1.trans (hb2.mono hs1)
  have hs2 := hb2'.size
  have hK2 := hK.below hb2' h0
  go_wp2_with fail
  refine (padKey_any key 92 _ rfl _ hk).mono ?_
  rintro e w3 ⟨rfl, hb3⟩
  have hb3' := hb2'.trans (hb3.mono hs2)
  have hs3 := hb3'.size
  have hK3 := hK.below hb3' h0
  go_wp2_with fail
  refine (sum_lit w3 [str (padKey key.data.toList 92), str (sha (flat [str (padKey key.data.toList 54), text]))] 2 hK3 (by omega) (by rw [flat2, List.length_append, str_toList, str_toList, padKey_length, sha_length]; omega) (by simp)).mono ?_
  rintro e w4 ⟨rfl, hb4⟩
  have hb4' := hb3'.trans (hb4.mono hs3)
  have HF : Hid (flat [str (padKey key.data.toList 92), str (sha (flat [str (padKey key.data.toList 54), text]))] = padKey key.data.toList 92 ++ sha (padKey key.data.toList 54 ++ text.data.toList)) := by
    show _ = _
    rw [flat2, flat2, str_toList, str_toList, str_toList]
  clear hb2 hb3 hb4 hb1 hb2' hb3' hK1 hK2 hK3
  go_wp2
  go_ret
  exact ⟨by rw [HF.out]; rfl, hb4'⟩
set_option maxHeartbeats 1000000 in
theorem dtag_long (key text : ByteArray) (w : World) (hk : 64 < key.size) (hk' : key.size < 2305843009213693000) (ht : text.size < 2305843009213693000) (hK : Tab w) (h0 : 0 < w.heap.size) :
    Calls Tryd.prog 37 #[.string key, .string text] w fun r w' => r = .returned (.string (str (sha (padKey (sha key.data.toList) 92 ++ sha (padKey (sha key.data.toList) 54 ++ text.data.toList))))) ∧ Below w.heap.size w w' := by
  go_enter Tryd.func37, Tryd.ntmps37
  go_wp2_with fail
  refine (sum_lit w [key] 1 hK h0 (by rw [flat1, size_toList]; omega) (by simp)).mono ?_
  rintro e w0 ⟨rfl, hb0⟩
  rw [flat1]
  have hK0 := hK.below hb0 h0
  have hs0 := hb0.size
  have hk2 : (str (sha key.data.toList)).size ≤ 64 := by rw [str_size, sha_length]; omega
  have HK2 : Hid ((str (sha key.data.toList)).data.toList = sha key.data.toList) := str_toList _
  generalize str (sha key.data.toList) = k2 at *
  go_wp2_with fail
  refine (padKey_any k2 54 _ rfl _ hk2).mono ?_
  rintro e w1 ⟨rfl, hb1'⟩
  have hb1 := hb0.trans (hb1'.mono hs0)
  have hK1 := hK.below hb1 h0
  have hs1 := hb1.size
  go_wp2_with fail
  refine (sum_lit w1 [str (padKey k2.data.toList 54), text] 2 hK1 (by omega) (by rw [flat2, List.length_append, str_toList, padKey_length, size_toList]; omega) (by simp)).mono ?_
  rintro e w2 ⟨rfl, hb2⟩
  have hb2' := hb1.trans (hb2.mono hs1)
  have hs2 := hb2'.size
  have hK2 := hK.below hb2' h0
  go_wp2_with fail
  refine (padKey_any k2 92 _ rfl _ hk2).mono ?_
  rintro e w3 ⟨rfl, hb3⟩
  have hb3' := hb2'.trans (hb3.mono hs2)
  have hs3 := hb3'.size
  have hK3 := hK.below hb3' h0
  go_wp2_with fail
  refine (sum_lit w3 [str (padKey k2.data.toList 92), str (sha (flat [str (padKey k2.data.toList 54), text]))] 2 hK3 (by omega) (by rw [flat2, List.length_append, str_toList, str_toList, padKey_length, sha_length]; omega) (by simp)).mono ?_
  rintro e w4 ⟨rfl, hb4⟩
  have hb4' := hb3'.trans (hb4.mono hs3)
  have HF : Hid (flat [str (padKey k2.data.toList 92), str (sha (flat [str (padKey k2.data.toList 54), text]))] = padKey (sha key.data.toList) 92 ++ sha (padKey (sha key.data.toList) 54 ++ text.data.toList)) := by
    show _ = _
    rw [flat2, flat2, str_toList, str_toList, str_toList, HK2.out]
  clear hb2 hb3 hb4 hb1 hb2' hb3' hK1 hK2 hK3 hb0 hb1'
  go_wp2
  go_ret
  exact ⟨by rw [HF.out]; rfl, hb4'⟩
theorem dtag_any (key text : ByteArray) (w : World) (hk : key.size < 2305843009213693000) (ht : text.size < 2305843009213693000) (hK : Tab w) (h0 : 0 < w.heap.size) :
    Calls Tryd.prog 37 #[.string key, .string text] w fun r w' => r = .returned (.string (str (hmac key.data.toList text.data.toList))) ∧ Below w.heap.size w w' := by
  unfold hmac shortKey
  by_cases h : 64 < key.size
  · rw [if_pos (by rw [size_toList]; exact h)]; exact dtag_long key text w h hk ht hK h0
  · rw [if_neg (by rw [size_toList]; exact h)]; exact dtag_short key text w (by omega) ht hK h0
theorem vtag_any (key text : ByteArray) (w : World) (hk : key.size < 2305843009213693000) (ht : text.size < 2305843009213693000) (hK : Tab w) (h0 : 0 < w.heap.size) :
    Calls Tryd.prog 9 #[.string key, .string text] w fun r w' => r = .returned (.string (str (hmac key.data.toList text.data.toList))) ∧ Below w.heap.size w w' := by
  go_enter Tryd.func9, Tryd.ntmps9
  go_wp2_with fail
  refine (dtag_any key text w hk ht hK h0).mono ?_
  rintro e w1 ⟨rfl, hb⟩
  go_wp2
  go_ret
  exact ⟨rfl, hb⟩

/-- The strings ss lie at ao. -/
def Strs (w : World) (ao : Option Addr) (ss : List ByteArray) : Prop := ∀ j (h : j < ss.length), ∃ g o, ao = some ⟨g, o, none⟩ ∧ g < w.heap.size ∧ w.cell? ⟨g, o + j, none⟩ = some (.string ss[j])
theorem Strs.below {w w' : World} {ao : Option Addr} {ss : List ByteArray} (h : Strs w ao ss) (hb : Below w.heap.size w w') : Strs w' ao ss := by
  intro j hj
  obtain ⟨g, o, h1, h2, h3⟩ := h j hj
  exact ⟨g, o, h1, Nat.lt_of_lt_of_le h2 hb.size, by rw [hb.cell (p := ⟨g, o + j, none⟩) h2]; exact h3⟩
theorem Strs.take {w : World} {ao : Option Addr} {ss : List ByteArray} (h : Strs w ao ss) (k : Nat) : Strs w ao (ss.take k) := by
  intro j hj
  rw [List.length_take] at hj
  obtain ⟨g, o, h1, h2, h3⟩ := h j (by omega)
  exact ⟨g, o, h1, h2, by rw [h3, List.getElem_take]⟩
theorem Strs.drop {w : World} {g o : Nat} {ss : List ByteArray} (h : Strs w (some ⟨g, o, none⟩) ss) (k : Nat) : Strs w (some ⟨g, o + k, none⟩) (ss.drop k) := by
  intro j hj
  rw [List.length_drop] at hj
  obtain ⟨g', o', h1, h2, h3⟩ := h (k + j) (by omega)
  simp only [Option.some.injEq, Addr.mk.injEq] at h1
  obtain ⟨rfl, rfl, _⟩ := h1
  exact ⟨g, o + k, rfl, h2, by rw [Nat.add_assoc, h3, List.getElem_drop]⟩
def leaves (ss : List ByteArray) : List (List UInt8) := ss.map fun s => leafH s.data.toList
theorem leaves_length (ss : List ByteArray) : (leaves ss).length = ss.length := by simp [leaves]
theorem leaves_32 (ss : List ByteArray) : ∀ x ∈ leaves ss, x.length = 32 := by
  intro x hx
  obtain ⟨s, _, rfl⟩ := List.mem_map.1 hx
  exact sha_length _
theorem roots_32 (ss : List ByteArray) : (root (leaves ss)).length = 32 := root_length _ (leaves_32 ss)
theorem root_split (ss : List ByteArray) (h : 2 ≤ ss.length) : root (leaves ss) = nodeH (root (leaves (ss.take (spl ss.length)))) (root (leaves (ss.drop (spl ss.length)))) := by
  rw [root_node _ (by rw [leaves_length]; exact h), leaves_length]
  unfold leaves; rw [List.map_take, List.map_drop]
def TRoot (n : Nat) : Prop := ∀ (ss : List ByteArray) (ao : Option Addr) (cap : Nat) (w : World), ss.length = n → n ≤ cap → n ≤ 140737488355328 → Strs w ao ss → (∀ s ∈ ss, s.size < 2305843009213693951) → Tab w → 0 < w.heap.size →
  Calls Tryd.prog 38 #[.slice ao n cap] w fun r w' => r = .returned (.string (str (root (leaves ss)))) ∧ Below w.heap.size w w'
theorem troot_0 : TRoot 0 := by
  intro ss ao cap w hn hc hm hS hs hK h0
  obtain rfl : ss = [] := List.eq_nil_of_length_eq_zero hn
  go_enter Tryd.func38, Tryd.ntmps38
  go_wp2_with fail
  refine (sum_any none 0 [] w (fun j hj => absurd hj (by simp)) (by simp [flat]) (by simp) hK h0).mono ?_
  rintro e w1 ⟨rfl, hb⟩
  go_wp2
  go_ret
  exact ⟨rfl, hb⟩
theorem troot_1 : TRoot 1 := by
  intro ss ao cap w hn hc hm hS hs hK h0
  obtain ⟨g, o, rfl, hg, hcell⟩ := hS 0 (by omega)
  have hx := hs ss[0] (by simp)
  have HR : Hid (root (leaves ss) = leafH ss[0].data.toList) := by
    show _ = _
    match ss, hn with
    | [x], _ => rfl
  generalize ss[0] = x at *
  have hc0 : w.cell? ⟨g, o, none⟩ = some (.string x) := hcell
  clear hcell
  go_enter Tryd.func38, Tryd.ntmps38
  go_wp2_with fail
  refine (tleaf_any x w hx hK h0).mono ?_
  rintro e w1 ⟨rfl, hb⟩
  go_wp2
  go_ret
  exact ⟨by rw [HR.out]; rfl, hb⟩
set_option maxHeartbeats 1000000 in
theorem troot_2 (n : Nat) (h2 : 2 ≤ n) (ih : ∀ k, k < n → TRoot k) : TRoot n := by
  intro ss ao cap w hn hc hm hS hs hK h0
  obtain ⟨g, o, rfl, hg, _⟩ := hS 0 (by omega)
  have hk1 := spl_lt n h2
  have hk2 := spl_pos n
  have hS1 := hS.take (spl n)
  have hS2 := hS.drop (spl n)
  have hl1 : (ss.take (spl n)).length = spl n := by rw [List.length_take]; omega
  have hl2 : (ss.drop (spl n)).length = n - spl n := by rw [List.length_drop]; omega
  have hs1 : ∀ s ∈ ss.take (spl n), s.size < 2305843009213693951 := fun s h => hs s (List.mem_of_mem_take h)
  have hs2 : ∀ s ∈ ss.drop (spl n), s.size < 2305843009213693951 := fun s h => hs s (List.mem_of_mem_drop h)
  have HR : Hid (root (leaves ss) = nodeH (root (leaves (ss.take (spl n)))) (root (leaves (ss.drop (spl n))))) := by
    show _ = _
    rw [root_split ss (by omega), hn]
  have r1 := roots_32 (ss.take (spl n))
  have r2 := roots_32 (ss.drop (spl n))
  have hsp := split_any n
  generalize spl n = k at *
  generalize ss.take k = s1 at *
  generalize ss.drop k = s2 at *
  have i1 := ih k hk1
  have i2 := ih (n - k) (by omega)
  have I1 : Hid (TRoot k) := i1
  have I2 : Hid (TRoot (n - k)) := i2
  have hck : ¬ cap = k := by omega
  have HSP : Hid (∀ (w : World), 2 ≤ n → n ≤ 4611686018427387904 → Calls Tryd.prog 73 #[.int .i64 (n : Int)] w fun r w' => r = .returned (.int .i64 (k : Int)) ∧ w' = w) := hsp
  have HR2 : Hid (root (leaves ss) = nodeH (str (root (leaves s1))).data.toList (str (root (leaves s2))).data.toList) := by show _ = _; rw [str_toList, str_toList]; exact HR.out
  clear ih i1 i2 hsp hS hs HR
  go_enter Tryd.func38, Tryd.ntmps38
  go_wp2_with fail
  refine (HSP.out w h2 (by omega)).mono ?_
  rintro e w' ⟨rfl, hw⟩
  subst hw
  go_wp2_with fail
  go_region_with (first
    | (go_at_call_of 38 (Value.slice (some (Addr.mk g o none)) k cap); refine (I1.out s1 _ cap _ hl1 (by omega) (by omega) (by exact hS1) hs1 (by exact hK) (by exact h0)).mono ?_; rintro e w1 ⟨rfl, hb1⟩; replace hb1 : Below w'.heap.size w' w1 := (Below.refl _ _).drew.trans hb1)
    | (go_at_call_of 38 (Value.slice (some (Addr.mk g (o + k) none)) (n - k) (cap - k)); refine (I2.out s2 _ (cap - k) _ hl2 (by omega) (by omega) (by exact hS2.below hb1) hs2 (by exact hK.below hb1 h0) (by exact Nat.lt_of_lt_of_le h0 hb1.size)).mono ?_; rintro e w2 ⟨rfl, hb2⟩; replace hb2 : Below w'.heap.size w' w2 := hb1.trans (hb2.mono hb1.size))
    | (go_at_call 74; refine (tnode_any _ _ _ (by rw [str_size, str_size, r1, r2]; omega) (by exact hK.below hb2 h0) (by exact Nat.lt_of_lt_of_le h0 hb2.size)).mono ?_; rintro e w3 ⟨rfl, hb3⟩; replace hb3 : Below w'.heap.size w' w3 := hb2.trans (hb3.mono hb2.size)))
  all_goals
    go_wp2
    go_ret
    exact ⟨by rw [HR2.out]; rfl, hb3⟩
theorem troot_all (n : Nat) : TRoot n := by
  induction n using Nat.strongRecOn with
  | ind n ih =>
    match n, ih with
    | 0, _ => exact troot_0
    | 1, _ => exact troot_1
    | n + 2, ih => exact troot_2 (n + 2) (by omega) ih
theorem vroot_any (ss : List ByteArray) (ao : Option Addr) (cap : Nat) (w : World) (hc : ss.length ≤ cap) (hm : ss.length ≤ 140737488355328) (hS : Strs w ao ss) (hs : ∀ s ∈ ss, s.size < 2305843009213693951) (hK : Tab w) (h0 : 0 < w.heap.size) :
    Calls Tryd.prog 11 #[.slice ao ss.length cap] w fun r w' => r = .returned (.string (str (root (leaves ss)))) ∧ Below w.heap.size w w' := by
  go_enter Tryd.func11, Tryd.ntmps11
  go_wp2_with fail
  refine (troot_all ss.length ss ao cap w rfl hc hm hS hs hK h0).mono ?_
  rintro e w1 ⟨rfl, hb⟩
  go_wp2
  go_ret
  exact ⟨rfl, hb⟩
end Go.Proofs.YtoanekgphcijfaaDoor
