import Derived.Test.YtoanekgphcijfaaDoorA2
namespace Go.Proofs.YtoanekgphcijfaaDoor
open Go.RowKit
open Sha

/-- Any two of these texts may be hashed together. -/
def Fit (l : List ByteArray) : Prop := l.Pairwise (fun a b => a.size + b.size ≤ 140737488355190) ∧ ∀ s ∈ l, s.size ≤ 140737488355100
theorem Fit.skip {a b : ByteArray} {l : List ByteArray} (h : Fit (a :: b :: l)) : Fit (a :: l) := by
  obtain ⟨hp, hs⟩ := h
  rw [List.pairwise_cons, List.pairwise_cons] at hp
  refine ⟨List.pairwise_cons.2 ⟨fun x hx => hp.1 x (List.mem_cons_of_mem _ hx), hp.2.2⟩, fun s h => hs s ?_⟩
  rcases List.mem_cons.1 h with h | h
  · rw [h]; simp
  · exact List.mem_cons_of_mem _ (List.mem_cons_of_mem _ h)
theorem Fit.two {a b : ByteArray} {l : List ByteArray} (h : Fit (a :: b :: l)) : a.size + b.size ≤ 140737488355190 := (List.pairwise_cons.1 h.1).1 b (by simp)
theorem Fit.of_le {l : List ByteArray} (h : ∀ s ∈ l, s.size ≤ 70368744177500) : Fit l := by
  refine ⟨?_, fun s hs => by have := h s hs; omega⟩
  induction l with
  | nil => exact List.Pairwise.nil
  | cons x l ih =>
    refine List.pairwise_cons.2 ⟨fun y hy => ?_, ih fun s hs => h s (List.mem_cons_of_mem _ hs)⟩
    have := h x (by simp)
    have := h y (List.mem_cons_of_mem _ hy)
    omega
def RShow (rs : List ByteArray) : Prop := ∀ (leaf : ByteArray) (i n : Nat) (ao : Option Addr) (cap : Nat) (w : World), rs.length ≤ cap → rs.length ≤ 140737488355328 → Strs w ao rs.reverse → Fit (leaf :: rs) → i < n → n ≤ 1073741824 →
  Calls Tryd.prog 81 #[.string leaf, .int .i64 (i : Int), .int .i64 (n : Int), .slice ao rs.length cap] w fun r w' => ∃ s b, r = .returned (.tuple #[.string s, .bool b]) ∧ Told (showR leaf.data.toList i n (tol rs)) s b ∧ (s.size ≤ 32 ∨ s = leaf) ∧ Below w.heap.size w w'
theorem rshow_nil : RShow [] := by
  intro leaf i n ao cap w hc hm hS hF hi hn
  by_cases h1 : n = 1
  · subst h1
    have HO : Hid (Told (showR leaf.data.toList i 1 (tol [])) leaf true) := Or.inr ⟨_, showR_one_nil _ _, rfl, (str_of leaf).symm⟩
    clear hS hF
    show Calls Tryd.prog 81 #[.string leaf, .int .i64 (i : Int), .int .i64 1, .slice ao 0 cap] w _
    go_enter Tryd.func81, Tryd.ntmps81
    go_wp2
    go_ret2
    exact ⟨_, _, rfl, HO.out, Or.inr rfl, Below.refl _ _⟩
  · have HO : Hid (Told (showR leaf.data.toList i n (tol [])) ⟨#[]⟩ false) := Or.inl ⟨showR_nil _ _ _ h1, rfl⟩
    clear hS hF
    have h1' : ¬ (n : Int) = 1 := by omega
    show Calls Tryd.prog 81 #[.string leaf, .int .i64 (i : Int), .int .i64 (n : Int), .slice ao 0 cap] w _
    go_enter Tryd.func81, Tryd.ntmps81
    go_wp2
    go_ret2
    exact ⟨_, _, rfl, HO.out, Or.inl (by show 0 ≤ _; omega), Below.refl _ _⟩
theorem Told.left {o : Option (List UInt8)} {s : ByteArray} {b : Bool} (h : Told o s b) (last : ByteArray) : Told (o.map (nodeH · last.data.toList)) (str (nodeH s.data.toList last.data.toList)) b := by
  rcases h with ⟨rfl, rfl⟩ | ⟨x, rfl, rfl, rfl⟩
  · exact Or.inl ⟨rfl, rfl⟩
  · exact Or.inr ⟨_, rfl, rfl, by rw [str_toList]⟩
theorem Told.right {o : Option (List UInt8)} {s : ByteArray} {b : Bool} (h : Told o s b) (last : ByteArray) : Told (o.map (nodeH last.data.toList ·)) (str (nodeH last.data.toList s.data.toList)) b := by
  rcases h with ⟨rfl, rfl⟩ | ⟨x, rfl, rfl, rfl⟩
  · exact Or.inl ⟨rfl, rfl⟩
  · exact Or.inr ⟨_, rfl, rfl, by rw [str_toList]⟩
set_option maxHeartbeats 1000000 in
theorem rshow_cons (last : ByteArray) (r : List ByteArray) (ih : RShow r) : RShow (last :: r) := by
  intro leaf i n ao cap w hc hm hS hF hi hn
  rw [List.length_cons] at hc hm ⊢
  obtain ⟨g, o, rfl, hg, hcell⟩ := hS.last
  have hS1 := hS.rest
  have hlast := hF.2 last (by simp)
  have hleaf := hF.2 leaf (by simp)
  have h2 := hF.two
  have hF1 := hF.skip
  rw [tol_cons]
  have IH : Hid (RShow r) := ih
  clear hS hF ih
  by_cases h1 : n = 1
  · subst h1
    have HO : Hid (Told (showR leaf.data.toList i 1 (last.data.toList :: tol r)) leaf false) := Or.inl ⟨showR_one_cons _ _ _ _, rfl⟩
    clear hS1 hF1 hcell
    show Calls Tryd.prog 81 #[.string leaf, .int .i64 (i : Int), .int .i64 1, .slice (some ⟨g, o, none⟩) (r.length + 1) cap] w _
    go_enter Tryd.func81, Tryd.ntmps81
    go_wp2
    go_ret2
    exact ⟨_, _, rfl, HO.out, Or.inr rfl, Below.refl _ _⟩
  · have hk1 := spl_lt n (by omega)
    have hk2 := spl_pos n
    have HSP : Hid (∀ (w : World), 2 ≤ n → n ≤ 1152921504606846976 → Calls Tryd.prog 40 #[.int .i64 (n : Int)] w fun r w' => r = .returned (.int .i64 ((spl n : Nat) : Int)) ∧ w' = w) := rsplit_any n
    have h1' : ¬ (n : Int) = 1 := by omega
    have HLo : Hid (i < spl n → showR leaf.data.toList i n (last.data.toList :: tol r) = (showR leaf.data.toList i (spl n) (tol r)).map (nodeH · last.data.toList)) := fun hi => showR_low _ _ _ _ _ h1 hi
    have HHi : Hid (¬ i < spl n → showR leaf.data.toList i n (last.data.toList :: tol r) = (showR leaf.data.toList (i - spl n) (n - spl n) (tol r)).map (nodeH last.data.toList ·)) := fun hi => showR_high _ _ _ _ _ h1 hi
    generalize spl n = k at *
    go_enter Tryd.func81, Tryd.ntmps81
    go_wp2_with fail
    refine (HSP.out w (by omega) (by omega)).mono ?_
    rintro e w2 ⟨rfl, hw2⟩
    subst hw2
    clear hcell
    by_cases hik : i < k
    · have hik' : (i : Int) < (k : Int) := by omega
      go_wp2_with fail
      refine (IH.out leaf i k _ cap w2 (by omega) (by omega) hS1 hF1 hik (by omega)).mono ?_
      rintro e w3 ⟨s, b, rfl, hT, hss, hb3⟩
      have hsz3 := hb3.size
      have h3 : s.size + last.size ≤ 140737488355190 := by
        rcases hss with h | rfl
        · omega
        · exact h2
      have HO : Hid (Told (showR leaf.data.toList i n (last.data.toList :: tol r)) (str (nodeH s.data.toList last.data.toList)) b) := by rw [HLo.out hik]; exact hT.left last
      clear hS1 hF1 hT hss
      go_wp2_with fail
      refine (rnode_any s last w3 h3).mono ?_
      rintro e w4 ⟨rfl, hb4⟩
      have hb5 := hb3.trans (hb4.mono hsz3)
      clear hb4
      go_wp2
      go_ret2
      exact ⟨_, _, rfl, HO.out, Or.inl (by rw [str_size]; exact Nat.le_of_eq (sha_length _)), hb5⟩
    · have hik' : ¬ (i : Int) < (k : Int) := by omega
      have c := IH.out leaf (i - k) (n - k) (some ⟨g, o, none⟩) cap w2 (by omega) (by omega) hS1 hF1 (by omega) (by omega)
      rw [Int.ofNat_sub (by omega), Int.ofNat_sub (by omega)] at c
      go_wp2_with fail
      refine c.mono ?_
      clear c
      rintro e w3 ⟨s, b, rfl, hT, hss, hb3⟩
      have hsz3 := hb3.size
      have h3 : last.size + s.size ≤ 140737488355190 := by
        rcases hss with h | rfl
        · omega
        · omega
      have HO : Hid (Told (showR leaf.data.toList i n (last.data.toList :: tol r)) (str (nodeH last.data.toList s.data.toList)) b) := by rw [HHi.out hik]; exact hT.right last
      clear hS1 hF1 hT hss
      go_wp2_with fail
      refine (rnode_any last s w3 h3).mono ?_
      rintro e w4 ⟨rfl, hb4⟩
      have hb5 := hb3.trans (hb4.mono hsz3)
      clear hb4
      go_wp2
      go_ret2
      exact ⟨_, _, rfl, HO.out, Or.inl (by rw [str_size]; exact Nat.le_of_eq (sha_length _)), hb5⟩
theorem rshow_all (rs : List ByteArray) : RShow rs := by
  induction rs with
  | nil => exact rshow_nil
  | cons x r ih => exact rshow_cons x r ih
end Go.Proofs.YtoanekgphcijfaaDoor
