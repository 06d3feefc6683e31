import Derived.Test.YtoanekgphcijfaaDoorA2
import Derived.Test.YtoanekgphcijfaaDoorR5
import Derived.Test.YtoanekgphcijfaaDoorA16
namespace Go.Proofs.YtoanekgphcijfaaDoor
open Sha

def rootS (l : List ByteArray) : ByteArray := str (root (tol l))
theorem rootS_toList (l : List ByteArray) : (rootS l).data.toList = root (tol l) := str_toList _
theorem rootS_size (l : List ByteArray) (h : ∀ s ∈ l, s.size = 32) : (rootS l).size = 32 := by
  unfold rootS; rw [str_size]; exact root_length _ (tol_32 _ h)
/-- What shows the i-th of l. -/
def inclF : Nat → Nat → List ByteArray → List ByteArray
  | 0, _, _ => []
  | f + 1, i, l => if l.length < 2 then [] else if i < spl l.length then rootS (l.drop (spl l.length)) :: inclF f i (l.take (spl l.length)) else rootS (l.take (spl l.length)) :: inclF f (i - spl l.length) (l.drop (spl l.length))
/-- What shows that the first m of l are l's. -/
def consF : Nat → Nat → Bool → List ByteArray → List ByteArray
  | 0, _, _, _ => []
  | f + 1, m, all, l => if m = l.length then (if all = true then [] else [rootS l]) else if m ≤ spl l.length then rootS (l.drop (spl l.length)) :: consF f m all (l.take (spl l.length)) else rootS (l.take (spl l.length)) :: consF f (m - spl l.length) false (l.drop (spl l.length))
theorem inclF_32 : ∀ (f i : Nat) (l : List ByteArray), (∀ s ∈ l, s.size = 32) → ∀ s ∈ inclF f i l, s.size = 32 := by
  intro f
  induction f with
  | zero => intro i l _ s hs; cases hs
  | succ f ih =>
    intro i l h s hs
    have h1 : ∀ s ∈ l.take (spl l.length), s.size = 32 := fun s hs => h s (List.mem_of_mem_take hs)
    have h2 : ∀ s ∈ l.drop (spl l.length), s.size = 32 := fun s hs => h s (List.mem_of_mem_drop hs)
    unfold inclF at hs
    split at hs
    · cases hs
    · split at hs
      · rcases List.mem_cons.1 hs with rfl | hs
        · exact rootS_size _ h2
        · exact ih _ _ h1 s hs
      · rcases List.mem_cons.1 hs with rfl | hs
        · exact rootS_size _ h1
        · exact ih _ _ h2 s hs
theorem consF_32 : ∀ (f m : Nat) (all : Bool) (l : List ByteArray), (∀ s ∈ l, s.size = 32) → ∀ s ∈ consF f m all l, s.size = 32 := by
  intro f
  induction f with
  | zero => intro m all l _ s hs; cases hs
  | succ f ih =>
    intro m all l h s hs
    have h1 : ∀ s ∈ l.take (spl l.length), s.size = 32 := fun s hs => h s (List.mem_of_mem_take hs)
    have h2 : ∀ s ∈ l.drop (spl l.length), s.size = 32 := fun s hs => h s (List.mem_of_mem_drop hs)
    unfold consF at hs
    split at hs
    · split at hs
      · cases hs
      · rw [List.mem_singleton.1 hs]; exact rootS_size _ h
    · split at hs
      · rcases List.mem_cons.1 hs with rfl | hs
        · exact rootS_size _ h2
        · exact ih _ _ _ h1 s hs
      · rcases List.mem_cons.1 hs with rfl | hs
        · exact rootS_size _ h1
        · exact ih _ _ _ h2 s hs
theorem inclF_len : ∀ (f i : Nat) (l : List ByteArray), (inclF f i l).length ≤ l.length := by
  intro f
  induction f with
  | zero => intro i l; exact Nat.zero_le _
  | succ f ih =>
    intro i l
    unfold inclF
    split
    · simp
    · have hk1 := spl_lt l.length (by omega)
      have hk2 := spl_pos l.length
      split
      · have := ih i (l.take (spl l.length))
        rw [List.length_take] at this
        rw [List.length_cons]; omega
      · have := ih (i - spl l.length) (l.drop (spl l.length))
        rw [List.length_drop] at this
        rw [List.length_cons]; omega
theorem consF_len : ∀ (f m : Nat) (all : Bool) (l : List ByteArray), 1 ≤ m → m ≤ l.length → (consF f m all l).length ≤ l.length := by
  intro f
  induction f with
  | zero => intro m all l _ _; exact Nat.zero_le _
  | succ f ih =>
    intro m all l h1 hm
    unfold consF
    split
    · split
      · simp
      · rw [List.length_singleton]; omega
    · have hk1 := spl_lt l.length (by omega)
      have hk2 := spl_pos l.length
      split
      · have := ih m all (l.take (spl l.length)) h1 (by rw [List.length_take]; omega)
        rw [List.length_take] at this
        rw [List.length_cons]; omega
      · have := ih (m - spl l.length) false (l.drop (spl l.length)) (by omega) (by rw [List.length_drop]; omega)
        rw [List.length_drop] at this
        rw [List.length_cons]; omega
theorem incl_shows : ∀ (f i : Nat) (l : List ByteArray) (hi : i < l.length), l.length ≤ f → showR (l[i].data.toList) i l.length (tol (inclF f i l)) = some (root (tol l)) := by
  intro f
  induction f with
  | zero => intro i l hi hf; omega
  | succ f ih =>
    intro i l hi hf
    by_cases h2 : l.length < 2
    · match l, hi, h2 with
      | [x], hi, _ =>
        have h0 : i = 0 := by simpa using hi
        subst h0
        unfold inclF
        rw [if_pos (by simp)]
        rfl
    · have hk1 := spl_lt l.length (by omega)
      have hk2 := spl_pos l.length
      have hl1 : (l.take (spl l.length)).length = spl l.length := by rw [List.length_take]; omega
      have hl2 : (l.drop (spl l.length)).length = l.length - spl l.length := by rw [List.length_drop]
      have hr := tol_split l (by omega)
      unfold inclF
      rw [if_neg h2]
      by_cases hk : i < spl l.length
      · rw [if_pos hk, tol_cons, showR_low _ _ _ _ _ (by omega) hk]
        have := ih i (l.take (spl l.length)) (by omega) (by omega)
        have e0 : (l.take (spl l.length))[i]'(by omega) = l[i]'hi := List.getElem_take
        rw [e0, hl1] at this
        rw [this, hr, Option.map_some, rootS_toList]
      · rw [if_neg hk, tol_cons, showR_high _ _ _ _ _ (by omega) hk]
        have := ih (i - spl l.length) (l.drop (spl l.length)) (by omega) (by omega)
        have e : spl l.length + (i - spl l.length) = i := by omega
        have e0 : (l.drop (spl l.length))[i - spl l.length]'(by omega) = l[i]'hi := by rw [List.getElem_drop]; simp only [e]
        rw [e0, hl2] at this
        rw [this, hr, Option.map_some, rootS_toList]
theorem spl_same (m n : Nat) (h2 : 2 ≤ n) (h1 : spl n < m) (h : m ≤ n) : spl m = spl n := by
  have h3 := spl_ge n h2
  unfold spl at h1 h3 ⊢
  exact spl_of m (Nat.log2 (n - 1)) h1 (by rw [Nat.pow_succ]; omega)
theorem cons_shows : ∀ (f m : Nat) (all : Bool) (l : List ByteArray) (old : List UInt8), 1 ≤ m → m ≤ l.length → l.length ≤ f → (all = true → old = root (tol (l.take m))) → bothR old m l.length all (tol (consF f m all l)) = some (root (tol (l.take m)), root (tol l)) := by
  intro f
  induction f with
  | zero => intro m all l old h1 hm hf; omega
  | succ f ih =>
    intro m all l old h1 hm hf ho
    unfold consF
    by_cases hmn : m = l.length
    · rw [if_pos hmn]
      have ht : l.take m = l := List.take_of_length_le (by omega)
      rw [ht] at ho ⊢
      cases all with
      | true =>
        rw [if_pos rfl, ho rfl]
        show bothR _ m l.length true [] = _
        unfold bothR
        rw [if_pos ⟨hmn, rfl⟩]
      | false =>
        rw [if_neg (by decide)]
        show bothR _ m l.length false ((rootS l).data.toList :: []) = _
        unfold bothR
        rw [if_pos hmn, if_neg (by decide), if_pos rfl, rootS_toList]
    · rw [if_neg hmn]
      have hk1 := spl_lt l.length (by omega)
      have hk2 := spl_pos l.length
      have hl1 : (l.take (spl l.length)).length = spl l.length := by rw [List.length_take]; omega
      have hl2 : (l.drop (spl l.length)).length = l.length - spl l.length := by rw [List.length_drop]
      have hr := tol_split l (by omega)
      by_cases hk : m ≤ spl l.length
      · rw [if_pos hk, tol_cons]
        have e : (l.take (spl l.length)).take m = l.take m := by rw [List.take_take, Nat.min_eq_left hk]
        have := ih m all (l.take (spl l.length)) old h1 (by omega) (by omega) (by rw [e]; exact ho)
        rw [hl1, e] at this
        rw [bothR, if_neg hmn, if_pos hk, this, hr, Option.map_some, rootS_toList]
      · rw [if_neg hk, tol_cons]
        have := ih (m - spl l.length) false (l.drop (spl l.length)) old (by omega) (by omega) (by omega) (fun h => by cases h)
        rw [hl2] at this
        have hlm : (l.take m).length = m := by rw [List.length_take]; omega
        have hs := spl_same m l.length (by omega) (by omega) hm
        have e1 : (l.take m).take (spl l.length) = l.take (spl l.length) := by rw [List.take_take, Nat.min_eq_left (by omega)]
        have e2 : (l.take m).drop (spl l.length) = (l.drop (spl l.length)).take (m - spl l.length) := by rw [List.drop_take]
        have hr2 := tol_split (l.take m) (by omega)
        rw [hlm, hs, e1, e2] at hr2
        rw [bothR, if_neg hmn, if_neg hk, this, hr, hr2, Option.map_some, rootS_toList]
end Go.Proofs.YtoanekgphcijfaaDoor
namespace Go.Proofs.YtoanekgphcijfaaDoor
open Go.RowKit
open Sha

def RIncl (f : Nat) : Prop := ∀ (n i : Nat) (hs : List ByteArray) (ao : Option Addr) (cap : Nat) (w : World), hs.length = n → n ≤ f → n ≤ cap → n ≤ 1000000 → i < 1000000 → Strs w ao hs → (∀ s ∈ hs, s.size = 32) →
  Calls Tryd.prog 24 #[.int .i64 (i : Int), .slice ao n cap] w fun r w' => ∃ v, r = .returned v ∧ OwnS w' w.heap.size v (inclF f i hs).reverse ∧ Below w.heap.size w w'
theorem rincl_small (f n i : Nat) (hs : List ByteArray) (ao : Option Addr) (cap : Nat) (w : World) (hn : hs.length = n) (h2 : n < 2) :
    Calls Tryd.prog 24 #[.int .i64 (i : Int), .slice ao n cap] w fun r w' => ∃ v, r = .returned v ∧ OwnS w' w.heap.size v (inclF f i hs).reverse ∧ Below w.heap.size w w' := by
  have HE : Hid (inclF f i hs = []) := by
    show _ = _
    cases f with
    | zero => rfl
    | succ f => unfold inclF; rw [if_pos (by omega)]
  have h2' : (n : Int) < 2 := by omega
  go_enter Tryd.func24, Tryd.ntmps24
  go_wp2
  go_ret
  exact ⟨_, rfl, by rw [HE.out]; exact Own.nil _ _ _, Below.refl _ _⟩
set_option maxHeartbeats 2000000 in
theorem rincl_succ (f : Nat) (ih : RIncl f) : RIncl (f + 1) := by
  intro n i hs ao cap w hn hf hc hm hi hS h32
  by_cases h2 : n < 2
  · exact rincl_small (f + 1) n i hs ao cap w hn h2
  · obtain ⟨g, o, rfl, hg, _⟩ := hS 0 (by omega)
    have hk1 := spl_lt n (by omega)
    have hk2 := spl_pos n
    have hS1 := hS.take (spl n)
    have hS2 := hS.drop (spl n)
    have hl1 : (hs.take (spl n)).length = spl n := by rw [List.length_take]; omega
    have hl2 : (hs.drop (spl n)).length = n - spl n := by rw [List.length_drop]; omega
    have hs1 : ∀ s ∈ hs.take (spl n), s.size = 32 := fun s h => h32 s (List.mem_of_mem_take h)
    have hs2 : ∀ s ∈ hs.drop (spl n), s.size = 32 := fun s h => h32 s (List.mem_of_mem_drop h)
    have HLo : Hid (i < spl n → (inclF (f + 1) i hs).reverse = (inclF f i (hs.take (spl n))).reverse ++ [rootS (hs.drop (spl n))]) := by
      intro h
      rw [inclF, hn, if_neg h2, if_pos h, List.reverse_cons]
    have HHi : Hid (¬ i < spl n → (inclF (f + 1) i hs).reverse = (inclF f (i - spl n) (hs.drop (spl n))).reverse ++ [rootS (hs.take (spl n))]) := by
      intro h
      rw [inclF, hn, if_neg h2, if_neg h, List.reverse_cons]
    have HSP : Hid (∀ (w : World), 2 ≤ n → n ≤ 1152921504606846976 → Calls Tryd.prog 40 #[.int .i64 (n : Int)] w fun r w' => r = .returned (.int .i64 ((spl n : Nat) : Int)) ∧ w' = w) := rsplit_any n
    generalize spl n = k at *
    generalize hs.take k = s1 at *
    generalize hs.drop k = s2 at *
    have IH : Hid (RIncl f) := ih
    have hck : ¬ cap = k := by omega
    have h2' : ¬ (n : Int) < 2 := by omega
    have HS1 : Hid (Strs w (some ⟨g, o, none⟩) s1) := hS1
    have HS2 : Hid (Strs w (some ⟨g, o + k, none⟩) s2) := hS2
    clear ih hS h32 hS1 hS2
    go_enter Tryd.func24, Tryd.ntmps24
    go_wp2_with fail
    refine (HSP.out w (by omega) (by omega)).mono ?_
    rintro e w' ⟨rfl, hw⟩
    subst hw
    by_cases hik : i < k
    · have hik' : (i : Int) < (k : Int) := by omega
      go_wp2_with fail
      refine (IH.out k i s1 _ cap w' hl1 (by omega) (by omega) (by omega) hi HS1.out hs1).mono ?_
      rintro e w1 ⟨v, rfl, hown, hb1⟩
      have hsz1 := hb1.size
      have HO1 := HLo.out hik
      go_wp2_with fail
      refine (rroot_all (n - k) s2 _ (cap - k) w1 hl2 (by omega) (by omega) (HS2.out.below hb1) hs2).mono ?_
      rintro e w2 ⟨rfl, hb2'⟩
      have hown2 : OwnS w2 w'.heap.size v (inclF f i s1).reverse := Own.under hown hb2' (Nat.le_refl _)
      have hb2 := hb1.trans (hb2'.mono hsz1)
      have hsz2 := hb2.size
      have HO : Hid ((inclF (f + 1) i hs).reverse = (inclF f i s1).reverse ++ [str (root (tol s2))]) := HO1
      have HLn : Hid ((inclF f i s1).reverse.length ≤ 1000000) := by show _ ≤ _; rw [List.length_reverse]; have := inclF_len f i s1; omega
      clear hb2' hown HO1
      generalize (inclF f i s1).reverse = L at *
      go_wp2_with (first | (at_builtin; refine wpList_appS rfl (.tmp 22) (.tmp 27) rfl w'.heap.size _ _ rfl hown2 _ _ 1 1 [str (root (tol s2))] rfl rfl rfl (by have := HLn.out; omega) hsz2 ?_; intro v' w3 hown3 hg3) | fail)
      have hb3 := hown2.below hb2 hg3 (Nat.le_refl _) hsz2
      go_ret
      exact ⟨_, rfl, by rw [HO.out]; exact hown3, hb3⟩
    · have hik' : ¬ (i : Int) < (k : Int) := by omega
      have c := IH.out (n - k) (i - k) s2 (some ⟨g, o + k, none⟩) (cap - k) w' hl2 (by omega) (by omega) (by omega) (by omega) HS2.out hs2
      rw [Int.ofNat_sub (by omega)] at c
      go_wp2_with fail
      refine c.mono ?_
      clear c
      rintro e w1 ⟨v, rfl, hown, hb1⟩
      have hsz1 := hb1.size
      have HO1 := HHi.out hik
      go_wp2_with fail
      refine (rroot_all k s1 _ cap w1 hl1 (by omega) (by omega) (HS1.out.below hb1) hs1).mono ?_
      rintro e w2 ⟨rfl, hb2'⟩
      have hown2 : OwnS w2 w'.heap.size v (inclF f (i - k) s2).reverse := Own.under hown hb2' (Nat.le_refl _)
      have hb2 := hb1.trans (hb2'.mono hsz1)
      have hsz2 := hb2.size
      have HO : Hid ((inclF (f + 1) i hs).reverse = (inclF f (i - k) s2).reverse ++ [str (root (tol s1))]) := HO1
      have HLn : Hid ((inclF f (i - k) s2).reverse.length ≤ 1000000) := by show _ ≤ _; rw [List.length_reverse]; have := inclF_len f (i - k) s2; omega
      clear hb2' hown HO1
      generalize (inclF f (i - k) s2).reverse = L at *
      go_wp2_with (first | (at_builtin; refine wpList_appS rfl (.tmp 36) (.tmp 41) rfl w'.heap.size _ _ rfl hown2 _ _ 1 1 [str (root (tol s1))] rfl rfl rfl (by have := HLn.out; omega) hsz2 ?_; intro v' w3 hown3 hg3) | fail)
      have hb3 := hown2.below hb2 hg3 (Nat.le_refl _) hsz2
      go_ret
      exact ⟨_, rfl, by rw [HO.out]; exact hown3, hb3⟩
theorem rincl_all (f : Nat) : RIncl f := by
  induction f with
  | zero =>
    intro n i hs ao cap w hn hf hc hm hi hS h32
    exact rincl_small 0 n i hs ao cap w hn (by omega)
  | succ f ih => exact rincl_succ f ih
end Go.Proofs.YtoanekgphcijfaaDoor
namespace Go.Proofs.YtoanekgphcijfaaDoor
open Go.RowKit
open Sha

def RCons (f : Nat) : Prop := ∀ (n m : Nat) (all : Bool) (hs : List ByteArray) (ao : Option Addr) (cap : Nat) (w : World), hs.length = n → n ≤ f → n ≤ cap → n ≤ 1000000 → 1 ≤ m → m ≤ n → Strs w ao hs → (∀ s ∈ hs, s.size = 32) →
  Calls Tryd.prog 25 #[.int .i64 (m : Int), .slice ao n cap, .bool all] w fun r w' => ∃ v, r = .returned v ∧ OwnS w' w.heap.size v (consF f m all hs).reverse ∧ Below w.heap.size w w'
theorem ownS_lit (w : World) (s : ByteArray) : OwnS (w.alloc (.cells #[.string s] 9)) w.heap.size (.slice (some ⟨w.heap.size, 0, none⟩) 1 1) [s] := by
  refine ⟨by simp, Or.inr ⟨w.heap.size, 1, #[.string s], rfl, Nat.le_refl _, heap_alloc_new _ _, by simp, by unfold maxLen; omega, rfl, rfl⟩⟩
theorem rcons_same (f n : Nat) (all : Bool) (hs : List ByteArray) (ao : Option Addr) (cap : Nat) (w : World) (hn : hs.length = n) (hc : n ≤ cap) (hm : n ≤ 1000000) (hS : Strs w ao hs) (h32 : ∀ s ∈ hs, s.size = 32) :
    Calls Tryd.prog 25 #[.int .i64 (n : Int), .slice ao n cap, .bool all] w fun r w' => ∃ v, r = .returned v ∧ OwnS w' w.heap.size v (consF (f + 1) n all hs).reverse ∧ Below w.heap.size w w' := by
  cases all with
  | true =>
    have HE : Hid (consF (f + 1) n true hs = []) := by show _ = _; rw [consF, if_pos hn.symm, if_pos rfl]
    clear hS h32
    go_enter Tryd.func25, Tryd.ntmps25
    go_wp2
    go_ret
    exact ⟨_, rfl, by rw [HE.out]; exact Own.nil _ _ _, Below.refl _ _⟩
  | false =>
    have HE : Hid (consF (f + 1) n false hs = [str (root (tol hs))]) := by show _ = _; rw [consF, if_pos hn.symm, if_neg (by decide)]; rfl
    have c := rroot_all n hs ao cap w hn hc (by omega) hS h32
    clear hS h32
    go_enter Tryd.func25, Tryd.ntmps25
    go_wp2_with fail
    refine c.mono ?_
    clear c
    rintro e w1 ⟨rfl, hb1⟩
    have hs1 := hb1.size
    go_wp2
    go_ret
    exact ⟨_, rfl, by rw [HE.out]; exact Own.mono (ownS_lit _ _) hs1, hb1.alloc hs1 _⟩
set_option maxHeartbeats 2000000 in
theorem rcons_succ (f : Nat) (ih : RCons f) : RCons (f + 1) := by
  intro n m all hs ao cap w hn hf hc hm h1m hmn hS h32
  by_cases he : m = n
  · subst he
    exact rcons_same f m all hs ao cap w hn hc hm hS h32
  · obtain ⟨g, o, rfl, hg, _⟩ := hS 0 (by omega)
    have hk1 := spl_lt n (by omega)
    have hk2 := spl_pos n
    have hS1 := hS.take (spl n)
    have hS2 := hS.drop (spl n)
    have hl1 : (hs.take (spl n)).length = spl n := by rw [List.length_take]; omega
    have hl2 : (hs.drop (spl n)).length = n - spl n := by rw [List.length_drop]; omega
    have hs1 : ∀ s ∈ hs.take (spl n), s.size = 32 := fun s h => h32 s (List.mem_of_mem_take h)
    have hs2 : ∀ s ∈ hs.drop (spl n), s.size = 32 := fun s h => h32 s (List.mem_of_mem_drop h)
    have HLo : Hid (m ≤ spl n → (consF (f + 1) m all hs).reverse = (consF f m all (hs.take (spl n))).reverse ++ [rootS (hs.drop (spl n))]) := by
      intro h
      rw [consF, hn, if_neg he, if_pos h, List.reverse_cons]
    have HHi : Hid (¬ m ≤ spl n → (consF (f + 1) m all hs).reverse = (consF f (m - spl n) false (hs.drop (spl n))).reverse ++ [rootS (hs.take (spl n))]) := by
      intro h
      rw [consF, hn, if_neg he, if_neg h, List.reverse_cons]
    have HSP : Hid (∀ (w : World), 2 ≤ n → n ≤ 1152921504606846976 → Calls Tryd.prog 40 #[.int .i64 (n : Int)] w fun r w' => r = .returned (.int .i64 ((spl n : Nat) : Int)) ∧ w' = w) := rsplit_any n
    generalize spl n = k at *
    generalize hs.take k = s1 at *
    generalize hs.drop k = s2 at *
    have IH : Hid (RCons f) := ih
    have hck : ¬ cap = k := by omega
    have he' : ¬ (m : Int) = (n : Int) := by omega
    have HS1 : Hid (Strs w (some ⟨g, o, none⟩) s1) := hS1
    have HS2 : Hid (Strs w (some ⟨g, o + k, none⟩) s2) := hS2
    clear ih hS h32 hS1 hS2
    go_enter Tryd.func25, Tryd.ntmps25
    go_wp2_with fail
    refine (HSP.out w (by omega) (by omega)).mono ?_
    rintro e w' ⟨rfl, hw⟩
    subst hw
    by_cases hik : m ≤ k
    · have hik' : (m : Int) ≤ (k : Int) := by omega
      go_wp2_with fail
      refine (IH.out k m all s1 _ cap w' hl1 (by omega) (by omega) (by omega) h1m hik HS1.out hs1).mono ?_
      rintro e w1 ⟨v, rfl, hown, hb1⟩
      have hsz1 := hb1.size
      have HO1 := HLo.out hik
      go_wp2_with fail
      refine (rroot_all (n - k) s2 _ (cap - k) w1 hl2 (by omega) (by omega) (HS2.out.below hb1) hs2).mono ?_
      rintro e w2 ⟨rfl, hb2'⟩
      have hown2 : OwnS w2 w'.heap.size v (consF f m all s1).reverse := Own.under hown hb2' (Nat.le_refl _)
      have hb2 := hb1.trans (hb2'.mono hsz1)
      have hsz2 := hb2.size
      have HO : Hid ((consF (f + 1) m all hs).reverse = (consF f m all s1).reverse ++ [str (root (tol s2))]) := HO1
      have HLn : Hid ((consF f m all s1).reverse.length ≤ 1000000) := by show _ ≤ _; rw [List.length_reverse]; have := consF_len f m all s1 (by omega) (by omega); omega
      clear hb2' hown HO1
      generalize (consF f m all s1).reverse = L at *
      go_wp2_with (first | (at_builtin; refine wpList_appS rfl (.tmp 30) (.tmp 35) rfl w'.heap.size _ _ rfl hown2 _ _ 1 1 [str (root (tol s2))] rfl rfl rfl (by have := HLn.out; omega) hsz2 ?_; intro v' w3 hown3 hg3) | fail)
      have hb3 := hown2.below hb2 hg3 (Nat.le_refl _) hsz2
      go_ret
      exact ⟨_, rfl, by rw [HO.out]; exact hown3, hb3⟩
    · have hik' : ¬ (m : Int) ≤ (k : Int) := by omega
      have c := IH.out (n - k) (m - k) false s2 (some ⟨g, o + k, none⟩) (cap - k) w' hl2 (by omega) (by omega) (by omega) (by omega) (by omega) HS2.out hs2
      rw [Int.ofNat_sub (by omega)] at c
      go_wp2_with fail
      refine c.mono ?_
      clear c
      rintro e w1 ⟨v, rfl, hown, hb1⟩
      have hsz1 := hb1.size
      have HO1 := HHi.out hik
      go_wp2_with fail
      refine (rroot_all k s1 _ cap w1 hl1 (by omega) (by omega) (HS1.out.below hb1) hs1).mono ?_
      rintro e w2 ⟨rfl, hb2'⟩
      have hown2 : OwnS w2 w'.heap.size v (consF f (m - k) false s2).reverse := Own.under hown hb2' (Nat.le_refl _)
      have hb2 := hb1.trans (hb2'.mono hsz1)
      have hsz2 := hb2.size
      have HO : Hid ((consF (f + 1) m all hs).reverse = (consF f (m - k) false s2).reverse ++ [str (root (tol s1))]) := HO1
      have HLn : Hid ((consF f (m - k) false s2).reverse.length ≤ 1000000) := by show _ ≤ _; rw [List.length_reverse]; have := consF_len f (m - k) false s2 (by omega) (by omega); omega
      clear hb2' hown HO1
      generalize (consF f (m - k) false s2).reverse = L at *
      go_wp2_with (first | (at_builtin; refine wpList_appS rfl (.tmp 44) (.tmp 49) rfl w'.heap.size _ _ rfl hown2 _ _ 1 1 [str (root (tol s1))] rfl rfl rfl (by have := HLn.out; omega) hsz2 ?_; intro v' w3 hown3 hg3) | fail)
      have hb3 := hown2.below hb2 hg3 (Nat.le_refl _) hsz2
      go_ret
      exact ⟨_, rfl, by rw [HO.out]; exact hown3, hb3⟩
theorem rcons_all (f : Nat) : RCons f := by
  induction f with
  | zero =>
    intro n m all hs ao cap w hn hf hc hm h1m hmn hS h32
    exact absurd hmn (by omega)
  | succ f ih => exact rcons_succ f ih
end Go.Proofs.YtoanekgphcijfaaDoor
namespace Go.Proofs.YtoanekgphcijfaaDoor
open Go.RowKit
open Sha

theorem pick_any (c : Int) (n : Nat) (w : World) (h1 : -9223372036854775808 ≤ c) (h2 : c ≤ 9223372036854775807) (hn : 1 ≤ n) (hm : n ≤ 1000000) :
    Calls Tryd.prog 23 #[.int .i64 c, .int .i64 (n : Int)] w fun r w' => (∃ j : Nat, j < n ∧ r = .returned (.int .i64 (j : Int))) ∧ w' = w := by
  have hn0 : ¬ (n : Int) = 0 := by omega
  by_cases h : c < 0
  · have h3 : (0 : Int) ≤ -(c + 1) := by omega
    have hj : ∃ j : Nat, j < n ∧ (-(c + 1)).tmod (n : Int) = (j : Int) := by
      rw [Int.tmod_eq_emod_of_nonneg h3]
      refine ⟨(-(c + 1) % (n : Int)).toNat, ?_, ?_⟩
      · have := Int.emod_lt_of_pos (-(c + 1)) (show (0 : Int) < n by omega)
        have := Int.emod_nonneg (-(c + 1)) (show (n : Int) ≠ 0 by omega)
        omega
      · have := Int.emod_nonneg (-(c + 1)) (show (n : Int) ≠ 0 by omega)
        omega
    obtain ⟨j, hj, he⟩ := hj
    have HE : Hid ((-(c + 1)).tmod (n : Int) = (j : Int)) := he
    clear he
    go_enter Tryd.func23, Tryd.ntmps23
    go_wp2
    go_ret
    exact ⟨⟨j, hj, by rw [← HE.out, Int.neg_tmod]; rfl⟩, rfl⟩
  · have hj : ∃ j : Nat, j < n ∧ c % (n : Int) = (j : Int) := by
      refine ⟨(c % (n : Int)).toNat, ?_, ?_⟩
      · have := Int.emod_lt_of_pos c (show (0 : Int) < n by omega)
        have := Int.emod_nonneg c (show (n : Int) ≠ 0 by omega)
        omega
      · have := Int.emod_nonneg c (show (n : Int) ≠ 0 by omega)
        omega
    obtain ⟨j, hj, he⟩ := hj
    have HE : Hid (c % (n : Int) = (j : Int)) := he
    clear he
    go_enter Tryd.func23, Tryd.ntmps23
    go_wp2
    go_ret
    exact ⟨⟨j, hj, by rw [← HE.out]; rfl⟩, rfl⟩
/-- A list of strings, handed over as a slice. -/
def Lst (w : World) (v : Value) (l : List ByteArray) : Prop := ∃ ao cap, v = .slice ao l.length cap ∧ l.length ≤ cap ∧ Strs w ao l ∧ (ao = none → l = [])
theorem OwnS.lst {w : World} {base : Nat} {v : Value} {l : List ByteArray} (h : OwnS w base v l) : Lst w v l := by
  obtain ⟨ao, cap, h1, h2, h3, h4⟩ := h.opened
  refine ⟨ao, cap, h1, h2, h4, fun hn => ?_⟩
  cases l with
  | nil => rfl
  | cons x l =>
    obtain ⟨g, o, ho, _⟩ := h4 0 (by simp)
    rw [hn] at ho; cases ho
theorem Lst.below {w w' : World} {v : Value} {l : List ByteArray} (h : Lst w v l) (hb : Below w.heap.size w w') : Lst w' v l := by
  obtain ⟨ao, cap, h1, h2, h3, h4⟩ := h
  exact ⟨ao, cap, h1, h2, h3.below hb, h4⟩
/-- Its block, where it has one. -/
theorem OwnS.block {w : World} {base : Nat} {v : Value} {l : List ByteArray} (h : OwnS w base v l) (hl : l ≠ []) : ∃ g cap cur, v = .slice (some ⟨g, 0, none⟩) l.length cap ∧ base ≤ g ∧ g < w.heap.size ∧ Row w g 9 cur ∧ l.length ≤ cap ∧ cap ≤ maxLen ∧ cur.size = cap ∧ ∀ (j : Nat) (o : ByteArray), j < l.length → OwnS (w.setCell ⟨g, j, none⟩ (.string o)) base v (l.set j o) := by
  have h' := h
  obtain ⟨h1, h2⟩ := h
  rcases h2 with ⟨hv, hn⟩ | ⟨g, cap, cur, hv, hg, hh, hc, hm, hs, ht⟩
  · rw [List.length_map] at hn
    exact absurd (List.eq_nil_of_length_eq_zero hn) hl
  · rw [List.length_map] at hv hc h1 ht
    rw [Nat.mul_one] at hs ht
    refine ⟨g, cap, cur, hv, hg, lt_of_block hh, hh, hc, hm, hs, fun j o hj => ?_⟩
    refine ⟨by rw [List.length_map]; omega, Or.inr ⟨g, cap, cur.setIfInBounds j (.string o), by rw [List.length_map, List.length_set]; exact hv, hg, (Row.setCell (t := 9) (cs := cur) hh j (.string o)), by rw [List.length_map, List.length_set]; exact hc, hm, by simpa using hs, ?_⟩⟩
    rw [List.length_map, List.length_set, Nat.mul_one, Array.toList_setIfInBounds, List.take_set, ht, List.map_set]
end Go.Proofs.YtoanekgphcijfaaDoor
namespace Go.Proofs.YtoanekgphcijfaaDoor
open Go.RowKit
open Sha

theorem pick_nine (c : Int) (w : World) (h1 : -9223372036854775808 ≤ c) (h2 : c ≤ 9223372036854775807) :
    Calls Tryd.prog 23 #[.int .i64 c, .int .i64 9] w fun r w' => (∃ j : Nat, j < 9 ∧ r = .returned (.int .i64 (j : Int))) ∧ w' = w := pick_any c 9 w h1 h2 (by omega) (by omega)
theorem pick_seven (c : Int) (w : World) (h1 : -9223372036854775808 ≤ c) (h2 : c ≤ 9223372036854775807) :
    Calls Tryd.prog 23 #[.int .i64 c, .int .i64 7] w fun r w' => (∃ j : Nat, j < 7 ∧ r = .returned (.int .i64 (j : Int))) ∧ w' = w := pick_any c 7 w h1 h2 (by omega) (by omega)
theorem rootC (hs : List ByteArray) (n : Nat) (lo : Option Addr) (lcap : Nat) (wx : World) (hn : n ≤ hs.length) (hc : hs.length ≤ lcap) (hl : hs.length ≤ 200) (hS : Strs wx lo hs) (h32 : ∀ s ∈ hs, s.size = 32) :
    Calls Tryd.prog 16 #[.slice lo n lcap] wx fun r w' => r = .returned (.string (rootS (hs.take n))) ∧ Below wx.heap.size wx w' :=
  rroot_all n (hs.take n) lo lcap wx (by rw [List.length_take]; omega) (by omega) (by omega) (hS.take n) (fun s h => h32 s (List.mem_of_mem_take h))
theorem inclC (hs : List ByteArray) (n i : Nat) (lo : Option Addr) (lcap : Nat) (wx : World) (hn : n ≤ hs.length) (hi : i < n) (hc : hs.length ≤ lcap) (hl : hs.length ≤ 200) (hS : Strs wx lo hs) (h32 : ∀ s ∈ hs, s.size = 32) :
    Calls Tryd.prog 24 #[.int .i64 (i : Int), .slice lo n lcap] wx fun r w' => ∃ v, r = .returned v ∧ OwnS w' wx.heap.size v (inclF n i (hs.take n)).reverse ∧ Below wx.heap.size wx w' :=
  rincl_all n n i (hs.take n) lo lcap wx (by rw [List.length_take]; omega) (Nat.le_refl _) (by omega) (by omega) (by omega) (hS.take n) (fun s h => h32 s (List.mem_of_mem_take h))
theorem consC (hs : List ByteArray) (n m : Nat) (lo : Option Addr) (lcap : Nat) (wx : World) (hn : n ≤ hs.length) (h1 : 1 ≤ m) (hm : m ≤ n) (hc : hs.length ≤ lcap) (hl : hs.length ≤ 200) (hS : Strs wx lo hs) (h32 : ∀ s ∈ hs, s.size = 32) :
    Calls Tryd.prog 25 #[.int .i64 (m : Int), .slice lo n lcap, .bool true] wx fun r w' => ∃ v, r = .returned v ∧ OwnS w' wx.heap.size v (consF n m true (hs.take n)).reverse ∧ Below wx.heap.size wx w' :=
  rcons_all n n m true (hs.take n) lo lcap wx (by rw [List.length_take]; omega) (Nat.le_refl _) (by omega) (by omega) h1 hm (hS.take n) (fun s h => h32 s (List.mem_of_mem_take h))
theorem audit_right (key : ByteArray) (hs : List ByteArray) (n i : Nat) (d : Int) (hn : n ≤ hs.length) (hi : i < n) (hl : hs.length ≤ 200) :
    auditV key (hs[i]'(by omega)) (pTag key (hs[i]'(by omega)) d) (rootS (hs.take n)) (hTag key (rootS (hs.take n)) n 4) d n 4 i (inclF n i (hs.take n)) = 1 := by
  have hlen : (hs.take n).length = n := by rw [List.length_take]; omega
  have h := incl_shows n i (hs.take n) (by omega) (by omega)
  have e0 : (hs.take n)[i]'(by omega) = hs[i]'(by omega) := List.getElem_take
  rw [e0, hlen] at h
  unfold auditV
  rw [if_pos rfl, if_pos rfl, if_pos]
  unfold inclB
  rw [Int.toNat_natCast, Int.toNat_natCast, h, rootS_toList, decide_eq_true (by omega), Bool.true_and]
  exact decide_eq_true rfl
theorem comp_right (key : ByteArray) (hs : List ByteArray) (n m : Nat) (hn : n ≤ hs.length) (h1 : 1 ≤ m) (hm : m ≤ n) (hl : hs.length ≤ 200) :
    compV key (rootS (hs.take m)) (hTag key (rootS (hs.take m)) m 2) (rootS (hs.take n)) (hTag key (rootS (hs.take n)) n 4) m 2 n 4 (consF n m true (hs.take n)) = 1 := by
  have hlen : (hs.take n).length = n := by rw [List.length_take]; omega
  have e : (hs.take n).take m = hs.take m := by rw [List.take_take, Nat.min_eq_left hm]
  have h := cons_shows n m true (hs.take n) (root (tol (hs.take m))) h1 (by omega) (by omega) (fun _ => by rw [e])
  rw [e, hlen] at h
  unfold compV
  rw [if_pos rfl, if_pos rfl, if_neg (fun h => absurd h.1 (by omega)), if_pos]
  unfold extB
  rw [Int.toNat_natCast, Int.toNat_natCast, rootS_toList, rootS_toList, h, decide_eq_true (by omega), Bool.true_and]
  exact decide_eq_true rfl
theorem devAuditC (rs : List ByteArray) (key leaf ptag root htag : ByteArray) (d size tick index : Int) (v : Value) (w : World) (hl : rs.length ≤ 1000) (hv : Lst w v rs.reverse) (hs : ∀ s ∈ rs, s.size ≤ 140737488351232)
    (hk : key.size ≤ 140737488351232) (hlf : leaf.size ≤ 140737488351232) (hr : root.size ≤ 140737488351232) (hK : Tab w) (h0 : 0 < w.heap.size) :
    Calls Tryd.prog 18 #[.string key, .agg #[.string leaf, .int .i64 d, .string ptag], .agg #[.int .i64 size, .int .i64 tick, .string root, .string htag], .int .i64 index, v] w fun r w' => r = .returned (.int .i64 (auditV key leaf ptag root htag d size tick index rs)) ∧ Below w.heap.size w w' := by
  obtain ⟨ao, cap, rfl, hc, hS, _⟩ := hv
  rw [List.length_reverse] at hc ⊢
  exact audit_dev_any rs key leaf ptag root htag d size tick index ao cap w hc (by omega) hS hs hk hlf hr hK h0
theorem devCompC (rs : List ByteArray) (key oroot otag nroot ntag : ByteArray) (osize otick nsize ntick : Int) (v : Value) (w : World) (hl : rs.length ≤ 1000) (hv : Lst w v rs.reverse) (hs : ∀ s ∈ rs, s.size ≤ 140737488351232)
    (hk : key.size ≤ 140737488351232) (ho : oroot.size ≤ 140737488351232) (hn : nroot.size ≤ 140737488351232) (hK : Tab w) (h0 : 0 < w.heap.size) :
    Calls Tryd.prog 19 #[.string key, .agg #[.int .i64 osize, .int .i64 otick, .string oroot, .string otag], .agg #[.int .i64 nsize, .int .i64 ntick, .string nroot, .string ntag], v] w fun r w' => r = .returned (.int .i64 (compV key oroot otag nroot ntag osize otick nsize ntick rs)) ∧ Below w.heap.size w w' := by
  obtain ⟨ao, cap, rfl, hc, hS, _⟩ := hv
  rw [List.length_reverse] at hc ⊢
  exact comp_dev_any rs key oroot otag nroot ntag osize otick nsize ntick ao cap w hc (by omega) hS hs hk ho hn hK h0
/-- A list of hashes, one text of any size among them at most. -/
def OneBig (l : List ByteArray) : Prop := ∃ a x b, (l = a ++ b ∨ l = a ++ x :: b) ∧ x.size ≤ 140737488351232 ∧ (∀ s ∈ a, s.size = 32) ∧ ∀ s ∈ b, s.size = 32
theorem OneBig.le {l : List ByteArray} (h : OneBig l) : ∀ s ∈ l, s.size ≤ 140737488351232 := by
  obtain ⟨a, x, b, h1, h2, h3, h4⟩ := h
  intro s hs
  rcases h1 with rfl | rfl
  · rcases List.mem_append.1 hs with h | h
    · rw [h3 s h]; omega
    · rw [h4 s h]; omega
  · rcases List.mem_append.1 hs with h | h
    · rw [h3 s h]; omega
    · rcases List.mem_cons.1 h with rfl | h
      · exact h2
      · rw [h4 s h]; omega
theorem fit_small {l : List ByteArray} (h : ∀ s ∈ l, s.size = 32) : Fit l := Fit.of_le fun s hs => by rw [h s hs]; omega
theorem OneBig.fit {l : List ByteArray} (h : OneBig l) : Fit l := by
  refine ⟨?_, fun s hs => by have := h.le s hs; omega⟩
  obtain ⟨a, x, b, h1, h2, h3, h4⟩ := h
  rcases h1 with rfl | rfl
  · exact (fit_small fun s hs => (List.mem_append.1 hs).elim (h3 s) (h4 s)).1
  · rw [List.pairwise_append, List.pairwise_cons]
    refine ⟨(fit_small h3).1, ⟨fun s hs => by rw [h4 s hs]; omega, (fit_small h4).1⟩, fun s hs t ht => ?_⟩
    rw [h3 s hs]
    rcases List.mem_cons.1 ht with rfl | ht
    · omega
    · rw [h4 t ht]; omega
theorem OneBig.small {l : List ByteArray} (h : ∀ s ∈ l, s.size = 32) : OneBig l := ⟨l, ⟨#[]⟩, [], Or.inl (by simp), by show 0 ≤ _; omega, h, fun s hs => by cases hs⟩
theorem OneBig.rev {l : List ByteArray} (h : OneBig l) : OneBig l.reverse := by
  obtain ⟨a, x, b, h1, h2, h3, h4⟩ := h
  refine ⟨b.reverse, x, a.reverse, ?_, h2, fun s hs => h4 s (List.mem_reverse.1 hs), fun s hs => h3 s (List.mem_reverse.1 hs)⟩
  rcases h1 with rfl | rfl
  · exact Or.inl List.reverse_append
  · exact Or.inr (by simp)
theorem OneBig.cons {l : List ByteArray} (h : OneBig l) (s : ByteArray) (hs : s.size = 32) : OneBig (s :: l) := by
  obtain ⟨a, x, b, h1, h2, h3, h4⟩ := h
  refine ⟨s :: a, x, b, ?_, h2, fun t ht => ?_, h4⟩
  · rcases h1 with rfl | rfl
    · exact Or.inl rfl
    · exact Or.inr rfl
  · rcases List.mem_cons.1 ht with rfl | ht
    · exact hs
    · exact h3 t ht
theorem OneBig.big {l : List ByteArray} (h : ∀ s ∈ l, s.size = 32) (o : ByteArray) (ho : o.size ≤ 140737488351232) : OneBig (o :: l) := ⟨[], o, l, Or.inr rfl, ho, (fun s hs => by cases hs), h⟩
theorem OneBig.snoc {l : List ByteArray} (h : ∀ s ∈ l, s.size = 32) (o : ByteArray) (ho : o.size ≤ 140737488351232) : OneBig (l ++ [o]) := ⟨l, o, [], Or.inr rfl, ho, h, fun s hs => by cases hs⟩
theorem OneBig.set {l : List ByteArray} (h : ∀ s ∈ l, s.size = 32) (j : Nat) (o : ByteArray) (ho : o.size ≤ 140737488351232) : OneBig (l.set j o) := by
  by_cases hj : j < l.length
  · refine ⟨l.take j, o, l.drop (j + 1), Or.inr ?_, ho, fun s hs => h s (List.mem_of_mem_take hs), fun s hs => h s (List.mem_of_mem_drop hs)⟩
    exact List.set_eq_take_append_cons_drop.trans (if_pos hj)
  · rw [List.set_eq_of_length_le (by omega)]; exact OneBig.small h
/-- Audits, of such a list. -/
theorem auditsC (l : List ByteArray) (key leaf pt hr ht gr gt : ByteArray) (d hs hk gs gk index : Int) (v : Value) (w : World) (hl : l.length ≤ 1000) (hv : Lst w v l) (hF1 : OneBig (leaf :: l)) (hF2 : OneBig (gr :: l))
    (h1 : key.size ≤ 140737488351232) (h3 : hr.size ≤ 140737488351232) (hK : Tab w) (h0 : 0 < w.heap.size) :
    Calls Tryd.prog 4 #[.string key, .agg #[.string leaf, .int .i64 d, .string pt], .agg #[.int .i64 hs, .int .i64 hk, .string hr, .string ht], .agg #[.int .i64 gs, .int .i64 gk, .string gr, .string gt], .int .i64 0, .int .i64 index, v] w fun r w' => r = .returned (.bool true) ∧ Below w.heap.size w w' := by
  obtain ⟨ao, cap, rfl, hc, hS, hnil⟩ := hv
  have fits : ∀ x : ByteArray, OneBig (x :: l) → Fit (x :: l.reverse) := fun x h => by
    have hf := h.fit
    refine ⟨List.pairwise_cons.2 ⟨fun s hs => (List.pairwise_cons.1 hf.1).1 s (List.mem_reverse.1 hs), ?_⟩, fun s hs => hf.2 s ?_⟩
    · rw [List.pairwise_reverse]
      have e : (fun a b : ByteArray => b.size + a.size ≤ 140737488355190) = (fun a b : ByteArray => a.size + b.size ≤ 140737488355190) := by funext a b; rw [Nat.add_comm]
      rw [e]
      exact (List.pairwise_cons.1 hf.1).2
    · rcases List.mem_cons.1 hs with rfl | hs
      · exact List.mem_cons_self
      · exact List.mem_cons_of_mem _ (List.mem_reverse.1 hs)
  exact audits_any l key leaf pt hr ht gr gt d hs hk gs gk 0 index ao cap w hnil hc (by omega) hS (fits _ hF1) (fits _ hF2) (fun s hs => hF1.le s (List.mem_cons_of_mem _ hs)) h1 (hF1.le leaf List.mem_cons_self) h3 (hF2.le gr List.mem_cons_self) hK h0
end Go.Proofs.YtoanekgphcijfaaDoor
namespace Go.Proofs.YtoanekgphcijfaaDoor
open Go.RowKit
open Sha

/-- A goal at which a walk stands still. -/
def Halt (p : Prop) : Prop := p
theorem halt {p : Prop} (h : Halt p) : p := h
theorem Strs.under {w w' : World} {g o B : Nat} {l : List ByteArray} (h : Strs w (some ⟨g, o, none⟩) l) (hg : g < B) (hb : Below B w w') : Strs w' (some ⟨g, o, none⟩) l := by
  intro j hj
  obtain ⟨g', o', he, hlt, hc⟩ := h j hj
  cases he
  exact ⟨g, o, rfl, Nat.lt_of_lt_of_le hlt hb.size, by rw [hb.cell (p := ⟨g, o + j, none⟩) hg]; exact hc⟩
theorem tdiv_nine (c : Int) (h1 : -9223372036854775808 ≤ c) (h2 : c ≤ 9223372036854775807) : -9223372036854775808 ≤ c.tdiv 9 ∧ c.tdiv 9 ≤ 9223372036854775807 := by
  by_cases h : 0 ≤ c
  · rw [Int.tdiv_eq_ediv_of_nonneg h]; omega
  · have e : c.tdiv 9 = -((-c).tdiv 9) := by rw [Int.neg_tdiv, Int.neg_neg]
    rw [e, Int.tdiv_eq_ediv_of_nonneg (by omega)]; omega
theorem pick_ways (c : Int) (w : World) (h1 : -9223372036854775808 ≤ c) (h2 : c ≤ 9223372036854775807) :
    Calls Tryd.prog 23 #[.int .i64 (c.tdiv 9), .int .i64 7] w fun r w' => (r = .returned (.int .i64 0) ∨ r = .returned (.int .i64 1) ∨ r = .returned (.int .i64 2) ∨ r = .returned (.int .i64 3) ∨ r = .returned (.int .i64 4) ∨ r = .returned (.int .i64 5) ∨ r = .returned (.int .i64 6)) ∧ w' = w := by
  have hb := tdiv_nine c h1 h2
  refine (pick_seven (c.tdiv 9) w hb.1 hb.2).mono ?_
  rintro e w' ⟨⟨j, hj, rfl⟩, rfl⟩
  refine ⟨?_, rfl⟩
  have : j = 0 ∨ j = 1 ∨ j = 2 ∨ j = 3 ∨ j = 4 ∨ j = 5 ∨ j = 6 := by omega
  rcases this with rfl | rfl | rfl | rfl | rfl | rfl | rfl
  · exact Or.inl rfl
  · exact Or.inr (Or.inl rfl)
  · exact Or.inr (Or.inr (Or.inl rfl))
  · exact Or.inr (Or.inr (Or.inr (Or.inl rfl)))
  · exact Or.inr (Or.inr (Or.inr (Or.inr (Or.inl rfl))))
  · exact Or.inr (Or.inr (Or.inr (Or.inr (Or.inr (Or.inl rfl)))))
  · exact Or.inr (Or.inr (Or.inr (Or.inr (Or.inr (Or.inr rfl)))))
theorem OwnS.set {w : World} {base : Nat} {v : Value} {l : List ByteArray} (h : OwnS w base v l) {b : Nat} (hb : b < base) (o : Nat) (u : Value) : OwnS (w.setCell ⟨b, o, none⟩ u) base v l :=
  Own.kept h fun g hg => Below.heap_setCell _ _ _ _ (by have := (Own.lt h g hg).1; show g ≠ b; omega)
theorem lst_lit (w : World) (s : ByteArray) : Lst (w.alloc (.cells #[.string s] 9)) (.slice (some ⟨w.heap.size, 0, none⟩) 1 1) [s] := (ownS_lit w s).lst
theorem OwnS.alloc {w : World} {base : Nat} {v : Value} {l : List ByteArray} (h : OwnS w base v l) (o : Obj) : OwnS (w.alloc o) base v l := Own.alloc h o
theorem strs_map (w : World) (g o : Nat) (news : List ByteArray) (hS : Strs w (some ⟨g, o, none⟩) news) : ∀ (j : Nat) (u : Value), (news.map Value.string)[j]? = some u → w.cell? ((⟨g, o, none⟩ : Addr).add j) = some u := by
  intro j u hu
  rw [List.getElem?_map] at hu
  rcases Nat.lt_or_ge j news.length with hj | hj
  · rw [List.getElem?_eq_getElem hj] at hu
    obtain ⟨g', o', he, _, hc⟩ := hS j hj
    cases he
    rw [addr_add, hc]
    simpa using hu
  · rw [List.getElem?_eq_none hj] at hu; cases hu
/-- append of a list in memory: what it leaves, and where. -/
theorem run_appS {w : World} (ty : TypeId) (base : Nat) (v : Value) (l : List ByteArray) (hown : OwnS w base v l) (vx : Value) (news : List ByteArray) (hL : Lst w vx news) (hbytes : (l.length + news.length) * 16 ≤ 140737488355328) (hbase : base ≤ w.heap.size) :
    ∃ v' w', (Builtin.append_ #[22, 22] ty #[v, vx]).run Tryd.prog w = .ok v' w' ∧ OwnS w' base v' (l ++ news) ∧ w.grownBy w' v.ownBlock ∧ (∀ k, v'.ownBlock = some k → v.ownBlock = some k ∨ w.heap.size ≤ k) := by
  obtain ⟨i, hi0, hz0, hz1, hz2⟩ := info_parts info9'
  obtain ⟨ao, cap, rfl, hcap, hS, hnil⟩ := hL
  cases ao with
  | none =>
    have hn := hnil rfl
    subst hn
    refine ⟨v, w, ?_, by rw [List.append_nil]; exact hown, ⟨rfl, rfl, rfl, Nat.le_refl _, fun _ _ _ => rfl⟩, fun k hk => Or.inl hk⟩
    obtain ⟨vo, vcap, rfl, hvc, _⟩ := hown.opened
    cases vo <;> simp [Builtin.append_, run_underlying und22, sizeOf, typeInfo, hi0, Builtin.lenOf, Builtin.firstCells, hvc, storeCells, Result.andThen]
  | some a =>
    have hnews : ∀ (j : Nat) (u : Value), (news.map Value.string)[j]? = some u → w.cell? (a.add j) = some u := by
      by_cases hne : news = []
      · subst hne
        intro j u hu
        simp at hu
      · obtain ⟨g, o, he, _, _⟩ := hS 0 (by cases news with | nil => exact absurd rfl hne | cons x r => simp)
        cases he
        exact strs_map w g o news hS
    have key : ∀ b, b ≤ w.heap.size → OwnS w b v l → ∃ v' w', (Builtin.append_ #[22, 22] ty #[v, .slice (some a) news.length cap]).run Tryd.prog w = .ok v' w' ∧ OwnS w' b v' (l ++ news) ∧ w.grownBy w' v.ownBlock := by
      intro b hb ho
      obtain ⟨v', w', hr, h2, h3, _⟩ := run_append_own (P := Tryd.prog) w b 22 ty 9 i (.string ⟨#[]⟩) 1 16 und22 hi0 hz0 hz1 hz2 rfl (by decide) v (l.map Value.string).length (l.map Value.string) ho a news.length cap (news.map Value.string) (by simp) hnews (strv_one _) (by rw [List.length_map]; unfold maxLen; omega) (by rw [List.length_map]; exact hbytes) hb
      exact ⟨v', w', hr, by unfold OwnS Own; simpa using h2, h3⟩
    obtain ⟨v', w', hr, h2, h3⟩ := key base hbase hown
    refine ⟨v', w', hr, h2, h3, ?_⟩
    have hown' := hown
    obtain ⟨hlen, hcase⟩ := hown
    rcases hcase with ⟨rfl, hn0⟩ | ⟨g, vcap, cur, rfl, hg, hh, hc, hm, hs, ht⟩
    · rw [List.length_map] at hn0
      have hl0 := List.eq_nil_of_length_eq_zero hn0
      subst hl0
      obtain ⟨v2, w2, hr2, h22, _⟩ := key w.heap.size (Nat.le_refl _) (Own.nil _ _ _)
      rw [hr] at hr2
      injection hr2 with e1 e2
      subst e1 e2
      exact fun k hk => Or.inr (Own.lt h22 k hk).1
    · have holds : ∀ (j : Nat) (u : Value), (l.map Value.string)[j]? = some u → w.cell? ((⟨g, 0, none⟩ : Addr).add j) = some u := fun j u hu => by
        obtain ⟨g', he, _, hc⟩ := Own.cell hown' j u hu
        cases he
        rw [addr_add, Nat.zero_add]; exact hc
      by_cases hroom : (l.map Value.string).length + news.length ≤ vcap
      · have hr2 := run_append_room (P := Tryd.prog) w 22 ty 9 i und22 hi0 g (l.map Value.string).length vcap cur hh a news.length cap (news.map Value.string) (by rw [hz1]; simp) hnews (strv_one _) hroom (by rw [hz1, hs]; simp only [List.length_map] at hroom ⊢; omega)
        rw [hr] at hr2
        injection hr2 with e1 e2
        subst e1
        exact fun k hk => Or.inl hk
      · have hr2 := run_append_grow (P := Tryd.prog) w 22 ty 9 i (.string ⟨#[]⟩) und22 hi0 hz0 ⟨g, 0, none⟩ (l.map Value.string).length vcap (l.map Value.string) (by rw [hz1]; simp) holds a news.length cap (news.map Value.string) (by rw [hz1]; simp) hnews (by omega) (by rw [List.length_map]; omega) (growslice_fits (by omega) (by rw [hz2, List.length_map]; exact hbytes))
        rw [hr] at hr2
        injection hr2 with e1 e2
        subst e1
        intro k hk
        have : w.heap.size = k := Option.some.inj hk
        exact Or.inr (by omega)
/-- The same as a step of a walk. -/
theorem wpList_appG {w : World} {ops : Array Oper} {rest : List Oper} {o : Oper} {a : Act} {Q : Exit → Act → World → Prop} (hgd : o.guard = none) (s x : Operand)
    (ho : o.op = .call { callee := .builtin .append, args := #[s, x], argTypes := #[22, 22] })
    (base : Nat) (v : Value) (l : List ByteArray) (hs : a.eval s = v) (hown : OwnS w base v l) (vx : Value) (news : List ByteArray) (hx : a.eval x = vx) (hL : Lst w vx news) (hbytes : (l.length + news.length) * 16 ≤ 140737488355328) (hbase : base ≤ w.heap.size)
    (h : ∀ v' w', OwnS w' base v' (l ++ news) → w.grownBy w' v.ownBlock → (∀ k, v'.ownBlock = some k → v.ownBlock = some k ∨ w.heap.size ≤ k) → wpList Tryd.prog ops Q rest (a.put o.dst v') w') : wpList Tryd.prog ops Q (o :: rest) a w := by
  refine wpList_plain hgd fun K hK => ?_
  obtain ⟨v', w', hr, h2, h3, h4⟩ := run_appS o.type base v l hown vx news hL hbytes hbase
  unfold Oper.wp execOp
  simp only [ho, resolve, invoke, builtin, Sem.run_bind, Sem.run_pure, Result.andThen_ok, List.map_toArray, List.map_cons, List.map_nil, hs, hx, hr]
  exact hK _ _ (h v' w' h2 h3 h4)
end Go.Proofs.YtoanekgphcijfaaDoor
namespace Go.Proofs.YtoanekgphcijfaaDoor
open Go.RowKit
open Sha

set_option maxRecDepth 100000 in
set_option maxHeartbeats 2000000 in
theorem paths_none (ss : List ByteArray) (key other : ByteArray) (ao ra : Option Addr) (cap R rcap : Nat) (w : World) (hc : ss.length ≤ cap) (hm : ss.length * 16 ≤ 140737488351232) (hS : Strs w ao ss) (hs : ∀ s ∈ ss, s.size ≤ 140737488351232)
    (ho : other.size ≤ 140737488351232) (hK : Tab w) (h0 : 0 < w.heap.size) (hcase : R < 4 ∨ ss.length = 0 ∨ 200 < ss.length) (hR : R ≤ 140737488355328) :
    Calls Tryd.prog 5 #[.string key, .slice ao ss.length cap, .slice ra R rcap, .string other] w fun r w' => r = .returned (.bool true) ∧ Below w.heap.size w w' := by
  go_enter Tryd.func5, Tryd.ntmps5
  go_wp2_with fail
  refine (rleaves_any ss ao cap w hc (by omega) hS (fun s h => by have := hs s h; omega)).mono ?_
  rintro e w1 ⟨v, rfl, hown, hb1⟩
  obtain ⟨lo, lcap, rfl, hlc, hlm, hLS⟩ := hown.opened
  have hs1 := hb1.size
  have HK : Hid (Tab w1) := hK.below hb1 h0
  rw [leafS_length]
  generalize ss.length = L at *
  clear hS hs hown hLS hlc hK
  have fin : Hid (∀ wx, Below w.heap.size w wx → Tab wx → Calls Tryd.prog 8 #[.string other] wx fun r w' => r = .returned (.string (str (leafH other.data.toList))) ∧ Below wx.heap.size wx w') := fun wx hb hK => vleaf_any other wx (by omega) hK (by have := hb.size; omega)
  have fin2 : Hid (∀ wx, Calls Tryd.prog 14 #[.string other] wx fun r w' => r = .returned (.string (str (leafH other.data.toList))) ∧ Below wx.heap.size wx w') := fun wx => rleaf_any other wx (by omega)
  generalize str (leafH other.data.toList) = z at *
  have hzz := eqS_refl z
  by_cases h4 : R < 4
  · have h4' : (R : Int) < 4 := by omega
    clear hcase
    go_wp2_with fail
    refine (fin.out w1 hb1 HK.out).mono ?_
    rintro e w2 ⟨rfl, hb2'⟩
    have hb2 := hb1.trans (hb2'.mono hs1)
    have hs2 := hb2.size
    go_wp2_with fail
    refine (fin2.out w2).mono ?_
    rintro e w3 ⟨rfl, hb3'⟩
    have hb3 := hb2.trans (hb3'.mono hs2)
    clear hb2' hb3'
    go_wp2
    go_ret
    exact ⟨by simp, hb3⟩
  · have h4' : ¬ (R : Int) < 4 := by omega
    by_cases hL : L = 0
    · subst hL
      clear hcase
      go_wp2_with fail
      refine (fin.out w1 hb1 HK.out).mono ?_
      rintro e w2 ⟨rfl, hb2'⟩
      have hb2 := hb1.trans (hb2'.mono hs1)
      have hs2 := hb2.size
      go_wp2_with fail
      refine (fin2.out w2).mono ?_
      rintro e w3 ⟨rfl, hb3'⟩
      have hb3 := hb2.trans (hb3'.mono hs2)
      clear hb2' hb3'
      go_wp2
      go_ret
      exact ⟨by simp, hb3⟩
    · have hL' : ¬ (L : Int) = 0 := by omega
      have hL2 : (L : Int) > 200 := by omega
      clear hcase
      go_wp2_with fail
      refine (fin.out w1 hb1 HK.out).mono ?_
      rintro e w2 ⟨rfl, hb2'⟩
      have hb2 := hb1.trans (hb2'.mono hs1)
      have hs2 := hb2.size
      go_wp2_with fail
      refine (fin2.out w2).mono ?_
      rintro e w3 ⟨rfl, hb3'⟩
      have hb3 := hb2.trans (hb3'.mono hs2)
      clear hb2' hb3'
      go_wp2
      go_ret
      exact ⟨by simp, hb3⟩
end Go.Proofs.YtoanekgphcijfaaDoor
