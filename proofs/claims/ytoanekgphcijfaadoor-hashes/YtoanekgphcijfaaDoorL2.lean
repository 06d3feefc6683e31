import Derived.Test.YtoanekgphcijfaaDoorL1
namespace Go.Proofs.YtoanekgphcijfaaDoor
open Go.RowKit
open Sha

theorem Row.strs {w : World} {G : Nat} {ss : List ByteArray} {k : Nat} (hr : Row w G 9 (roomRow ss k)) : Strs w (some ⟨G, 0, none⟩) ss := fun j hj => ⟨G, 0, rfl, hr.lt, by rw [hr.cell, Nat.zero_add]; exact roomRow_low _ _ _ hj⟩
set_option maxHeartbeats 2000000 in
theorem hashes_some (a key : ByteArray) (ss : List ByteArray) (ad : Addr) (cap : Nat) (w : World) (ha : a.size ≤ 140737488351232) (hk : key.size ≤ 140737488351232) (hc : ss.length ≤ cap) (hm : ss.length * 16 ≤ 140737488351232)
    (hS : Strs w (some ad) ss) (hs : ∀ s ∈ ss, s.size ≤ 140737488351232) (hK : Tab w) (h0 : 0 < w.heap.size) :
    Calls Tryd.prog 3 #[.string a, .string key, .slice (some ad) ss.length cap] w fun r w' => r = .returned (.bool true) ∧ Below w.heap.size w w' := by
  go_enter Tryd.func3, Tryd.ntmps3
  go_wp2_with fail
  refine (vleaf_any a w (by omega) hK h0).mono ?_
  rintro e w1 ⟨rfl, hb1⟩
  have hs1 := hb1.size
  go_wp2_with fail
  refine (vtag_any key a w1 (by omega) (by omega) (hK.below hb1 h0) (by omega)).mono ?_
  rintro e w2 ⟨rfl, hb2'⟩
  have hb2 := hb1.trans (hb2'.mono hs1)
  have hs2 := hb2.size
  go_wp2_with fail
  refine (roomy_any ss ad cap w2 hc hm (hS.below hb2)).mono ?_
  rintro e w3 ⟨rfl, hr3, hb3'⟩
  have hb3 := hb2.trans (hb3'.mono hs2)
  have hs3 := hb3.size
  generalize w2.heap.size = G at *
  go_wp2_with fail
  refine (vroot_any ss (some ⟨G, 0, none⟩) (ss.length + 8) w3 (by omega) (by omega) hr3.strs (fun s h => by have := hs s h; omega) (hK.below hb3 h0) (by omega)).mono ?_
  rintro e w4 ⟨rfl, hb4'⟩
  have hb4 := hb3.trans (hb4'.mono hs3)
  have hs4 := hb4.size
  have hr4 := hr3.below hb4' hr3.lt
  go_wp2_with fail
  refine (whole_any ss ad cap G w4 hm (hS.below hb4) hr4).mono ?_
  rintro e w5 ⟨rfl, n5, hw5⟩
  have hb5 : Below w.heap.size w w5 := by rw [hw5]; exact hb4.trans (bel_drewN _ _ _)
  have hr5 : Row w5 G 9 (roomRow ss 8) := by rw [hw5]; exact hr4.drewN n5
  have hs5 := hb5.size
  clear hw5 hr4 hr3 hb3' hb4'
  go_wp2_with fail
  refine (rleaves_any ss (some ad) cap w5 hc (by omega) (hS.below hb5) (fun s h => by have := hs s h; omega)).mono ?_
  rintro e w6 ⟨vl, rfl, hown6, hb6'⟩
  have hb6 := hb5.trans (hb6'.mono hs5)
  have hs6 := hb6.size
  have hr6 := hr5.below hb6' hr5.lt
  obtain ⟨lo, lcap, rfl, hlc, hlm, hLS⟩ := hown6.opened
  rw [leafS_length] at hlc ⊢
  go_wp2_with fail
  refine (rleaf_any a w6 (by omega)).mono ?_
  rintro e w7 ⟨rfl, hb7'⟩
  have hb7 := hb6.trans (hb7'.mono hs6)
  have hs7 := hb7.size
  have hr7 := hr6.below hb7' hr6.lt
  have hLS7 := hLS.below hb7'
  go_wp2_with fail
  refine (rtag_any key a w7 (by omega) (by omega)).mono ?_
  rintro e w8 ⟨rfl, hb8'⟩
  have hb8 := hb7.trans (hb8'.mono hs7)
  have hs8 := hb8.size
  have hr8 := hr7.below hb8' hr7.lt
  have hLS8 := hLS7.below hb8'
  go_wp2_with fail
  refine (rroot_all ss.length (leafS ss) lo lcap w8 (leafS_length ss) hlc (by omega) hLS8 (leafS_32 ss)).mono ?_
  rintro e w9 ⟨rfl, hb9'⟩
  rw [tol_leafS]
  have hb9 := hb8.trans (hb9'.mono hs8)
  have hs9 := hb9.size
  have hr9 := hr8.below hb9' hr8.lt
  clear hb8' hb9' hb7' hb6' hr8 hr7 hr6 hr5 hLS8 hLS7 hLS hown6 hb1 hb2 hb2' hb3 hb4 hb5 hb6 hb7 hb8
  go_wp2
  go_loopw [13] (fun i wr => ∃ k : Nat, k ≤ ss.length ∧ i = .int .i64 (k : Int) ∧ Below w.heap.size w wr ∧ ∃ cs, Row wr G 9 cs ∧ cs.size = ss.length + 8 ∧ ∀ j, j < k → cs[j]? = some (.string a)) (fun i _ => ss.length - (intOf i).toNat)
  case atStart => exact ⟨0, by omega, rfl, hb9, _, hr9, roomRow_size _ _, by omega⟩
  case round =>
    clear hb9 hr9
    obtain ⟨k, hk', rfl, hbe, cs, hr, hcs, hdone⟩ := hrel
    by_cases hlt : k < ss.length
    · obtain ⟨v0, hv0⟩ : ∃ v, wr.cell? ⟨G, k, none⟩ = some v := ⟨cs[k]'(by omega), by rw [hr.cell]; simp⟩
      have hf0 := hr.free k
      have HD := hdone
      clear hdone hS hs hK
      go_wp2
      have hb2 := hbe.setCell (p := ⟨G, k, none⟩) hs2 (.string a)
      have hr2 := hr.setCell k (.string a)
      go_roundw
      case rel =>
        refine ⟨k + 1, by omega, by go_num, hb2, _, hr2, by simpa using hcs, ?_⟩
        intro j hj
        by_cases hjk : j = k
        · subst hjk; rw [Array.getElem?_setIfInBounds_self_of_lt (by omega)]
        · rw [Array.getElem?_setIfInBounds_ne (by omega)]; exact HD j (by omega)
      case measure => simp [intOf]; omega
    · obtain rfl : k = ss.length := by omega
      have hS' : Strs wr (some ⟨G, 0, none⟩) (List.replicate ss.length a) := fun j hj => by
        rw [List.length_replicate] at hj
        exact ⟨G, 0, rfl, hr.lt, by rw [hr.cell, Nat.zero_add, hdone j hj, List.getElem_replicate]⟩
      have hl' : (List.replicate ss.length a).length = ss.length := List.length_replicate
      have hs' : ∀ s ∈ List.replicate ss.length a, s.size ≤ 140737488351232 := fun s h => by rw [(List.mem_replicate.1 h).2]; exact ha
      generalize List.replicate ss.length a = tt at *
      have hsz := hbe.size
      have hKr := hK.below hbe h0
      clear hdone hs hS hK
      have HL' : Hid (tt.length = ss.length) := hl'
      have c1 := vroot_any tt (some ⟨G, 0, none⟩) (ss.length + 8) wr (by omega) (by omega) hS' (fun s h => by have := hs' s h; omega) hKr (by omega)
      rw [HL'.out] at c1
      clear hl'
      go_wp2_with fail
      refine c1.mono ?_
      clear c1
      rintro e wa ⟨rfl, hba'⟩
      have hba := hbe.trans (hba'.mono hsz)
      have hsa := hba.size
      have c2 := rleaves_any tt (some ⟨G, 0, none⟩) (ss.length + 8) wa (by rw [HL'.out]; omega) (by rw [HL'.out]; omega) (hS'.below hba') (fun s h => by have := hs' s h; omega)
      rw [HL'.out] at c2
      go_wp2_with fail
      refine c2.mono ?_
      clear c2
      rintro e wb ⟨vb, rfl, hownb, hbb'⟩
      have hbb := hba.trans (hbb'.mono hsa)
      have hsb := hbb.size
      obtain ⟨lo2, lcap2, rfl, hlc2, hlm2, hLS2⟩ := hownb.opened
      rw [leafS_length, HL'.out] at hlc2
      rw [leafS_length, HL'.out]
      have c3 := rroot_all ss.length (leafS tt) lo2 lcap2 wb (by rw [leafS_length, HL'.out]) hlc2 (by omega) hLS2 (leafS_32 tt)
      rw [tol_leafS] at c3
      go_wp2_with fail
      refine c3.mono ?_
      clear c3
      rintro e wc ⟨rfl, hbc'⟩
      have hbc := hbb.trans (hbc'.mono hsb)
      clear hba' hbb' hbc' hLS2 hownb hS' hs' hKr
      go_wp2
      go_ret
      exact ⟨by simp, hbc⟩
set_option maxHeartbeats 2000000 in
theorem hashes_nil (a key : ByteArray) (w : World) (ha : a.size ≤ 140737488351232) (hk : key.size ≤ 140737488351232) (hK : Tab w) (h0 : 0 < w.heap.size) :
    Calls Tryd.prog 3 #[.string a, .string key, .slice none 0 0] w fun r w' => r = .returned (.bool true) ∧ Below w.heap.size w w' := by
  have hS : ∀ wx, Strs wx none [] := fun _ j hj => absurd hj (by simp)
  have hno : ∀ (s : ByteArray), s ∈ ([] : List ByteArray) → False := fun s h => by cases h
  have HS : Hid (∀ wx, Strs wx none []) := hS
  clear hS
  go_enter Tryd.func3, Tryd.ntmps3
  go_wp2_with fail
  refine (vleaf_any a w (by omega) hK h0).mono ?_
  rintro e w1 ⟨rfl, hb1⟩
  have hs1 := hb1.size
  go_wp2_with fail
  refine (vtag_any key a w1 (by omega) (by omega) (hK.below hb1 h0) (by omega)).mono ?_
  rintro e w2 ⟨rfl, hb2'⟩
  have hb2 := hb1.trans (hb2'.mono hs1)
  have hs2 := hb2.size
  go_wp2_with fail
  refine (roomy_nil w2 0 0).mono ?_
  rintro e w3 ⟨rfl, hw3⟩
  subst hw3
  have c1 : Calls Tryd.prog 11 #[.slice none 0 0] w3 fun r w' => r = .returned (.string (str (root (leaves [])))) ∧ Below w3.heap.size w3 w' := vroot_any [] none 0 w3 (by simp) (by simp) (HS.out w3) (fun s h => (hno s h).elim) (hK.below hb2 h0) (by omega)
  go_wp2_with fail
  refine c1.mono ?_
  clear c1
  rintro e w4 ⟨rfl, hb4'⟩
  have hb4 := hb2.trans (hb4'.mono hs2)
  have hs4 := hb4.size
  go_wp2_with fail
  refine (whole_nil w4 0 0).mono ?_
  rintro e w5 ⟨rfl, hw5⟩
  subst hw5
  have c2 : Calls Tryd.prog 13 #[.slice none 0 0] w5 fun r w' => ∃ v, r = .returned v ∧ OwnS w' w5.heap.size v (leafS []) ∧ Below w5.heap.size w5 w' := rleaves_any [] none 0 w5 (by simp) (by simp) (HS.out w5) (fun s h => (hno s h).elim)
  go_wp2_with fail
  refine c2.mono ?_
  clear c2
  rintro e w6 ⟨vl, rfl, hown6, hb6'⟩
  have hb6 := hb4.trans (hb6'.mono hs4)
  have hs6 := hb6.size
  obtain ⟨lo, lcap, hvl, hlc, hlm, hLS⟩ := hown6.opened
  rw [leafS_length] at hvl
  simp only [List.length_nil] at hvl
  subst hvl
  go_wp2_with fail
  refine (rleaf_any a w6 (by omega)).mono ?_
  rintro e w7 ⟨rfl, hb7'⟩
  have hb7 := hb6.trans (hb7'.mono hs6)
  have hs7 := hb7.size
  go_wp2_with fail
  refine (rtag_any key a w7 (by omega) (by omega)).mono ?_
  rintro e w8 ⟨rfl, hb8'⟩
  have hb8 := hb7.trans (hb8'.mono hs7)
  have hs8 := hb8.size
  have c3 : Calls Tryd.prog 16 #[.slice lo 0 lcap] w8 fun r w' => r = .returned (.string (str (root (leaves [])))) ∧ Below w8.heap.size w8 w' := rroot_all 0 [] lo lcap w8 rfl (by omega) (by omega) (fun j hj => absurd hj (by simp)) (fun s h => (hno s h).elim)
  go_wp2_with fail
  refine c3.mono ?_
  clear c3
  rintro e w9 ⟨rfl, hb9'⟩
  have hb9 := hb8.trans (hb9'.mono hs8)
  have hs9 := hb9.size
  clear hb8' hb9' hb7' hb6' hb4' hLS hown6 hb1 hb2 hb2' hb4 hb6 hb7 hb8
  go_wp2
  refine wp_loop_rounds 1 ?_
  rw [rounds_succ]
  have c1 : Calls Tryd.prog 11 #[.slice none 0 0] w9 fun r w' => r = .returned (.string (str (root (leaves [])))) ∧ Below w9.heap.size w9 w' := vroot_any [] none 0 w9 (by simp) (by simp) (HS.out w9) (fun s h => (hno s h).elim) (hK.below hb9 h0) (by omega)
  go_wp2_with fail
  refine c1.mono ?_
  clear c1
  rintro e wa ⟨rfl, hba'⟩
  have hba := hb9.trans (hba'.mono hs9)
  have hsa := hba.size
  have c2 : Calls Tryd.prog 13 #[.slice none 0 0] wa fun r w' => ∃ v, r = .returned v ∧ OwnS w' wa.heap.size v (leafS []) ∧ Below wa.heap.size wa w' := rleaves_any [] none 0 wa (by simp) (by simp) (HS.out wa) (fun s h => (hno s h).elim)
  go_wp2_with fail
  refine c2.mono ?_
  clear c2
  rintro e wb ⟨vb, rfl, hownb, hbb'⟩
  have hbb := hba.trans (hbb'.mono hsa)
  have hsb := hbb.size
  obtain ⟨lo2, lcap2, hvb, hlc2, hlm2, hLS2⟩ := hownb.opened
  rw [leafS_length] at hvb
  simp only [List.length_nil] at hvb
  subst hvb
  have c3 : Calls Tryd.prog 16 #[.slice lo2 0 lcap2] wb fun r w' => r = .returned (.string (str (root (leaves [])))) ∧ Below wb.heap.size wb w' := rroot_all 0 [] lo2 lcap2 wb rfl (by omega) (by omega) (fun j hj => absurd hj (by simp)) (fun s h => (hno s h).elim)
  go_wp2_with fail
  refine c3.mono ?_
  clear c3
  rintro e wc ⟨rfl, hbc'⟩
  have hbc := hbb.trans (hbc'.mono hsb)
  clear hba' hbb' hbc' hLS2 hownb
  go_wp2
  go_ret
  exact ⟨by simp, hbc⟩
end Go.Proofs.YtoanekgphcijfaaDoor
