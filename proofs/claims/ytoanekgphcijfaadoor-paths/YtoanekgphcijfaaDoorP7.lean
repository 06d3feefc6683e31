import Derived.Test.YtoanekgphcijfaaDoorP6
import Derived.Deep.RegionHeld3
namespace Go.Proofs.YtoanekgphcijfaaDoor
open Go.RowKit
open Sha

set_option maxRecDepth 100000 in
set_option maxHeartbeats 8000000 in
theorem paths_main (ss : List ByteArray) (key other : ByteArray) (ao : Option Addr) (cap gr og R rcap : Nat) (c0 c1 c2 c3 : Int) (w : World) (hc : ss.length ≤ cap) (hS : Strs w ao ss) (hs : ∀ s ∈ ss, s.size ≤ 140737488351232)
    (hL1 : 1 ≤ ss.length) (hL2 : ss.length ≤ 200) (hR : 4 ≤ R) (hR2 : R ≤ 140737488355328) (hgr : gr < w.heap.size)
    (r0 : w.cell? ⟨gr, og, none⟩ = some (.int .i64 c0)) (r1 : w.cell? ⟨gr, og + 1, none⟩ = some (.int .i64 c1)) (r2 : w.cell? ⟨gr, og + 2, none⟩ = some (.int .i64 c2)) (r3 : w.cell? ⟨gr, og + 3, none⟩ = some (.int .i64 c3))
    (b0 : -9223372036854775808 ≤ c0 ∧ c0 ≤ 9223372036854775807) (b1 : -9223372036854775808 ≤ c1 ∧ c1 ≤ 9223372036854775807) (b2 : -9223372036854775808 ≤ c2 ∧ c2 ≤ 9223372036854775807) (b3 : -9223372036854775808 ≤ c3 ∧ c3 ≤ 9223372036854775807)
    (hk : key.size ≤ 140737488351232) (ho : other.size ≤ 140737488351232) (hK : Tab w) (h0 : 0 < w.heap.size) :
    Calls Tryd.prog 5 #[.string key, .slice ao ss.length cap, .slice (some ⟨gr, og, none⟩) R rcap, .string other] w fun r w' => r = .returned (.bool true) ∧ Below w.heap.size w w' := by
  have KT : Hid (Tab w) := hK
  have R3 : Hid (w.cell? ⟨gr, og + 3, none⟩ = some (.int .i64 c3)) := r3
  clear hK
  go_enter Tryd.func5, Tryd.ntmps5
  go_wp2_with fail
  refine (rleaves_any ss ao cap w hc (by omega) hS (fun s h => by have := hs s h; omega)).mono ?_
  rintro e w1 ⟨v, rfl, hown, hb1⟩
  obtain ⟨lo, lcap, rfl, hlc, hlm, hLS⟩ := hown.opened
  have h32 := leafS_32 ss
  have hlen := leafS_length ss
  rw [hlen] at hlc ⊢
  generalize leafS ss = hs at *
  generalize ss.length = L at *
  obtain ⟨gl, ol, rfl, hgl, hx0⟩ := hLS 0 (by omega)
  clear hx0
  have LS : Hid (Strs w1 (some ⟨gl, ol, none⟩) hs) := hLS
  have H32 : Hid (∀ s ∈ hs, s.size = 32) := h32
  have HLN : Hid (hs.length = L) := hlen
  have hs1 := hb1.size
  replace r0 : w1.cell? ⟨gr, og, none⟩ = some (.int .i64 c0) := by rw [hb1.cell (p := ⟨gr, og, none⟩) hgr]; exact r0
  replace r1 : w1.cell? ⟨gr, og + 1, none⟩ = some (.int .i64 c1) := by rw [hb1.cell (p := ⟨gr, og + 1, none⟩) hgr]; exact r1
  replace r2 : w1.cell? ⟨gr, og + 2, none⟩ = some (.int .i64 c2) := by rw [hb1.cell (p := ⟨gr, og + 2, none⟩) hgr]; exact r2
  replace r3 : w1.cell? ⟨gr, og + 3, none⟩ = some (.int .i64 c3) := by rw [hb1.cell (p := ⟨gr, og + 3, none⟩) hgr]; exact r3
  have hL1' : ((L : Int) == 0) = false := beq_false_of_ne (by omega)
  have hL2' : decide ((200 : Int) < (L : Int)) = false := decide_eq_false (by omega)
  have hR' : decide ((R : Int) < 4) = false := decide_eq_false (by omega)
  clear hS hown hLS h32 hlen hlm
  go_wp2_with fail
  refine (pick_any c0 L w1 b0.1 b0.2 hL1 (by omega)).mono ?_
  rintro e w2 ⟨⟨j0, hj0, rfl⟩, hw⟩
  subst hw
  have HC1 : ∀ wx, Calls Tryd.prog 23 #[.int .i64 c1, .int .i64 (1 + (j0 : Int))] wx fun r w' => (∃ j : Nat, j < 1 + j0 ∧ r = .returned (.int .i64 (j : Int))) ∧ w' = wx := fun wx => by
    have c := pick_any c1 (1 + j0) wx b1.1 b1.2 (by omega) (by omega)
    rw [Int.natCast_add] at c
    exact c
  have HC2 : ∀ wx, Calls Tryd.prog 23 #[.int .i64 c2, .int .i64 (1 + (j0 : Int))] wx fun r w' => (∃ j : Nat, j < 1 + j0 ∧ r = .returned (.int .i64 (j : Int))) ∧ w' = wx := fun wx => by
    have c := pick_any c2 (1 + j0) wx b2.1 b2.2 (by omega) (by omega)
    rw [Int.natCast_add] at c
    exact c
  have H1 := hidden HC1
  have H2 := hidden HC2
  clear HC1 HC2
  go_wp2_with fail
  refine (H1.out w2).mono ?_
  rintro e w3 ⟨⟨i, hi, rfl⟩, hw⟩
  subst hw
  go_wp2_with fail
  refine (H2.out w3).mono ?_
  rintro e w4 ⟨⟨j2, hj2, rfl⟩, hw⟩
  subst hw
  clear H1 H2
  have hil : i < hs.length := by rw [HLN.out]; omega
  have rl : w4.cell? ⟨gl, ol + i, none⟩ = some (.string (hs[i]'hil)) := by
    obtain ⟨g', o', he, _, hcell⟩ := LS.out i hil
    cases he
    exact hcell
  have hl32 : (hs[i]'hil).size = 32 := H32.out _ (List.getElem_mem hil)
  have hex : ∃ leaf, leaf = hs[i]'hil := ⟨_, rfl⟩
  obtain ⟨leaf, hleaf⟩ := hex
  rw [← hleaf] at rl hl32
  have HLF : Hid (leaf = hs[i]'hil) := hleaf
  clear hleaf
  go_wp2_with fail
  have hiL : (i : Int) < (L : Int) := by omega
  have hR3 : (3 : Int) < (R : Int) := by omega
  have hg4 : gr < w4.heap.size := by omega
  have hne1 := World.new_ne w4 ⟨gl, ol + i, none⟩ rl
  have hne2 := World.new_ne w4 ⟨gr, og + 3, none⟩ r3
  have P9 := hidden (fun wx => pick_nine c3 wx b3.1 b3.2)
  go_region_held3 (fun w' => w'.cell? ⟨gl, ol + i, none⟩ = some (.string leaf) ∧ w'.cell? ⟨gr, og + 3, none⟩ = some (.int .i64 c3)) (go_keep) (first | (go_at_call 23; refine (P9.out _).mono ?_; rintro e wp ⟨⟨j3, hj3, rfl⟩, hw⟩; subst hw))
  all_goals
    have p5 : Row (w4.alloc (.cells #[.string leaf, .int .i64 (j3 : Int), .string ⟨#[]⟩] 30)).drew w4.heap.size 30 #[.string leaf, .int .i64 (j3 : Int), .string ⟨#[]⟩] := (Row.new _ _ _).drew
    have k5 : Below w4.heap.size w4 (w4.alloc (.cells #[.string leaf, .int .i64 (j3 : Int), .string ⟨#[]⟩] 30)).drew := ((Below.refl _ _).alloc (Nat.le_refl _) _).drew
    have b5 : Below w.heap.size w (w4.alloc (.cells #[.string leaf, .int .i64 (j3 : Int), .string ⟨#[]⟩] 30)).drew := hb1.trans (k5.mono hs1)
    have LS5 := hidden (LS.out.below k5)
    clear k5 rl r0 r1 r2 r3 hne1 hne2 P9 LS hg4 hL1' hL2' hR' hiL hR3
    go_wp2_with fail
    refine (rootC hs (1 + j0) _ lcap _ (by rw [HLN.out]; omega) (by rw [HLN.out]; exact hlc) (by rw [HLN.out]; exact hL2) LS5.out H32.out).mono ?_
    rintro e w6 ⟨rfl, k6⟩
    have p6 := p5.below k6 p5.lt
    have b6 : Below w.heap.size w w6 := b5.trans (k6.mono b5.size)
    have LS6 := hidden (LS5.out.below k6)
    have hrn := rootS_size (hs.take (1 + j0)) (fun s h => H32.out s (List.mem_of_mem_take h))
    have hex : ∃ x, x = rootS (hs.take (1 + j0)) := ⟨_, rfl⟩
    obtain ⟨rn, hxn⟩ := hex
    rw [← hxn] at hrn ⊢
    have HRN := hidden hxn
    have hs6 := b6.size
    have l6 : w4.heap.size < w6.heap.size := p6.lt
    clear hxn k6 b5 LS5 p5
    go_wp2_with fail
    have p6a : Row (w6.alloc (.cells #[.int .i64 (1 + (j0 : Int)), .int .i64 4, .string rn, .string ⟨#[]⟩] 32)) w4.heap.size 30 #[.string leaf, .int .i64 (j3 : Int), .string ⟨#[]⟩] := p6.alloc _
    have h6a : Row (w6.alloc (.cells #[.int .i64 (1 + (j0 : Int)), .int .i64 4, .string rn, .string ⟨#[]⟩] 32)) w6.heap.size 32 #[.int .i64 (1 + (j0 : Int)), .int .i64 4, .string rn, .string ⟨#[]⟩] := Row.new _ _ _
    have k6 : Below w6.heap.size w6 (w6.alloc (.cells #[.int .i64 (1 + (j0 : Int)), .int .i64 4, .string rn, .string ⟨#[]⟩] 32)) := (Below.refl _ _).alloc (Nat.le_refl _) _
    have b6a : Below w.heap.size w (w6.alloc (.cells #[.int .i64 (1 + (j0 : Int)), .int .i64 4, .string rn, .string ⟨#[]⟩] 32)) := b6.trans (k6.mono hs6)
    have LS6a := hidden (LS6.out.below k6)
    refine (rootC hs (1 + j2) _ lcap _ (by rw [HLN.out]; omega) (by rw [HLN.out]; exact hlc) (by rw [HLN.out]; exact hL2) LS6a.out H32.out).mono ?_
    rintro e w7 ⟨rfl, k7⟩
    have p7 := p6a.below k7 p6a.lt
    have h7 := h6a.below k7 h6a.lt
    have b7 : Below w.heap.size w w7 := b6a.trans (k7.mono b6a.size)
    have LS7 := hidden (LS6a.out.below k7)
    have hrm := rootS_size (hs.take (1 + j2)) (fun s h => H32.out s (List.mem_of_mem_take h))
    have hex : ∃ x, x = rootS (hs.take (1 + j2)) := ⟨_, rfl⟩
    obtain ⟨rm, hxm⟩ := hex
    rw [← hxm] at hrm ⊢
    have HRM := hidden hxm
    have hs7 := b7.size
    have l7a : w4.heap.size < w7.heap.size := p7.lt
    have l7b : w6.heap.size < w7.heap.size := h7.lt
    have lw : w.heap.size ≤ w4.heap.size := hs1
    clear hxm k7 k6 b6 b6a LS6 LS6a p6 p6a h6a hs6
    have pc0 : w7.cell? ⟨w4.heap.size, 0, none⟩ = some (.string leaf) := p7.cell 0
    have pc1 : w7.cell? ⟨w4.heap.size, 1, none⟩ = some (.int .i64 (j3 : Int)) := p7.cell 1
    have pc2 : w7.cell? ⟨w4.heap.size, 2, none⟩ = some (.string ⟨#[]⟩) := p7.cell 2
    have hc0 : w7.cell? ⟨w6.heap.size, 0, none⟩ = some (.int .i64 (1 + (j0 : Int))) := h7.cell 0
    have hc1 : w7.cell? ⟨w6.heap.size, 1, none⟩ = some (.int .i64 4) := h7.cell 1
    have hc2 : w7.cell? ⟨w6.heap.size, 2, none⟩ = some (.string rn) := h7.cell 2
    have hc3 : w7.cell? ⟨w6.heap.size, 3, none⟩ = some (.string ⟨#[]⟩) := h7.cell 3
    have hb4 := hidden hb1
    clear hb1 hs1
    generalize hB0 : w4.heap.size = B0 at *
    generalize hB1 : w6.heap.size = B1 at *
    clear hB0 hB1
    go_wp2_with fail
    have p7a : Row (w7.alloc (.cells #[.int .i64 (1 + (j2 : Int)), .int .i64 2, .string rm, .string ⟨#[]⟩] 32)) B0 30 #[.string leaf, .int .i64 (j3 : Int), .string ⟨#[]⟩] := p7.alloc _
    have h7a : Row (w7.alloc (.cells #[.int .i64 (1 + (j2 : Int)), .int .i64 2, .string rm, .string ⟨#[]⟩] 32)) B1 32 #[.int .i64 (1 + (j0 : Int)), .int .i64 4, .string rn, .string ⟨#[]⟩] := h7.alloc _
    have g7a : Row (w7.alloc (.cells #[.int .i64 (1 + (j2 : Int)), .int .i64 2, .string rm, .string ⟨#[]⟩] 32)) w7.heap.size 32 #[.int .i64 (1 + (j2 : Int)), .int .i64 2, .string rm, .string ⟨#[]⟩] := Row.new _ _ _
    have k7 : Below w7.heap.size w7 (w7.alloc (.cells #[.int .i64 (1 + (j2 : Int)), .int .i64 2, .string rm, .string ⟨#[]⟩] 32)) := (Below.refl _ _).alloc (Nat.le_refl _) _
    have b7a : Below w.heap.size w (w7.alloc (.cells #[.int .i64 (1 + (j2 : Int)), .int .i64 2, .string rm, .string ⟨#[]⟩] 32)) := b7.trans (k7.mono hs7)
    have LS7a := hidden (LS7.out.below k7)
    refine (signed_zero key leaf ⟨#[]⟩ rn ⟨#[]⟩ rm ⟨#[]⟩ (j3 : Int) (1 + (j0 : Int)) 4 (1 + (j2 : Int)) 2 _ hk (by omega) (by omega) (by omega)).mono ?_
    rintro e w8 ⟨rfl, k8⟩
    have p8 := p7a.below k8 p7a.lt
    have h8 := h7a.below k8 h7a.lt
    have g8 := g7a.below k8 g7a.lt
    have b8 : Below w.heap.size w w8 := b7a.trans (k8.mono b7a.size)
    have LS8 := hidden (LS7a.out.below k8)
    have hex : ∃ x y z, x = pTag key leaf (j3 : Int) ∧ y = hTag key rn (1 + (j0 : Int)) 4 ∧ z = hTag key rm (1 + (j2 : Int)) 2 := ⟨_, _, _, rfl, rfl, rfl⟩
    obtain ⟨tp, th, tg, hx1, hx2, hx3⟩ := hex
    rw [← hx1, ← hx2, ← hx3]
    have HT1 := hidden hx1
    have HT2 := hidden hx2
    have HT3 := hidden hx3
    have l8c : w7.heap.size < w8.heap.size := g8.lt
    clear hx1 hx2 hx3 k7 k8 b7 b7a LS7 LS7a p7 h7 p7a h7a g7a pc0 pc1 pc2 hc0 hc1 hc2 hc3
    generalize hB2 : w7.heap.size = B2 at *
    clear hB2
    have lt_p := p8.lt
    have pc0 : w8.cell? ⟨B0, 0, none⟩ = some (.string leaf) := p8.cell 0
    have pf0 : w8.frozen? ⟨B0, 0, none⟩ = false := p8.free 0
    have pc1 : w8.cell? ⟨B0, 1, none⟩ = some (.int .i64 (j3 : Int)) := p8.cell 1
    have pf1 : w8.frozen? ⟨B0, 1, none⟩ = false := p8.free 1
    have pc2 : w8.cell? ⟨B0, 2, none⟩ = some (.string ⟨#[]⟩) := p8.cell 2
    have pf2 : w8.frozen? ⟨B0, 2, none⟩ = false := p8.free 2
    have lt_h := h8.lt
    have hc0 : w8.cell? ⟨B1, 0, none⟩ = some (.int .i64 (1 + (j0 : Int))) := h8.cell 0
    have hf0 : w8.frozen? ⟨B1, 0, none⟩ = false := h8.free 0
    have hc1 : w8.cell? ⟨B1, 1, none⟩ = some (.int .i64 4) := h8.cell 1
    have hf1 : w8.frozen? ⟨B1, 1, none⟩ = false := h8.free 1
    have hc2 : w8.cell? ⟨B1, 2, none⟩ = some (.string rn) := h8.cell 2
    have hf2 : w8.frozen? ⟨B1, 2, none⟩ = false := h8.free 2
    have hc3 : w8.cell? ⟨B1, 3, none⟩ = some (.string ⟨#[]⟩) := h8.cell 3
    have hf3 : w8.frozen? ⟨B1, 3, none⟩ = false := h8.free 3
    have lt_g := g8.lt
    have gc0 : w8.cell? ⟨B2, 0, none⟩ = some (.int .i64 (1 + (j2 : Int))) := g8.cell 0
    have gf0 : w8.frozen? ⟨B2, 0, none⟩ = false := g8.free 0
    have gc1 : w8.cell? ⟨B2, 1, none⟩ = some (.int .i64 2) := g8.cell 1
    have gf1 : w8.frozen? ⟨B2, 1, none⟩ = false := g8.free 1
    have gc2 : w8.cell? ⟨B2, 2, none⟩ = some (.string rm) := g8.cell 2
    have gf2 : w8.frozen? ⟨B2, 2, none⟩ = false := g8.free 2
    have gc3 : w8.cell? ⟨B2, 3, none⟩ = some (.string ⟨#[]⟩) := g8.cell 3
    have gf3 : w8.frozen? ⟨B2, 3, none⟩ = false := g8.free 3
    have ne01 : B0 ≠ B1 := by omega
    have ne02 : B0 ≠ B2 := by omega
    have ne12 : B1 ≠ B2 := by omega
    have ne10 : B1 ≠ B0 := by omega
    have ne20 : B2 ≠ B0 := by omega
    have ne21 : B2 ≠ B1 := by omega
    have q0 := ((p8.three (.string leaf) (.int .i64 (j3 : Int)) (.string tp)).other4 ne01 (.int .i64 (1 + (j0 : Int))) (.int .i64 4) (.string rn) (.string th)).other4 ne02 (.int .i64 (1 + (j2 : Int))) (.int .i64 2) (.string rm) (.string tg)
    have q1 := ((h8.other3 ne10 (.string leaf) (.int .i64 (j3 : Int)) (.string tp)).four (.int .i64 (1 + (j0 : Int))) (.int .i64 4) (.string rn) (.string th)).other4 ne12 (.int .i64 (1 + (j2 : Int))) (.int .i64 2) (.string rm) (.string tg)
    have q2 := ((g8.other3 ne20 (.string leaf) (.int .i64 (j3 : Int)) (.string tp)).other4 ne21 (.int .i64 (1 + (j0 : Int))) (.int .i64 4) (.string rn) (.string th)).four (.int .i64 (1 + (j2 : Int))) (.int .i64 2) (.string rm) (.string tg)
    have k8 := bel_set4 (bel_set4 (bel_set3 (Below.refl B0 w8) (Nat.le_refl B0) (.string leaf) (.int .i64 (j3 : Int)) (.string tp)) (show B0 ≤ B1 by omega) (.int .i64 (1 + (j0 : Int))) (.int .i64 4) (.string rn) (.string th)) (show B0 ≤ B2 by omega) (.int .i64 (1 + (j2 : Int))) (.int .i64 2) (.string rm) (.string tg)
    have hb9 := b8.trans (k8.mono lw)
    have K8 := hidden k8
    have Q0 := hidden q0
    have Q1 := hidden q1
    have Q2 := hidden q2
    have B9 := hidden hb9
    clear q0 q1 q2 k8 hb9 p8 h8 g8 b8
    skip
    go_wp2_with fail
    have LS9 := hidden (LS8.out.under hgl K8.out)
    generalize hV : (((((((((((w8.setCell ⟨B0, 0, none⟩ (.string leaf)).setCell ⟨B0, 1, none⟩ (.int .i64 (j3 : Int))).setCell ⟨B0, 2, none⟩ (.string tp)).setCell ⟨B1, 0, none⟩ (.int .i64 (1 + (j0 : Int)))).setCell ⟨B1, 1, none⟩ (.int .i64 4)).setCell ⟨B1, 2, none⟩ (.string rn)).setCell ⟨B1, 3, none⟩ (.string th)).setCell ⟨B2, 0, none⟩ (.int .i64 (1 + (j2 : Int)))).setCell ⟨B2, 1, none⟩ (.int .i64 2)).setCell ⟨B2, 2, none⟩ (.string rm)).setCell ⟨B2, 3, none⟩ (.string tg)) = V at *
    clear hV LS8 K8 pc0 pf0 pc1 pf1 pc2 pf2 hc0 hf0 hc1 hf1 hc2 hf2 hc3 hf3 gc0 gf0 gc1 gf1 gc2 gf2 gc3 gf3 lt_p lt_h lt_g
    have lvp := Q0.out.lt
    have lvh := Q1.out.lt
    have lvg := Q2.out.lt
    refine (inclC hs (1 + j0) i _ lcap V (by rw [HLN.out]; omega) hi (by rw [HLN.out]; exact hlc) (by rw [HLN.out]; exact hL2) LS9.out H32.out).mono ?_
    rintro e w10 ⟨vx, rfl, ownx, k10⟩
    have b10 : Below w.heap.size w w10 := B9.out.trans (k10.mono B9.out.size)
    have LS10 := hidden (LS9.out.below k10)
    have hsV := k10.size
    have hX32 := inclF_32 (1 + j0) i (hs.take (1 + j0)) (fun s h => H32.out s (List.mem_of_mem_take h))
    have hXl := inclF_len (1 + j0) i (hs.take (1 + j0))
    rw [List.length_take] at hXl
    have EA : auditV key leaf tp rn th (j3 : Int) (1 + (j0 : Int)) 4 (i : Int) (inclF (1 + j0) i (hs.take (1 + j0))) = 1 := by
      rw [HT1.out, HT2.out, HRN.out, HLF.out]
      exact audit_right key hs (1 + j0) i (j3 : Int) (by rw [HLN.out]; omega) hi (by rw [HLN.out]; exact hL2)
    have hY32 := consF_32 (1 + j0) (1 + j2) true (hs.take (1 + j0)) (fun s h => H32.out s (List.mem_of_mem_take h))
    have hYl := consF_len (1 + j0) (1 + j2) true (hs.take (1 + j0)) (by omega) (by rw [List.length_take, HLN.out]; omega)
    rw [List.length_take] at hYl
    have EC : compV key rm tg rn th (1 + (j2 : Int)) 2 (1 + (j0 : Int)) 4 (consF (1 + j0) (1 + j2) true (hs.take (1 + j0))) = 1 := by
      rw [HT2.out, HT3.out, HRN.out, HRM.out]
      exact comp_right key hs (1 + j0) (1 + j2) (by rw [HLN.out]; omega) (by omega) (by omega) (by rw [HLN.out]; exact hL2)
    have cc := consC hs (1 + j0) (1 + j2) (some ⟨gl, ol, none⟩) lcap w10 (by rw [HLN.out]; omega) (by omega) (by omega) (by rw [HLN.out]; exact hlc) (by rw [HLN.out]; exact hL2) LS10.out H32.out
    rw [Int.natCast_add] at cc
    generalize inclF (1 + j0) i (hs.take (1 + j0)) = X at *
    generalize consF (1 + j0) (1 + j2) true (hs.take (1 + j0)) = Y at *
    have CC := hidden cc
    have XO := hidden ownx
    have HX32 := hidden hX32
    have HY32 := hidden hY32
    have HEA := hidden EA
    have HEC := hidden EC
    have hXl2 : X.length ≤ 200 := by omega
    have hYl2 : Y.length ≤ 200 := by omega
    have K10 := hidden k10
    have B10 := hidden b10
    clear cc ownx hX32 hY32 EA EC LS9 hXl hYl k10 b10 HT1 HT2 HT3 HRN HRM LS10
    go_wp2_with fail
    refine CC.out.mono ?_
    rintro e w11 ⟨vy, rfl, owny, k11⟩
    have K11 : Hid (Below V.heap.size V w11) := K10.out.trans (k11.mono hsV)
    have B11 : Hid (Below w.heap.size w w11) := B10.out.trans (k11.mono B10.out.size)
    have XO11 : Hid (OwnS w11 V.heap.size vx X.reverse) := Own.under XO.out k11 (Nat.le_refl _)
    have YO11 := hidden owny
    have s11 := k11.size
    have hlt10 : Hid (∀ k, vx.ownBlock = some k → V.heap.size ≤ k ∧ k < w10.heap.size) := XO.out.lt
    clear CC XO K10 B10 k11 owny
    have y0 := Q0.out.below K11.out lvp
    have y1 := Q1.out.below K11.out lvh
    have y2 := Q2.out.below K11.out lvg
    have pc0 : w11.cell? ⟨B0, 0, none⟩ = some (.string leaf) := y0.cell 0
    have pc1 : w11.cell? ⟨B0, 1, none⟩ = some (.int .i64 (j3 : Int)) := y0.cell 1
    have pc2 : w11.cell? ⟨B0, 2, none⟩ = some (.string tp) := y0.cell 2
    have hc0 : w11.cell? ⟨B1, 0, none⟩ = some (.int .i64 (1 + (j0 : Int))) := y1.cell 0
    have hc1 : w11.cell? ⟨B1, 1, none⟩ = some (.int .i64 4) := y1.cell 1
    have hc2 : w11.cell? ⟨B1, 2, none⟩ = some (.string rn) := y1.cell 2
    have hc3 : w11.cell? ⟨B1, 3, none⟩ = some (.string th) := y1.cell 3
    have gc0 : w11.cell? ⟨B2, 0, none⟩ = some (.int .i64 (1 + (j2 : Int))) := y2.cell 0
    have gc1 : w11.cell? ⟨B2, 1, none⟩ = some (.int .i64 2) := y2.cell 1
    have gc2 : w11.cell? ⟨B2, 2, none⟩ = some (.string rm) := y2.cell 2
    have gc3 : w11.cell? ⟨B2, 3, none⟩ = some (.string tg) := y2.cell 3
    have HA1 := hidden (devAuditC X key leaf tp rn th (j3 : Int) (1 + (j0 : Int)) 4 (i : Int) vx w11 (by omega) XO11.out.lst (fun s h => by have := HX32.out s h; omega) hk (by omega) (by omega) (KT.out.below B11.out h0) (Nat.lt_of_lt_of_le h0 B11.out.size))
    rw [HEA.out] at HA1
    clear y0 y1 y2
    go_wp2_with fail
    refine HA1.out.mono ?_
    rintro e w12 ⟨rfl, k12⟩
    clear HA1 HEA pc0 pc1 pc2 hc0 hc1 hc2 hc3 gc0 gc1 gc2 gc3
    have hs11 := K11.out.size
    have K12 : Hid (Below V.heap.size V w12) := K11.out.trans (k12.mono hs11)
    have B12 : Hid (Below w.heap.size w w12) := B11.out.trans (k12.mono B11.out.size)
    have XO12 : Hid (OwnS w12 V.heap.size vx X.reverse) := Own.under XO11.out k12 (Nat.le_refl _)
    have YO12 : Hid (OwnS w12 w10.heap.size vy Y.reverse) := Own.under YO11.out k12 (Nat.le_refl _)
    have s12 := Nat.le_trans s11 k12.size
    clear K11 B11 XO11 YO11 k12 hs11 s11
    have y0 := Q0.out.below K12.out lvp
    have y1 := Q1.out.below K12.out lvh
    have y2 := Q2.out.below K12.out lvg
    have pc0 : w12.cell? ⟨B0, 0, none⟩ = some (.string leaf) := y0.cell 0
    have pc1 : w12.cell? ⟨B0, 1, none⟩ = some (.int .i64 (j3 : Int)) := y0.cell 1
    have pc2 : w12.cell? ⟨B0, 2, none⟩ = some (.string tp) := y0.cell 2
    have hc0 : w12.cell? ⟨B1, 0, none⟩ = some (.int .i64 (1 + (j0 : Int))) := y1.cell 0
    have hc1 : w12.cell? ⟨B1, 1, none⟩ = some (.int .i64 4) := y1.cell 1
    have hc2 : w12.cell? ⟨B1, 2, none⟩ = some (.string rn) := y1.cell 2
    have hc3 : w12.cell? ⟨B1, 3, none⟩ = some (.string th) := y1.cell 3
    have gc0 : w12.cell? ⟨B2, 0, none⟩ = some (.int .i64 (1 + (j2 : Int))) := y2.cell 0
    have gc1 : w12.cell? ⟨B2, 1, none⟩ = some (.int .i64 2) := y2.cell 1
    have gc2 : w12.cell? ⟨B2, 2, none⟩ = some (.string rm) := y2.cell 2
    have gc3 : w12.cell? ⟨B2, 3, none⟩ = some (.string tg) := y2.cell 3
    have HC1 := hidden (devCompC Y key rm tg rn th (1 + (j2 : Int)) 2 (1 + (j0 : Int)) 4 vy w12 (by omega) YO12.out.lst (fun s h => by have := HY32.out s h; omega) hk (by omega) (by omega) (KT.out.below B12.out h0) (Nat.lt_of_lt_of_le h0 B12.out.size))
    rw [HEC.out] at HC1
    clear y0 y1 y2
    go_wp2_with fail
    refine HC1.out.mono ?_
    rintro e w13 ⟨rfl, k13⟩
    clear HC1 HEC pc0 pc1 pc2 hc0 hc1 hc2 hc3 gc0 gc1 gc2 gc3
    have hs12 := K12.out.size
    have K13 : Hid (Below V.heap.size V w13) := K12.out.trans (k13.mono hs12)
    have B13 : Hid (Below w.heap.size w w13) := B12.out.trans (k13.mono B12.out.size)
    have XO13 : Hid (OwnS w13 V.heap.size vx X.reverse) := Own.under XO12.out k13 (Nat.le_refl _)
    have YO13 : Hid (OwnS w13 w10.heap.size vy Y.reverse) := Own.under YO12.out k13 (Nat.le_refl _)
    have s13 := Nat.le_trans s12 k13.size
    clear K12 B12 XO12 YO12 k13 hs12 s12
    have y0 := Q0.out.below K13.out lvp
    have y1 := Q1.out.below K13.out lvh
    have y2 := Q2.out.below K13.out lvg
    have r3 : w13.cell? ⟨gr, og + 3, none⟩ = some (.int .i64 c3) := by rw [B13.out.cell (p := ⟨gr, og + 3, none⟩) hgr]; exact R3.out
    have hR3 : (3 : Int) < (R : Int) := by omega
    go_wp2_with fail
    refine (pick_ways c3 w13 b3.1 b3.2).mono ?_
    rintro e w14 ⟨hr, hw⟩
    subst hw
    have HXR : Hid (∀ s ∈ X.reverse, s.size = 32) := fun s h => HX32.out s (List.mem_reverse.1 h)
    have HYR : Hid (∀ s ∈ Y.reverse, s.size = 32) := fun s h => HY32.out s (List.mem_reverse.1 h)
    have hXR : X.reverse.length ≤ 200 := by rw [List.length_reverse]; exact hXl2
    have hYR : Y.reverse.length ≤ 200 := by rw [List.length_reverse]; exact hYl2
    clear HX32 HY32 hXl2 hYl2
    generalize X.reverse = XR at *
    generalize Y.reverse = YR at *
    have Y0 := hidden y0
    have Y1 := hidden y1
    have Y2 := hidden y2
    have lB0 : B0 < V.heap.size := lvp
    have lB1 : B1 < V.heap.size := lvh
    have lB2 : B2 < V.heap.size := lvg
    have l14 : V.heap.size ≤ w14.heap.size := K13.out.size
    clear y0 y1 y2 lvp lvh lvg
    rcases hr with rfl | rfl | rfl | rfl | rfl | rfl | rfl
    · clear r3 hR3
      go_wp2_with (first | (at_builtin; refine halt ?_) | fail)
      unfold Halt
      refine wpList_appG rfl (.tmp 124) (.tmp 126) rfl V.heap.size vx XR rfl (XO13.out.alloc _) _ [other] rfl (lst_lit w14 other) (by simp; omega) (by simp; omega) ?_
      intro vx2 w15 ownx hgx hwx
      have K15 : Hid (Below V.heap.size V w15) := Own.below (XO13.out.alloc _) (K13.out.alloc l14 _) hgx (Nat.le_refl _) (by simp; omega)
      have B15 : Hid (Below w.heap.size w w15) := Own.below (XO13.out.alloc _) (B13.out.alloc (by omega) _) hgx (by omega) (by simp; omega)
      have YO15 : Hid (OwnS w15 w10.heap.size vy YR) := Own.beside (YO13.out.alloc _) hgx (fun g hg he => by have h1 := (Own.lt YO13.out g hg).1; have h2 := (hlt10.out g he.symm).2; omega)
      have ylt : Hid (∀ k, vy.ownBlock = some k → w10.heap.size ≤ k ∧ k < w14.heap.size) := Own.lt YO13.out
      have hz15 : w14.heap.size + 1 ≤ w15.heap.size := by have := hgx.size; simpa using this
      have OX := hidden ownx
      have HWX := hidden hwx
      clear hgx ownx hwx XO13 YO13 K13 B13
      go_wp2_with (first | (at_builtin; refine halt ?_) | fail)
      unfold Halt
      refine wpList_appG rfl (.tmp 128) (.tmp 130) rfl w10.heap.size vy YR rfl (YO15.out.alloc _) _ [other] rfl (lst_lit w15 other) (by simp; omega) (by simp; omega) ?_
      intro vy2 w16 owny hgy hwy
      have K16 : Hid (Below V.heap.size V w16) := Own.below (YO15.out.alloc _) (K15.out.alloc (by omega) _) hgy (by omega) (by simp; omega)
      have BW : Hid (Below w.heap.size w w16) := Own.below (YO15.out.alloc _) (B15.out.alloc (by omega) _) hgy (by omega) (by simp; omega)
      have LY := hidden (OwnS.lst owny)
      have ox16 : OwnS w16 V.heap.size vx2 (XR ++ [other]) := Own.beside (OX.out.alloc _) hgy (fun g hg he => by
        have h1 := ylt.out g he.symm
        rcases HWX.out g hg with h | h
        · have h2 := (hlt10.out g h).2; omega
        · simp at h; omega)
      have LX := hidden (OwnS.lst ox16)
      have F0 := hidden (Q0.out.below K16.out lB0)
      have F1 := hidden (Q1.out.below K16.out lB1)
      have F2 := hidden (Q2.out.below K16.out lB2)
      clear owny hgy hwy ox16 OX HWX K15 K16 B15 YO15 ylt Y0 Y1 Y2
      have lt_p := F0.out.lt
      have pc0 : w16.cell? ⟨B0, 0, none⟩ = some (.string leaf) := F0.out.cell 0
      have pc1 : w16.cell? ⟨B0, 1, none⟩ = some (.int .i64 (j3 : Int)) := F0.out.cell 1
      have pc2 : w16.cell? ⟨B0, 2, none⟩ = some (.string tp) := F0.out.cell 2
      have lt_h := F1.out.lt
      have hc0 : w16.cell? ⟨B1, 0, none⟩ = some (.int .i64 (1 + (j0 : Int))) := F1.out.cell 0
      have hc1 : w16.cell? ⟨B1, 1, none⟩ = some (.int .i64 4) := F1.out.cell 1
      have hc2 : w16.cell? ⟨B1, 2, none⟩ = some (.string rn) := F1.out.cell 2
      have hc3 : w16.cell? ⟨B1, 3, none⟩ = some (.string th) := F1.out.cell 3
      have lt_g := F2.out.lt
      have gc0 : w16.cell? ⟨B2, 0, none⟩ = some (.int .i64 (1 + (j2 : Int))) := F2.out.cell 0
      have gc1 : w16.cell? ⟨B2, 1, none⟩ = some (.int .i64 2) := F2.out.cell 1
      have gc2 : w16.cell? ⟨B2, 2, none⟩ = some (.string rm) := F2.out.cell 2
      have gc3 : w16.cell? ⟨B2, 3, none⟩ = some (.string tg) := F2.out.cell 3
      go_wp2_with fail
      refine (auditsC (XR ++ [other]) key leaf tp rn th rm tg (j3 : Int) (1 + (j0 : Int)) 4 (1 + (j2 : Int)) 2 (i : Int) vx2 _ (by first | omega | (simp; omega)) LX.out ((OneBig.snoc HXR.out other ho).cons leaf (by omega)) ((OneBig.snoc HXR.out other ho).cons rm (by omega)) hk (by omega) (KT.out.below BW.out h0) (Nat.lt_of_lt_of_le h0 BW.out.size)).mono ?_
      rintro e w20 ⟨rfl, k20⟩
      clear lt_p pc0 pc1 pc2 lt_h hc0 hc1 hc2 hc3 lt_g gc0 gc1 gc2 gc3
      have f0 := F0.out.below k20 F0.out.lt
      have f1 := F1.out.below k20 F1.out.lt
      have f2 := F2.out.below k20 F2.out.lt
      have BZ : Hid (Below w.heap.size w w20) := BW.out.trans (k20.mono BW.out.size)
      have LZ := hidden (LY.out.below k20)
      have lt_p := f0.lt
      have pc0 : w20.cell? ⟨B0, 0, none⟩ = some (.string leaf) := f0.cell 0
      have pc1 : w20.cell? ⟨B0, 1, none⟩ = some (.int .i64 (j3 : Int)) := f0.cell 1
      have pc2 : w20.cell? ⟨B0, 2, none⟩ = some (.string tp) := f0.cell 2
      have lt_h := f1.lt
      have hc0 : w20.cell? ⟨B1, 0, none⟩ = some (.int .i64 (1 + (j0 : Int))) := f1.cell 0
      have hc1 : w20.cell? ⟨B1, 1, none⟩ = some (.int .i64 4) := f1.cell 1
      have hc2 : w20.cell? ⟨B1, 2, none⟩ = some (.string rn) := f1.cell 2
      have hc3 : w20.cell? ⟨B1, 3, none⟩ = some (.string th) := f1.cell 3
      have lt_g := f2.lt
      have gc0 : w20.cell? ⟨B2, 0, none⟩ = some (.int .i64 (1 + (j2 : Int))) := f2.cell 0
      have gc1 : w20.cell? ⟨B2, 1, none⟩ = some (.int .i64 2) := f2.cell 1
      have gc2 : w20.cell? ⟨B2, 2, none⟩ = some (.string rm) := f2.cell 2
      have gc3 : w20.cell? ⟨B2, 3, none⟩ = some (.string tg) := f2.cell 3
      clear f0 f1 f2 F0 F1 F2 LX LY BW k20
      go_wp2_with fail
      refine (auditsC (YR ++ [other]) key leaf tp rn th rm tg (j3 : Int) (1 + (j0 : Int)) 4 (1 + (j2 : Int)) 2 (i : Int) vy2 w20 (by first | omega | (simp; omega)) LZ.out ((OneBig.snoc HYR.out other ho).cons leaf (by omega)) ((OneBig.snoc HYR.out other ho).cons rm (by omega)) hk (by omega) (KT.out.below BZ.out h0) (Nat.lt_of_lt_of_le h0 BZ.out.size)).mono ?_
      rintro e w21 ⟨rfl, k21⟩
      have B21 : Hid (Below w.heap.size w w21) := BZ.out.trans (k21.mono BZ.out.size)
      clear k21 LZ BZ
      clear lt_p pc0 pc1 pc2 lt_h hc0 hc1 hc2 hc3 lt_g gc0 gc1 gc2 gc3
      go_wp2
      go_ret
      exact ⟨rfl, B21.out⟩
    · clear r3 hR3
      by_cases hX0 : XR = []
      · subst hX0
        obtain ⟨xo, xcap, hvx, hxc1, hxc2, hxS⟩ := XO13.out.opened
        clear hxS hxc2
        have hvx2 : vx = .slice xo 0 xcap := hvx
        clear hvx
        subst hvx2
        go_wp2_with (first | (at_builtin; refine halt ?_) | fail)
        unfold Halt
        refine wpList_appG rfl (.tmp 140) (.tmp 141) rfl w14.heap.size _ [other] rfl (ownS_lit w14 other) vy YR rfl (OwnS.lst (YO13.out.alloc _)) (by simp; omega) (by simp) ?_
        intro vy2 w15 owny hgy hwy
        have K15 : Hid (Below V.heap.size V w15) := Own.below (ownS_lit w14 other) (K13.out.alloc l14 _) hgy l14 (by simp; omega)
        have BW : Hid (Below w.heap.size w w15) := Own.below (ownS_lit w14 other) (B13.out.alloc (by omega) _) hgy (by omega) (by simp; omega)
        have LY := hidden (OwnS.lst owny)
        have ox15 : OwnS w15 V.heap.size (.slice xo 0 xcap) [] := Own.beside (XO13.out.alloc _) hgy (fun g hg he => by have h1 := (Own.lt XO13.out g hg).2; have h2 : g = w14.heap.size := Option.some.inj he; omega)
        have F0 := hidden (Q0.out.below K15.out lB0)
        have F1 := hidden (Q1.out.below K15.out lB1)
        have F2 := hidden (Q2.out.below K15.out lB2)
        have LX := hidden (OwnS.lst ox15)
        clear owny hgy hwy ox15 K15 K13 B13 XO13 YO13 Y0 Y1 Y2
        have lt_p := F0.out.lt
        have pc0 : w15.cell? ⟨B0, 0, none⟩ = some (.string leaf) := F0.out.cell 0
        have pc1 : w15.cell? ⟨B0, 1, none⟩ = some (.int .i64 (j3 : Int)) := F0.out.cell 1
        have pc2 : w15.cell? ⟨B0, 2, none⟩ = some (.string tp) := F0.out.cell 2
        have lt_h := F1.out.lt
        have hc0 : w15.cell? ⟨B1, 0, none⟩ = some (.int .i64 (1 + (j0 : Int))) := F1.out.cell 0
        have hc1 : w15.cell? ⟨B1, 1, none⟩ = some (.int .i64 4) := F1.out.cell 1
        have hc2 : w15.cell? ⟨B1, 2, none⟩ = some (.string rn) := F1.out.cell 2
        have hc3 : w15.cell? ⟨B1, 3, none⟩ = some (.string th) := F1.out.cell 3
        have lt_g := F2.out.lt
        have gc0 : w15.cell? ⟨B2, 0, none⟩ = some (.int .i64 (1 + (j2 : Int))) := F2.out.cell 0
        have gc1 : w15.cell? ⟨B2, 1, none⟩ = some (.int .i64 2) := F2.out.cell 1
        have gc2 : w15.cell? ⟨B2, 2, none⟩ = some (.string rm) := F2.out.cell 2
        have gc3 : w15.cell? ⟨B2, 3, none⟩ = some (.string tg) := F2.out.cell 3
        go_wp2_with fail
        refine (auditsC [] key leaf tp rn th rm tg (j3 : Int) (1 + (j0 : Int)) 4 (1 + (j2 : Int)) 2 (i : Int) _ _ (by first | omega | (simp; omega)) LX.out (OneBig.small (fun s h => by rw [List.mem_singleton.1 h]; omega)) (OneBig.small (fun s h => by rw [List.mem_singleton.1 h]; omega)) hk (by omega) (KT.out.below BW.out h0) (Nat.lt_of_lt_of_le h0 BW.out.size)).mono ?_
        rintro e w20 ⟨rfl, k20⟩
        clear lt_p pc0 pc1 pc2 lt_h hc0 hc1 hc2 hc3 lt_g gc0 gc1 gc2 gc3
        have f0 := F0.out.below k20 F0.out.lt
        have f1 := F1.out.below k20 F1.out.lt
        have f2 := F2.out.below k20 F2.out.lt
        have BZ : Hid (Below w.heap.size w w20) := BW.out.trans (k20.mono BW.out.size)
        have LZ := hidden (LY.out.below k20)
        have lt_p := f0.lt
        have pc0 : w20.cell? ⟨B0, 0, none⟩ = some (.string leaf) := f0.cell 0
        have pc1 : w20.cell? ⟨B0, 1, none⟩ = some (.int .i64 (j3 : Int)) := f0.cell 1
        have pc2 : w20.cell? ⟨B0, 2, none⟩ = some (.string tp) := f0.cell 2
        have lt_h := f1.lt
        have hc0 : w20.cell? ⟨B1, 0, none⟩ = some (.int .i64 (1 + (j0 : Int))) := f1.cell 0
        have hc1 : w20.cell? ⟨B1, 1, none⟩ = some (.int .i64 4) := f1.cell 1
        have hc2 : w20.cell? ⟨B1, 2, none⟩ = some (.string rn) := f1.cell 2
        have hc3 : w20.cell? ⟨B1, 3, none⟩ = some (.string th) := f1.cell 3
        have lt_g := f2.lt
        have gc0 : w20.cell? ⟨B2, 0, none⟩ = some (.int .i64 (1 + (j2 : Int))) := f2.cell 0
        have gc1 : w20.cell? ⟨B2, 1, none⟩ = some (.int .i64 2) := f2.cell 1
        have gc2 : w20.cell? ⟨B2, 2, none⟩ = some (.string rm) := f2.cell 2
        have gc3 : w20.cell? ⟨B2, 3, none⟩ = some (.string tg) := f2.cell 3
        clear f0 f1 f2 F0 F1 F2 LX LY BW k20
        go_wp2_with fail
        refine (auditsC ([other] ++ YR) key leaf tp rn th rm tg (j3 : Int) (1 + (j0 : Int)) 4 (1 + (j2 : Int)) 2 (i : Int) vy2 w20 (by first | omega | (simp; omega)) LZ.out ((OneBig.big HYR.out other ho).cons leaf (by omega)) ((OneBig.big HYR.out other ho).cons rm (by omega)) hk (by omega) (KT.out.below BZ.out h0) (Nat.lt_of_lt_of_le h0 BZ.out.size)).mono ?_
        rintro e w21 ⟨rfl, k21⟩
        have B21 : Hid (Below w.heap.size w w21) := BZ.out.trans (k21.mono BZ.out.size)
        clear k21 LZ BZ
        clear lt_p pc0 pc1 pc2 lt_h hc0 hc1 hc2 hc3 lt_g gc0 gc1 gc2 gc3
        go_wp2
        go_ret
        exact ⟨rfl, B21.out⟩
      · obtain ⟨x0, xt, hxe⟩ := List.exists_cons_of_ne_nil hX0
        subst hxe
        obtain ⟨gx, xcap, cur, hvx, hx1, hx2, hx3, hx4, hx5, hx6, hx7⟩ := XO13.out.block (by simp)
        clear hx3 hx6 hx7 hX0
        have hvx2 : vx = .slice (some ⟨gx, 0, none⟩) (xt.length + 1) xcap := hvx
        clear hvx
        subst hvx2
        simp only [List.length_cons] at hx4 hXR
        have HXT : Hid (∀ s ∈ xt, s.size = 32) := fun s h => HXR.out s (List.mem_cons_of_mem _ h)
        by_cases hc1 : xcap = 1
        · subst hc1
          obtain rfl : xt = [] := List.eq_nil_of_length_eq_zero (by omega)
          go_wp2_with (first | (at_builtin; refine halt ?_) | fail)
          unfold Halt
          refine wpList_appG rfl (.tmp 140) (.tmp 141) rfl w14.heap.size _ [other] rfl (ownS_lit w14 other) vy YR rfl (OwnS.lst (YO13.out.alloc _)) (by simp; omega) (by simp) ?_
          intro vy2 w15 owny hgy hwy
          have K15 : Hid (Below V.heap.size V w15) := Own.below (ownS_lit w14 other) (K13.out.alloc l14 _) hgy l14 (by simp; omega)
          have BW : Hid (Below w.heap.size w w15) := Own.below (ownS_lit w14 other) (B13.out.alloc (by omega) _) hgy (by omega) (by simp; omega)
          have LY := hidden (OwnS.lst owny)
          have ox15 : OwnS w15 V.heap.size (.slice (some ⟨gx, 0, none⟩) 1 1) [x0] := Own.beside (XO13.out.alloc _) hgy (fun g hg he => by have h1 := (Own.lt XO13.out g hg).2; have h2 : g = w14.heap.size := Option.some.inj he; omega)
          have F0 := hidden (Q0.out.below K15.out lB0)
          have F1 := hidden (Q1.out.below K15.out lB1)
          have F2 := hidden (Q2.out.below K15.out lB2)
          have LX : Hid (∀ a c, Lst w15 (.slice (some a) 0 c) []) := fun a c => ⟨some a, c, rfl, Nat.zero_le _, (fun j hj => absurd hj (by simp)), fun h => by cases h⟩
          clear owny hgy hwy ox15 K15 K13 B13 XO13 YO13 Y0 Y1 Y2
          have lt_p := F0.out.lt
          have pc0 : w15.cell? ⟨B0, 0, none⟩ = some (.string leaf) := F0.out.cell 0
          have pc1 : w15.cell? ⟨B0, 1, none⟩ = some (.int .i64 (j3 : Int)) := F0.out.cell 1
          have pc2 : w15.cell? ⟨B0, 2, none⟩ = some (.string tp) := F0.out.cell 2
          have lt_h := F1.out.lt
          have hc0 : w15.cell? ⟨B1, 0, none⟩ = some (.int .i64 (1 + (j0 : Int))) := F1.out.cell 0
          have hc1 : w15.cell? ⟨B1, 1, none⟩ = some (.int .i64 4) := F1.out.cell 1
          have hc2 : w15.cell? ⟨B1, 2, none⟩ = some (.string rn) := F1.out.cell 2
          have hc3 : w15.cell? ⟨B1, 3, none⟩ = some (.string th) := F1.out.cell 3
          have lt_g := F2.out.lt
          have gc0 : w15.cell? ⟨B2, 0, none⟩ = some (.int .i64 (1 + (j2 : Int))) := F2.out.cell 0
          have gc1 : w15.cell? ⟨B2, 1, none⟩ = some (.int .i64 2) := F2.out.cell 1
          have gc2 : w15.cell? ⟨B2, 2, none⟩ = some (.string rm) := F2.out.cell 2
          have gc3 : w15.cell? ⟨B2, 3, none⟩ = some (.string tg) := F2.out.cell 3
          go_wp2_with fail
          refine (auditsC [] key leaf tp rn th rm tg (j3 : Int) (1 + (j0 : Int)) 4 (1 + (j2 : Int)) 2 (i : Int) _ _ (by first | omega | (simp; omega)) (LX.out _ _) (OneBig.small (fun s h => by rw [List.mem_singleton.1 h]; omega)) (OneBig.small (fun s h => by rw [List.mem_singleton.1 h]; omega)) hk (by omega) (KT.out.below BW.out h0) (Nat.lt_of_lt_of_le h0 BW.out.size)).mono ?_
          rintro e w20 ⟨rfl, k20⟩
          clear lt_p pc0 pc1 pc2 lt_h hc0 hc1 hc2 hc3 lt_g gc0 gc1 gc2 gc3
          have f0 := F0.out.below k20 F0.out.lt
          have f1 := F1.out.below k20 F1.out.lt
          have f2 := F2.out.below k20 F2.out.lt
          have BZ : Hid (Below w.heap.size w w20) := BW.out.trans (k20.mono BW.out.size)
          have LZ := hidden (LY.out.below k20)
          have lt_p := f0.lt
          have pc0 : w20.cell? ⟨B0, 0, none⟩ = some (.string leaf) := f0.cell 0
          have pc1 : w20.cell? ⟨B0, 1, none⟩ = some (.int .i64 (j3 : Int)) := f0.cell 1
          have pc2 : w20.cell? ⟨B0, 2, none⟩ = some (.string tp) := f0.cell 2
          have lt_h := f1.lt
          have hc0 : w20.cell? ⟨B1, 0, none⟩ = some (.int .i64 (1 + (j0 : Int))) := f1.cell 0
          have hc1 : w20.cell? ⟨B1, 1, none⟩ = some (.int .i64 4) := f1.cell 1
          have hc2 : w20.cell? ⟨B1, 2, none⟩ = some (.string rn) := f1.cell 2
          have hc3 : w20.cell? ⟨B1, 3, none⟩ = some (.string th) := f1.cell 3
          have lt_g := f2.lt
          have gc0 : w20.cell? ⟨B2, 0, none⟩ = some (.int .i64 (1 + (j2 : Int))) := f2.cell 0
          have gc1 : w20.cell? ⟨B2, 1, none⟩ = some (.int .i64 2) := f2.cell 1
          have gc2 : w20.cell? ⟨B2, 2, none⟩ = some (.string rm) := f2.cell 2
          have gc3 : w20.cell? ⟨B2, 3, none⟩ = some (.string tg) := f2.cell 3
          clear f0 f1 f2 F0 F1 F2 LX LY BW k20
          go_wp2_with fail
          refine (auditsC ([other] ++ YR) key leaf tp rn th rm tg (j3 : Int) (1 + (j0 : Int)) 4 (1 + (j2 : Int)) 2 (i : Int) vy2 w20 (by first | omega | (simp; omega)) LZ.out ((OneBig.big HYR.out other ho).cons leaf (by omega)) ((OneBig.big HYR.out other ho).cons rm (by omega)) hk (by omega) (KT.out.below BZ.out h0) (Nat.lt_of_lt_of_le h0 BZ.out.size)).mono ?_
          rintro e w21 ⟨rfl, k21⟩
          have B21 : Hid (Below w.heap.size w w21) := BZ.out.trans (k21.mono BZ.out.size)
          clear k21 LZ BZ
          clear lt_p pc0 pc1 pc2 lt_h hc0 hc1 hc2 hc3 lt_g gc0 gc1 gc2 gc3
          go_wp2
          go_ret
          exact ⟨rfl, B21.out⟩
        · go_wp2_with (first | (at_builtin; refine halt ?_) | fail)
          unfold Halt
          refine wpList_appG rfl (.tmp 140) (.tmp 141) rfl w14.heap.size _ [other] rfl (ownS_lit w14 other) vy YR rfl (OwnS.lst (YO13.out.alloc _)) (by simp; omega) (by simp) ?_
          intro vy2 w15 owny hgy hwy
          have K15 : Hid (Below V.heap.size V w15) := Own.below (ownS_lit w14 other) (K13.out.alloc l14 _) hgy l14 (by simp; omega)
          have BW : Hid (Below w.heap.size w w15) := Own.below (ownS_lit w14 other) (B13.out.alloc (by omega) _) hgy (by omega) (by simp; omega)
          have LY := hidden (OwnS.lst owny)
          have ox15 : OwnS w15 V.heap.size (.slice (some ⟨gx, 0, none⟩) (xt.length + 1) xcap) (x0 :: xt) := Own.beside (XO13.out.alloc _) hgy (fun g hg he => by have h1 := (Own.lt XO13.out g hg).2; have h2 : g = w14.heap.size := Option.some.inj he; omega)
          have F0 := hidden (Q0.out.below K15.out lB0)
          have F1 := hidden (Q1.out.below K15.out lB1)
          have F2 := hidden (Q2.out.below K15.out lB2)
          obtain ⟨yo, ycap, hyv, _, _, hyS⟩ := ox15.opened
          cases hyv
          have LX : Hid (Lst w15 (.slice (some ⟨gx, 1, none⟩) xt.length (xcap - 1)) xt) := ⟨_, _, rfl, by omega, (by have h := Strs.drop hyS 1; simpa using h), fun h => by cases h⟩
          clear hyS
          clear owny hgy hwy ox15 K15 K13 B13 XO13 YO13 Y0 Y1 Y2
          have lt_p := F0.out.lt
          have pc0 : w15.cell? ⟨B0, 0, none⟩ = some (.string leaf) := F0.out.cell 0
          have pc1 : w15.cell? ⟨B0, 1, none⟩ = some (.int .i64 (j3 : Int)) := F0.out.cell 1
          have pc2 : w15.cell? ⟨B0, 2, none⟩ = some (.string tp) := F0.out.cell 2
          have lt_h := F1.out.lt
          have hc0 : w15.cell? ⟨B1, 0, none⟩ = some (.int .i64 (1 + (j0 : Int))) := F1.out.cell 0
          have hc1 : w15.cell? ⟨B1, 1, none⟩ = some (.int .i64 4) := F1.out.cell 1
          have hc2 : w15.cell? ⟨B1, 2, none⟩ = some (.string rn) := F1.out.cell 2
          have hc3 : w15.cell? ⟨B1, 3, none⟩ = some (.string th) := F1.out.cell 3
          have lt_g := F2.out.lt
          have gc0 : w15.cell? ⟨B2, 0, none⟩ = some (.int .i64 (1 + (j2 : Int))) := F2.out.cell 0
          have gc1 : w15.cell? ⟨B2, 1, none⟩ = some (.int .i64 2) := F2.out.cell 1
          have gc2 : w15.cell? ⟨B2, 2, none⟩ = some (.string rm) := F2.out.cell 2
          have gc3 : w15.cell? ⟨B2, 3, none⟩ = some (.string tg) := F2.out.cell 3
          go_wp2_with fail
          refine (auditsC xt key leaf tp rn th rm tg (j3 : Int) (1 + (j0 : Int)) 4 (1 + (j2 : Int)) 2 (i : Int) _ _ (by first | omega | (simp; omega)) LX.out (OneBig.small (List.forall_mem_cons.2 ⟨(by omega : leaf.size = 32), HXT.out⟩)) (OneBig.small (List.forall_mem_cons.2 ⟨(by omega : rm.size = 32), HXT.out⟩)) hk (by omega) (KT.out.below BW.out h0) (Nat.lt_of_lt_of_le h0 BW.out.size)).mono ?_
          rintro e w20 ⟨rfl, k20⟩
          clear lt_p pc0 pc1 pc2 lt_h hc0 hc1 hc2 hc3 lt_g gc0 gc1 gc2 gc3
          have f0 := F0.out.below k20 F0.out.lt
          have f1 := F1.out.below k20 F1.out.lt
          have f2 := F2.out.below k20 F2.out.lt
          have BZ : Hid (Below w.heap.size w w20) := BW.out.trans (k20.mono BW.out.size)
          have LZ := hidden (LY.out.below k20)
          have lt_p := f0.lt
          have pc0 : w20.cell? ⟨B0, 0, none⟩ = some (.string leaf) := f0.cell 0
          have pc1 : w20.cell? ⟨B0, 1, none⟩ = some (.int .i64 (j3 : Int)) := f0.cell 1
          have pc2 : w20.cell? ⟨B0, 2, none⟩ = some (.string tp) := f0.cell 2
          have lt_h := f1.lt
          have hc0 : w20.cell? ⟨B1, 0, none⟩ = some (.int .i64 (1 + (j0 : Int))) := f1.cell 0
          have hc1 : w20.cell? ⟨B1, 1, none⟩ = some (.int .i64 4) := f1.cell 1
          have hc2 : w20.cell? ⟨B1, 2, none⟩ = some (.string rn) := f1.cell 2
          have hc3 : w20.cell? ⟨B1, 3, none⟩ = some (.string th) := f1.cell 3
          have lt_g := f2.lt
          have gc0 : w20.cell? ⟨B2, 0, none⟩ = some (.int .i64 (1 + (j2 : Int))) := f2.cell 0
          have gc1 : w20.cell? ⟨B2, 1, none⟩ = some (.int .i64 2) := f2.cell 1
          have gc2 : w20.cell? ⟨B2, 2, none⟩ = some (.string rm) := f2.cell 2
          have gc3 : w20.cell? ⟨B2, 3, none⟩ = some (.string tg) := f2.cell 3
          clear f0 f1 f2 F0 F1 F2 LX LY BW k20
          go_wp2_with fail
          refine (auditsC ([other] ++ YR) key leaf tp rn th rm tg (j3 : Int) (1 + (j0 : Int)) 4 (1 + (j2 : Int)) 2 (i : Int) vy2 w20 (by first | omega | (simp; omega)) LZ.out ((OneBig.big HYR.out other ho).cons leaf (by omega)) ((OneBig.big HYR.out other ho).cons rm (by omega)) hk (by omega) (KT.out.below BZ.out h0) (Nat.lt_of_lt_of_le h0 BZ.out.size)).mono ?_
          rintro e w21 ⟨rfl, k21⟩
          have B21 : Hid (Below w.heap.size w w21) := BZ.out.trans (k21.mono BZ.out.size)
          clear k21 LZ BZ
          clear lt_p pc0 pc1 pc2 lt_h hc0 hc1 hc2 hc3 lt_g gc0 gc1 gc2 gc3
          go_wp2
          go_ret
          exact ⟨rfl, B21.out⟩
    · by_cases hX0 : XR = []
      · subst hX0
        obtain ⟨xo, xcap, hvx, hxc1, hxc2, hxS⟩ := XO13.out.opened
        clear hxS hxc2
        have hvx2 : vx = .slice xo 0 xcap := hvx
        clear hvx
        subst hvx2
        have KZ := hidden K13.out
        have BZ := hidden B13.out
        have XZ := hidden XO13.out
        have YZ := hidden YO13.out
        have rz := r3
        clear r3 K13 B13 XO13 YO13 Y0 Y1 Y2
        by_cases hY0 : YR = []
        · subst hY0
          obtain ⟨yo, ycap, hvy, hyc1, hyc2, hyS⟩ := YZ.out.opened
          clear hyS hyc2
          have hvy2 : vy = .slice yo 0 ycap := hvy
          clear hvy
          subst hvy2
          have F0 := hidden (Q0.out.below KZ.out lB0)
          have F1 := hidden (Q1.out.below KZ.out lB1)
          have F2 := hidden (Q2.out.below KZ.out lB2)
          have BW := hidden BZ.out
          have LX := hidden (OwnS.lst XZ.out)
          have LY := hidden (OwnS.lst YZ.out)
          clear BZ XZ YZ KZ
          have lt_p := F0.out.lt
          have pc0 : w14.cell? ⟨B0, 0, none⟩ = some (.string leaf) := F0.out.cell 0
          have pc1 : w14.cell? ⟨B0, 1, none⟩ = some (.int .i64 (j3 : Int)) := F0.out.cell 1
          have pc2 : w14.cell? ⟨B0, 2, none⟩ = some (.string tp) := F0.out.cell 2
          have lt_h := F1.out.lt
          have hc0 : w14.cell? ⟨B1, 0, none⟩ = some (.int .i64 (1 + (j0 : Int))) := F1.out.cell 0
          have hc1 : w14.cell? ⟨B1, 1, none⟩ = some (.int .i64 4) := F1.out.cell 1
          have hc2 : w14.cell? ⟨B1, 2, none⟩ = some (.string rn) := F1.out.cell 2
          have hc3 : w14.cell? ⟨B1, 3, none⟩ = some (.string th) := F1.out.cell 3
          have lt_g := F2.out.lt
          have gc0 : w14.cell? ⟨B2, 0, none⟩ = some (.int .i64 (1 + (j2 : Int))) := F2.out.cell 0
          have gc1 : w14.cell? ⟨B2, 1, none⟩ = some (.int .i64 2) := F2.out.cell 1
          have gc2 : w14.cell? ⟨B2, 2, none⟩ = some (.string rm) := F2.out.cell 2
          have gc3 : w14.cell? ⟨B2, 3, none⟩ = some (.string tg) := F2.out.cell 3
          go_wp2_with fail
          refine (auditsC [] key leaf tp rn th rm tg (j3 : Int) (1 + (j0 : Int)) 4 (1 + (j2 : Int)) 2 (i : Int) (.slice xo 0 xcap) _ (by first | omega | (simp; omega)) LX.out (OneBig.small (fun s h => by rw [List.mem_singleton.1 h]; omega)) (OneBig.small (fun s h => by rw [List.mem_singleton.1 h]; omega)) hk (by omega) (KT.out.below BW.out h0) (Nat.lt_of_lt_of_le h0 BW.out.size)).mono ?_
          rintro e w20 ⟨rfl, k20⟩
          clear lt_p pc0 pc1 pc2 lt_h hc0 hc1 hc2 hc3 lt_g gc0 gc1 gc2 gc3
          have f0 := F0.out.below k20 F0.out.lt
          have f1 := F1.out.below k20 F1.out.lt
          have f2 := F2.out.below k20 F2.out.lt
          have BZ : Hid (Below w.heap.size w w20) := BW.out.trans (k20.mono BW.out.size)
          have LZ := hidden (LY.out.below k20)
          have lt_p := f0.lt
          have pc0 : w20.cell? ⟨B0, 0, none⟩ = some (.string leaf) := f0.cell 0
          have pc1 : w20.cell? ⟨B0, 1, none⟩ = some (.int .i64 (j3 : Int)) := f0.cell 1
          have pc2 : w20.cell? ⟨B0, 2, none⟩ = some (.string tp) := f0.cell 2
          have lt_h := f1.lt
          have hc0 : w20.cell? ⟨B1, 0, none⟩ = some (.int .i64 (1 + (j0 : Int))) := f1.cell 0
          have hc1 : w20.cell? ⟨B1, 1, none⟩ = some (.int .i64 4) := f1.cell 1
          have hc2 : w20.cell? ⟨B1, 2, none⟩ = some (.string rn) := f1.cell 2
          have hc3 : w20.cell? ⟨B1, 3, none⟩ = some (.string th) := f1.cell 3
          have lt_g := f2.lt
          have gc0 : w20.cell? ⟨B2, 0, none⟩ = some (.int .i64 (1 + (j2 : Int))) := f2.cell 0
          have gc1 : w20.cell? ⟨B2, 1, none⟩ = some (.int .i64 2) := f2.cell 1
          have gc2 : w20.cell? ⟨B2, 2, none⟩ = some (.string rm) := f2.cell 2
          have gc3 : w20.cell? ⟨B2, 3, none⟩ = some (.string tg) := f2.cell 3
          clear f0 f1 f2 F0 F1 F2 LX LY BW k20
          go_wp2_with fail
          refine (auditsC [] key leaf tp rn th rm tg (j3 : Int) (1 + (j0 : Int)) 4 (1 + (j2 : Int)) 2 (i : Int) _ w20 (by first | omega | (simp; omega)) LZ.out (OneBig.small (fun s h => by rw [List.mem_singleton.1 h]; omega)) (OneBig.small (fun s h => by rw [List.mem_singleton.1 h]; omega)) hk (by omega) (KT.out.below BZ.out h0) (Nat.lt_of_lt_of_le h0 BZ.out.size)).mono ?_
          rintro e w21 ⟨rfl, k21⟩
          have B21 : Hid (Below w.heap.size w w21) := BZ.out.trans (k21.mono BZ.out.size)
          clear k21 LZ BZ
          clear lt_p pc0 pc1 pc2 lt_h hc0 hc1 hc2 hc3 lt_g gc0 gc1 gc2 gc3
          go_wp2
          go_ret
          exact ⟨rfl, B21.out⟩
        · obtain ⟨gy, ycap, cury, hvy, hy1, hy2, hy3, hy4, hy5, hy6, hy7⟩ := YZ.out.block hY0
          have hYp : 1 ≤ YR.length := by cases YR with | nil => exact absurd rfl hY0 | cons y r => simp
          have HY3 := hidden hy3
          have HY7 := hidden hy7
          clear hy3 hy7 hY0
          subst hvy
          have hYb : decide ((0 : Int) < (YR.length : Int)) = true := decide_eq_true (by omega)
          go_wp2_with fail
          refine (pick_any c3 YR.length w14 b3.1 b3.2 hYp (by omega)).mono ?_
          rintro e w16 ⟨⟨jy, hjy, rfl⟩, hw⟩
          have HW := hidden hw
          clear hw
          have HY3b : Hid (Row w16 gy 9 cury) := by rw [HW.out]; exact HY3.out
          have HY7b : Hid (OwnS (w16.setCell ⟨gy, jy, none⟩ (.string other)) w10.heap.size (.slice (some ⟨gy, 0, none⟩) YR.length ycap) (YR.set jy other)) := by rw [HW.out]; exact HY7.out jy other hjy
          have KZ2 : Hid (Below V.heap.size V w16) := by rw [HW.out]; exact KZ.out
          have BZ2 : Hid (Below w.heap.size w w16) := by rw [HW.out]; exact BZ.out
          have XZ2 : Hid (OwnS w16 V.heap.size (.slice xo 0 xcap) []) := by rw [HW.out]; exact XZ.out
          have hu : ∃ u, w16.cell? ⟨gy, jy, none⟩ = some u := ⟨cury[jy]'(by omega), by rw [HY3b.out.cell]; simp⟩
          obtain ⟨u, hcu⟩ := hu
          have hfu : w16.frozen? ⟨gy, jy, none⟩ = false := HY3b.out.free jy
          have lty := HY3b.out.lt
          have WY := hidden (show Below V.heap.size V (w16.setCell ⟨gy, jy, none⟩ (.string other)) from KZ2.out.setCell (p := ⟨gy, jy, none⟩) (show V.heap.size ≤ gy by omega) _)
          have F0 := hidden (Q0.out.below WY.out lB0)
          have F1 := hidden (Q1.out.below WY.out lB1)
          have F2 := hidden (Q2.out.below WY.out lB2)
          have G0 := hidden (Q0.out.below KZ2.out lB0)
          have G1 := hidden (Q1.out.below KZ2.out lB1)
          have G2 := hidden (Q2.out.below KZ2.out lB2)
          have BW := hidden (show Below w.heap.size w (w16.setCell ⟨gy, jy, none⟩ (.string other)) from BZ2.out.setCell (p := ⟨gy, jy, none⟩) (show w.heap.size ≤ gy by omega) _)
          have hxlt : Hid (∀ k, Value.ownBlock ((.slice xo 0 xcap)) = some k → k < w10.heap.size) := fun k hk => (hlt10.out k hk).2
          have LX := hidden (OwnS.lst (show OwnS (w16.setCell ⟨gy, jy, none⟩ (.string other)) V.heap.size (.slice xo 0 xcap) [] from Own.kept XZ2.out (fun g hg => Below.heap_setCell _ _ _ _ (by have := hxlt.out g hg; show g ≠ gy; omega))))
          have LY := hidden (OwnS.lst HY7b.out)
          have neY0 : gy ≠ B0 := by omega
          have neY1 : gy ≠ B1 := by omega
          have neY2 : gy ≠ B2 := by omega
          have neZ0 : B0 ≠ gy := by omega
          have neZ1 : B1 ≠ gy := by omega
          have neZ2 : B2 ≠ gy := by omega
          clear HY3 HY7 HY3b HY7b KZ2 BZ2 XZ2 KZ BZ XZ YZ WY HW rz
          have lt_p := G0.out.lt
          have pc0 : w16.cell? ⟨B0, 0, none⟩ = some (.string leaf) := G0.out.cell 0
          have pc1 : w16.cell? ⟨B0, 1, none⟩ = some (.int .i64 (j3 : Int)) := G0.out.cell 1
          have pc2 : w16.cell? ⟨B0, 2, none⟩ = some (.string tp) := G0.out.cell 2
          have lt_h := G1.out.lt
          have hc0 : w16.cell? ⟨B1, 0, none⟩ = some (.int .i64 (1 + (j0 : Int))) := G1.out.cell 0
          have hc1 : w16.cell? ⟨B1, 1, none⟩ = some (.int .i64 4) := G1.out.cell 1
          have hc2 : w16.cell? ⟨B1, 2, none⟩ = some (.string rn) := G1.out.cell 2
          have hc3 : w16.cell? ⟨B1, 3, none⟩ = some (.string th) := G1.out.cell 3
          have lt_g := G2.out.lt
          have gc0 : w16.cell? ⟨B2, 0, none⟩ = some (.int .i64 (1 + (j2 : Int))) := G2.out.cell 0
          have gc1 : w16.cell? ⟨B2, 1, none⟩ = some (.int .i64 2) := G2.out.cell 1
          have gc2 : w16.cell? ⟨B2, 2, none⟩ = some (.string rm) := G2.out.cell 2
          have gc3 : w16.cell? ⟨B2, 3, none⟩ = some (.string tg) := G2.out.cell 3
          clear G0 G1 G2
          go_wp2_with fail
          refine (auditsC [] key leaf tp rn th rm tg (j3 : Int) (1 + (j0 : Int)) 4 (1 + (j2 : Int)) 2 (i : Int) (.slice xo 0 xcap) _ (by first | omega | (simp; omega)) LX.out (OneBig.small (fun s h => by rw [List.mem_singleton.1 h]; omega)) (OneBig.small (fun s h => by rw [List.mem_singleton.1 h]; omega)) hk (by omega) (KT.out.below BW.out h0) (Nat.lt_of_lt_of_le h0 BW.out.size)).mono ?_
          rintro e w20 ⟨rfl, k20⟩
          clear lt_p pc0 pc1 pc2 lt_h hc0 hc1 hc2 hc3 lt_g gc0 gc1 gc2 gc3 hcu hfu lty neY0 neY1 neY2 neZ0 neZ1 neZ2
          have f0 := F0.out.below k20 F0.out.lt
          have f1 := F1.out.below k20 F1.out.lt
          have f2 := F2.out.below k20 F2.out.lt
          have BZ : Hid (Below w.heap.size w w20) := BW.out.trans (k20.mono BW.out.size)
          have LZ := hidden (LY.out.below k20)
          have lt_p := f0.lt
          have pc0 : w20.cell? ⟨B0, 0, none⟩ = some (.string leaf) := f0.cell 0
          have pc1 : w20.cell? ⟨B0, 1, none⟩ = some (.int .i64 (j3 : Int)) := f0.cell 1
          have pc2 : w20.cell? ⟨B0, 2, none⟩ = some (.string tp) := f0.cell 2
          have lt_h := f1.lt
          have hc0 : w20.cell? ⟨B1, 0, none⟩ = some (.int .i64 (1 + (j0 : Int))) := f1.cell 0
          have hc1 : w20.cell? ⟨B1, 1, none⟩ = some (.int .i64 4) := f1.cell 1
          have hc2 : w20.cell? ⟨B1, 2, none⟩ = some (.string rn) := f1.cell 2
          have hc3 : w20.cell? ⟨B1, 3, none⟩ = some (.string th) := f1.cell 3
          have lt_g := f2.lt
          have gc0 : w20.cell? ⟨B2, 0, none⟩ = some (.int .i64 (1 + (j2 : Int))) := f2.cell 0
          have gc1 : w20.cell? ⟨B2, 1, none⟩ = some (.int .i64 2) := f2.cell 1
          have gc2 : w20.cell? ⟨B2, 2, none⟩ = some (.string rm) := f2.cell 2
          have gc3 : w20.cell? ⟨B2, 3, none⟩ = some (.string tg) := f2.cell 3
          clear f0 f1 f2 F0 F1 F2 LX LY BW k20
          go_wp2_with fail
          refine (auditsC (YR.set jy other) key leaf tp rn th rm tg (j3 : Int) (1 + (j0 : Int)) 4 (1 + (j2 : Int)) 2 (i : Int) _ w20 (by first | omega | (simp; omega)) LZ.out ((OneBig.set HYR.out jy other ho).cons leaf (by omega)) ((OneBig.set HYR.out jy other ho).cons rm (by omega)) hk (by omega) (KT.out.below BZ.out h0) (Nat.lt_of_lt_of_le h0 BZ.out.size)).mono ?_
          rintro e w21 ⟨rfl, k21⟩
          have B21 : Hid (Below w.heap.size w w21) := BZ.out.trans (k21.mono BZ.out.size)
          clear k21 LZ BZ
          clear lt_p pc0 pc1 pc2 lt_h hc0 hc1 hc2 hc3 lt_g gc0 gc1 gc2 gc3
          go_wp2
          go_ret
          exact ⟨rfl, B21.out⟩
      · obtain ⟨gx, xcap, curx, hvx, hx1, hx2, hx3, hx4, hx5, hx6, hx7⟩ := XO13.out.block hX0
        have hXp : 1 ≤ XR.length := by cases XR with | nil => exact absurd rfl hX0 | cons y r => simp
        have HX3 := hidden hx3
        have HX7 := hidden hx7
        clear hx3 hx7 hX0
        subst hvx
        have hXb : decide ((0 : Int) < (XR.length : Int)) = true := decide_eq_true (by omega)
        go_wp2_with fail
        refine (pick_any c3 XR.length w14 b3.1 b3.2 hXp (by omega)).mono ?_
        rintro e w15 ⟨⟨jx, hjx, rfl⟩, hw⟩
        subst hw
        have hgx10 : gx < w10.heap.size := (hlt10.out gx rfl).2
        have hu : ∃ u, w15.cell? ⟨gx, jx, none⟩ = some u := ⟨curx[jx]'(by omega), by rw [HX3.out.cell]; simp⟩
        obtain ⟨u, hcu⟩ := hu
        have hfu : w15.frozen? ⟨gx, jx, none⟩ = false := HX3.out.free jx
        have ltx := HX3.out.lt
        have hgl14 : gr < V.heap.size := by have := B9.out.size; omega
        have KZ := hidden (show Below V.heap.size V (w15.setCell ⟨gx, jx, none⟩ (.string other)) from K13.out.setCell (p := ⟨gx, jx, none⟩) (show V.heap.size ≤ gx by omega) _)
        have BZ := hidden (show Below w.heap.size w (w15.setCell ⟨gx, jx, none⟩ (.string other)) from B13.out.setCell (p := ⟨gx, jx, none⟩) (show w.heap.size ≤ gx by omega) _)
        have XZ := hidden (HX7.out jx other hjx)
        have YZ := hidden (show OwnS (w15.setCell ⟨gx, jx, none⟩ (.string other)) w10.heap.size vy YR from YO13.out.set hgx10 jx (.string other))
        have rz : (w15.setCell ⟨gx, jx, none⟩ (.string other)).cell? ⟨gr, og + 3, none⟩ = some (.int .i64 c3) := by rw [BZ.out.cell (p := ⟨gr, og + 3, none⟩) hgr]; exact R3.out
        have hr1 : ¬ gr = gx := by omega
        have hr2 : ¬ gx = gr := by omega
        have neX0 : gx ≠ B0 := by omega
        have neX1 : gx ≠ B1 := by omega
        have neX2 : gx ≠ B2 := by omega
        have neW0 : B0 ≠ gx := by omega
        have neW1 : B1 ≠ gx := by omega
        have neW2 : B2 ≠ gx := by omega
        clear HX3 HX7 K13 B13 XO13 YO13
        have lt_p := Y0.out.lt
        have pc0 : w15.cell? ⟨B0, 0, none⟩ = some (.string leaf) := Y0.out.cell 0
        have pc1 : w15.cell? ⟨B0, 1, none⟩ = some (.int .i64 (j3 : Int)) := Y0.out.cell 1
        have pc2 : w15.cell? ⟨B0, 2, none⟩ = some (.string tp) := Y0.out.cell 2
        have lt_h := Y1.out.lt
        have hc0 : w15.cell? ⟨B1, 0, none⟩ = some (.int .i64 (1 + (j0 : Int))) := Y1.out.cell 0
        have hc1 : w15.cell? ⟨B1, 1, none⟩ = some (.int .i64 4) := Y1.out.cell 1
        have hc2 : w15.cell? ⟨B1, 2, none⟩ = some (.string rn) := Y1.out.cell 2
        have hc3 : w15.cell? ⟨B1, 3, none⟩ = some (.string th) := Y1.out.cell 3
        have lt_g := Y2.out.lt
        have gc0 : w15.cell? ⟨B2, 0, none⟩ = some (.int .i64 (1 + (j2 : Int))) := Y2.out.cell 0
        have gc1 : w15.cell? ⟨B2, 1, none⟩ = some (.int .i64 2) := Y2.out.cell 1
        have gc2 : w15.cell? ⟨B2, 2, none⟩ = some (.string rm) := Y2.out.cell 2
        have gc3 : w15.cell? ⟨B2, 3, none⟩ = some (.string tg) := Y2.out.cell 3
        clear Y0 Y1 Y2
        by_cases hY0 : YR = []
        · subst hY0
          obtain ⟨yo, ycap, hvy, hyc1, hyc2, hyS⟩ := YZ.out.opened
          clear hyS hyc2
          have hvy2 : vy = .slice yo 0 ycap := hvy
          clear hvy
          subst hvy2
          have F0 := hidden (Q0.out.below KZ.out lB0)
          have F1 := hidden (Q1.out.below KZ.out lB1)
          have F2 := hidden (Q2.out.below KZ.out lB2)
          have BW := hidden BZ.out
          have LX := hidden (OwnS.lst XZ.out)
          have LY := hidden (OwnS.lst YZ.out)
          clear BZ XZ YZ KZ
          have lt_p := F0.out.lt
          have lt_h := F1.out.lt
          have lt_g := F2.out.lt
          go_wp2_with fail
          refine (auditsC (XR.set jx other) key leaf tp rn th rm tg (j3 : Int) (1 + (j0 : Int)) 4 (1 + (j2 : Int)) 2 (i : Int) (.slice (some ⟨gx, 0, none⟩) XR.length xcap) _ (by first | omega | (simp; omega)) LX.out ((OneBig.set HXR.out jx other ho).cons leaf (by omega)) ((OneBig.set HXR.out jx other ho).cons rm (by omega)) hk (by omega) (KT.out.below BW.out h0) (Nat.lt_of_lt_of_le h0 BW.out.size)).mono ?_
          rintro e w20 ⟨rfl, k20⟩
          clear lt_p pc0 pc1 pc2 lt_h hc0 hc1 hc2 hc3 lt_g gc0 gc1 gc2 gc3
          have f0 := F0.out.below k20 F0.out.lt
          have f1 := F1.out.below k20 F1.out.lt
          have f2 := F2.out.below k20 F2.out.lt
          have BZ : Hid (Below w.heap.size w w20) := BW.out.trans (k20.mono BW.out.size)
          have LZ := hidden (LY.out.below k20)
          have lt_p := f0.lt
          have pc0 : w20.cell? ⟨B0, 0, none⟩ = some (.string leaf) := f0.cell 0
          have pc1 : w20.cell? ⟨B0, 1, none⟩ = some (.int .i64 (j3 : Int)) := f0.cell 1
          have pc2 : w20.cell? ⟨B0, 2, none⟩ = some (.string tp) := f0.cell 2
          have lt_h := f1.lt
          have hc0 : w20.cell? ⟨B1, 0, none⟩ = some (.int .i64 (1 + (j0 : Int))) := f1.cell 0
          have hc1 : w20.cell? ⟨B1, 1, none⟩ = some (.int .i64 4) := f1.cell 1
          have hc2 : w20.cell? ⟨B1, 2, none⟩ = some (.string rn) := f1.cell 2
          have hc3 : w20.cell? ⟨B1, 3, none⟩ = some (.string th) := f1.cell 3
          have lt_g := f2.lt
          have gc0 : w20.cell? ⟨B2, 0, none⟩ = some (.int .i64 (1 + (j2 : Int))) := f2.cell 0
          have gc1 : w20.cell? ⟨B2, 1, none⟩ = some (.int .i64 2) := f2.cell 1
          have gc2 : w20.cell? ⟨B2, 2, none⟩ = some (.string rm) := f2.cell 2
          have gc3 : w20.cell? ⟨B2, 3, none⟩ = some (.string tg) := f2.cell 3
          clear f0 f1 f2 F0 F1 F2 LX LY BW k20
          go_wp2_with fail
          refine (auditsC [] key leaf tp rn th rm tg (j3 : Int) (1 + (j0 : Int)) 4 (1 + (j2 : Int)) 2 (i : Int) _ w20 (by first | omega | (simp; omega)) LZ.out (OneBig.small (fun s h => by rw [List.mem_singleton.1 h]; omega)) (OneBig.small (fun s h => by rw [List.mem_singleton.1 h]; omega)) hk (by omega) (KT.out.below BZ.out h0) (Nat.lt_of_lt_of_le h0 BZ.out.size)).mono ?_
          rintro e w21 ⟨rfl, k21⟩
          have B21 : Hid (Below w.heap.size w w21) := BZ.out.trans (k21.mono BZ.out.size)
          clear k21 LZ BZ
          clear lt_p pc0 pc1 pc2 lt_h hc0 hc1 hc2 hc3 lt_g gc0 gc1 gc2 gc3
          go_wp2
          go_ret
          exact ⟨rfl, B21.out⟩
        · obtain ⟨gy, ycap, cury, hvy, hy1, hy2, hy3, hy4, hy5, hy6, hy7⟩ := YZ.out.block hY0
          have hYp : 1 ≤ YR.length := by cases YR with | nil => exact absurd rfl hY0 | cons y r => simp
          have HY3 := hidden hy3
          have HY7 := hidden hy7
          clear hy3 hy7 hY0
          subst hvy
          have hYb : decide ((0 : Int) < (YR.length : Int)) = true := decide_eq_true (by omega)
          go_wp2_with fail
          refine (pick_any c3 YR.length (w15.setCell ⟨gx, jx, none⟩ (.string other)) b3.1 b3.2 hYp (by omega)).mono ?_
          rintro e w16 ⟨⟨jy, hjy, rfl⟩, hw⟩
          have HW := hidden hw
          clear hw
          have HY3b : Hid (Row w16 gy 9 cury) := by rw [HW.out]; exact HY3.out
          have HY7b : Hid (OwnS (w16.setCell ⟨gy, jy, none⟩ (.string other)) w10.heap.size (.slice (some ⟨gy, 0, none⟩) YR.length ycap) (YR.set jy other)) := by rw [HW.out]; exact HY7.out jy other hjy
          have KZ2 : Hid (Below V.heap.size V w16) := by rw [HW.out]; exact KZ.out
          have BZ2 : Hid (Below w.heap.size w w16) := by rw [HW.out]; exact BZ.out
          have XZ2 : Hid (OwnS w16 V.heap.size (.slice (some ⟨gx, 0, none⟩) XR.length xcap) (XR.set jx other)) := by rw [HW.out]; exact XZ.out
          have hu : ∃ u, w16.cell? ⟨gy, jy, none⟩ = some u := ⟨cury[jy]'(by omega), by rw [HY3b.out.cell]; simp⟩
          obtain ⟨u, hcu⟩ := hu
          have hfu : w16.frozen? ⟨gy, jy, none⟩ = false := HY3b.out.free jy
          have lty := HY3b.out.lt
          have WY := hidden (show Below V.heap.size V (w16.setCell ⟨gy, jy, none⟩ (.string other)) from KZ2.out.setCell (p := ⟨gy, jy, none⟩) (show V.heap.size ≤ gy by omega) _)
          have F0 := hidden (Q0.out.below WY.out lB0)
          have F1 := hidden (Q1.out.below WY.out lB1)
          have F2 := hidden (Q2.out.below WY.out lB2)
          have G0 := hidden (Q0.out.below KZ2.out lB0)
          have G1 := hidden (Q1.out.below KZ2.out lB1)
          have G2 := hidden (Q2.out.below KZ2.out lB2)
          have BW := hidden (show Below w.heap.size w (w16.setCell ⟨gy, jy, none⟩ (.string other)) from BZ2.out.setCell (p := ⟨gy, jy, none⟩) (show w.heap.size ≤ gy by omega) _)
          have hxlt : Hid (∀ k, Value.ownBlock ((.slice (some ⟨gx, 0, none⟩) XR.length xcap)) = some k → k < w10.heap.size) := fun k hk => (hlt10.out k hk).2
          have LX := hidden (OwnS.lst (show OwnS (w16.setCell ⟨gy, jy, none⟩ (.string other)) V.heap.size (.slice (some ⟨gx, 0, none⟩) XR.length xcap) (XR.set jx other) from Own.kept XZ2.out (fun g hg => Below.heap_setCell _ _ _ _ (by have := hxlt.out g hg; show g ≠ gy; omega))))
          have LY := hidden (OwnS.lst HY7b.out)
          have neY0 : gy ≠ B0 := by omega
          have neY1 : gy ≠ B1 := by omega
          have neY2 : gy ≠ B2 := by omega
          have neZ0 : B0 ≠ gy := by omega
          have neZ1 : B1 ≠ gy := by omega
          have neZ2 : B2 ≠ gy := by omega
          clear HY3 HY7 HY3b HY7b KZ2 BZ2 XZ2 KZ BZ XZ YZ WY HW rz
          have lt_p := G0.out.lt
          have pc0 : w16.cell? ⟨B0, 0, none⟩ = some (.string leaf) := G0.out.cell 0
          have pc1 : w16.cell? ⟨B0, 1, none⟩ = some (.int .i64 (j3 : Int)) := G0.out.cell 1
          have pc2 : w16.cell? ⟨B0, 2, none⟩ = some (.string tp) := G0.out.cell 2
          have lt_h := G1.out.lt
          have hc0 : w16.cell? ⟨B1, 0, none⟩ = some (.int .i64 (1 + (j0 : Int))) := G1.out.cell 0
          have hc1 : w16.cell? ⟨B1, 1, none⟩ = some (.int .i64 4) := G1.out.cell 1
          have hc2 : w16.cell? ⟨B1, 2, none⟩ = some (.string rn) := G1.out.cell 2
          have hc3 : w16.cell? ⟨B1, 3, none⟩ = some (.string th) := G1.out.cell 3
          have lt_g := G2.out.lt
          have gc0 : w16.cell? ⟨B2, 0, none⟩ = some (.int .i64 (1 + (j2 : Int))) := G2.out.cell 0
          have gc1 : w16.cell? ⟨B2, 1, none⟩ = some (.int .i64 2) := G2.out.cell 1
          have gc2 : w16.cell? ⟨B2, 2, none⟩ = some (.string rm) := G2.out.cell 2
          have gc3 : w16.cell? ⟨B2, 3, none⟩ = some (.string tg) := G2.out.cell 3
          clear G0 G1 G2
          go_wp2_with fail
          refine (auditsC (XR.set jx other) key leaf tp rn th rm tg (j3 : Int) (1 + (j0 : Int)) 4 (1 + (j2 : Int)) 2 (i : Int) (.slice (some ⟨gx, 0, none⟩) XR.length xcap) _ (by first | omega | (simp; omega)) LX.out ((OneBig.set HXR.out jx other ho).cons leaf (by omega)) ((OneBig.set HXR.out jx other ho).cons rm (by omega)) hk (by omega) (KT.out.below BW.out h0) (Nat.lt_of_lt_of_le h0 BW.out.size)).mono ?_
          rintro e w20 ⟨rfl, k20⟩
          clear lt_p pc0 pc1 pc2 lt_h hc0 hc1 hc2 hc3 lt_g gc0 gc1 gc2 gc3 hcu hfu lty neY0 neY1 neY2 neZ0 neZ1 neZ2
          have f0 := F0.out.below k20 F0.out.lt
          have f1 := F1.out.below k20 F1.out.lt
          have f2 := F2.out.below k20 F2.out.lt
          have BZ : Hid (Below w.heap.size w w20) := BW.out.trans (k20.mono BW.out.size)
          have LZ := hidden (LY.out.below k20)
          have lt_p := f0.lt
          have pc0 : w20.cell? ⟨B0, 0, none⟩ = some (.string leaf) := f0.cell 0
          have pc1 : w20.cell? ⟨B0, 1, none⟩ = some (.int .i64 (j3 : Int)) := f0.cell 1
          have pc2 : w20.cell? ⟨B0, 2, none⟩ = some (.string tp) := f0.cell 2
          have lt_h := f1.lt
          have hc0 : w20.cell? ⟨B1, 0, none⟩ = some (.int .i64 (1 + (j0 : Int))) := f1.cell 0
          have hc1 : w20.cell? ⟨B1, 1, none⟩ = some (.int .i64 4) := f1.cell 1
          have hc2 : w20.cell? ⟨B1, 2, none⟩ = some (.string rn) := f1.cell 2
          have hc3 : w20.cell? ⟨B1, 3, none⟩ = some (.string th) := f1.cell 3
          have lt_g := f2.lt
          have gc0 : w20.cell? ⟨B2, 0, none⟩ = some (.int .i64 (1 + (j2 : Int))) := f2.cell 0
          have gc1 : w20.cell? ⟨B2, 1, none⟩ = some (.int .i64 2) := f2.cell 1
          have gc2 : w20.cell? ⟨B2, 2, none⟩ = some (.string rm) := f2.cell 2
          have gc3 : w20.cell? ⟨B2, 3, none⟩ = some (.string tg) := f2.cell 3
          clear f0 f1 f2 F0 F1 F2 LX LY BW k20
          go_wp2_with fail
          refine (auditsC (YR.set jy other) key leaf tp rn th rm tg (j3 : Int) (1 + (j0 : Int)) 4 (1 + (j2 : Int)) 2 (i : Int) _ w20 (by first | omega | (simp; omega)) LZ.out ((OneBig.set HYR.out jy other ho).cons leaf (by omega)) ((OneBig.set HYR.out jy other ho).cons rm (by omega)) hk (by omega) (KT.out.below BZ.out h0) (Nat.lt_of_lt_of_le h0 BZ.out.size)).mono ?_
          rintro e w21 ⟨rfl, k21⟩
          have B21 : Hid (Below w.heap.size w w21) := BZ.out.trans (k21.mono BZ.out.size)
          clear k21 LZ BZ
          clear lt_p pc0 pc1 pc2 lt_h hc0 hc1 hc2 hc3 lt_g gc0 gc1 gc2 gc3
          go_wp2
          go_ret
          exact ⟨rfl, B21.out⟩
    · have lt_p := Y0.out.lt
      have pc0 : w14.cell? ⟨B0, 0, none⟩ = some (.string leaf) := Y0.out.cell 0
      have pc1 : w14.cell? ⟨B0, 1, none⟩ = some (.int .i64 (j3 : Int)) := Y0.out.cell 1
      have pc2 : w14.cell? ⟨B0, 2, none⟩ = some (.string tp) := Y0.out.cell 2
      have lt_h := Y1.out.lt
      have hc0 : w14.cell? ⟨B1, 0, none⟩ = some (.int .i64 (1 + (j0 : Int))) := Y1.out.cell 0
      have hf0 : w14.frozen? ⟨B1, 0, none⟩ = false := Y1.out.free 0
      have hc1 : w14.cell? ⟨B1, 1, none⟩ = some (.int .i64 4) := Y1.out.cell 1
      have hc2 : w14.cell? ⟨B1, 2, none⟩ = some (.string rn) := Y1.out.cell 2
      have hc3 : w14.cell? ⟨B1, 3, none⟩ = some (.string th) := Y1.out.cell 3
      have lt_g := Y2.out.lt
      have gc0 : w14.cell? ⟨B2, 0, none⟩ = some (.int .i64 (1 + (j2 : Int))) := Y2.out.cell 0
      have gc1 : w14.cell? ⟨B2, 1, none⟩ = some (.int .i64 2) := Y2.out.cell 1
      have gc2 : w14.cell? ⟨B2, 2, none⟩ = some (.string rm) := Y2.out.cell 2
      have gc3 : w14.cell? ⟨B2, 3, none⟩ = some (.string tg) := Y2.out.cell 3
      have F0 := hidden (show Row (w14.setCell ⟨B1, 0, none⟩ (.int .i64 (1 + (j0 : Int) + 1))) B0 30 #[.string leaf, .int .i64 (j3 : Int), .string tp] from Y0.out.other (a := ⟨B1, 0, none⟩) ne01 _)
      have F1 := hidden (show Row (w14.setCell ⟨B1, 0, none⟩ (.int .i64 (1 + (j0 : Int) + 1))) B1 32 #[.int .i64 (1 + (j0 : Int) + 1), .int .i64 4, .string rn, .string th] from Y1.out.setCell 0 (.int .i64 (1 + (j0 : Int) + 1)))
      have F2 := hidden (show Row (w14.setCell ⟨B1, 0, none⟩ (.int .i64 (1 + (j0 : Int) + 1))) B2 32 #[.int .i64 (1 + (j2 : Int)), .int .i64 2, .string rm, .string tg] from Y2.out.other (a := ⟨B1, 0, none⟩) ne21 _)
      have BW := hidden (show Below w.heap.size w (w14.setCell ⟨B1, 0, none⟩ (.int .i64 (1 + (j0 : Int) + 1))) from B13.out.setCell (p := ⟨B1, 0, none⟩) (show w.heap.size ≤ B1 by omega) _)
      have LX := hidden (show Lst (w14.setCell ⟨B1, 0, none⟩ (.int .i64 (1 + (j0 : Int) + 1))) vx XR from (XO13.out.set (show B1 < V.heap.size by omega) 0 (.int .i64 (1 + (j0 : Int) + 1))).lst)
      have LY := hidden (show Lst (w14.setCell ⟨B1, 0, none⟩ (.int .i64 (1 + (j0 : Int) + 1))) vy YR from (YO13.out.set (show B1 < w10.heap.size by omega) 0 (.int .i64 (1 + (j0 : Int) + 1))).lst)
      clear Y0 Y1 Y2 B13 XO13 YO13 K13
      go_wp2_with fail
      refine (auditsC XR key leaf tp rn th rm tg (j3 : Int) (1 + (j0 : Int) + 1) 4 (1 + (j2 : Int)) 2 ((i : Int) + 1) vx _ (by first | omega | (simp; omega)) LX.out (OneBig.small (List.forall_mem_cons.2 ⟨(by omega : leaf.size = 32), HXR.out⟩)) (OneBig.small (List.forall_mem_cons.2 ⟨(by omega : rm.size = 32), HXR.out⟩)) hk (by omega) (KT.out.below BW.out h0) (Nat.lt_of_lt_of_le h0 BW.out.size)).mono ?_
      rintro e w20 ⟨rfl, k20⟩
      clear lt_p pc0 pc1 pc2 lt_h hc0 hf0 hc1 hc2 hc3 lt_g gc0 gc1 gc2 gc3
      have f0 := F0.out.below k20 F0.out.lt
      have f1 := F1.out.below k20 F1.out.lt
      have f2 := F2.out.below k20 F2.out.lt
      have BZ : Hid (Below w.heap.size w w20) := BW.out.trans (k20.mono BW.out.size)
      have LZ := hidden (LY.out.below k20)
      have lt_p := f0.lt
      have pc0 : w20.cell? ⟨B0, 0, none⟩ = some (.string leaf) := f0.cell 0
      have pc1 : w20.cell? ⟨B0, 1, none⟩ = some (.int .i64 (j3 : Int)) := f0.cell 1
      have pc2 : w20.cell? ⟨B0, 2, none⟩ = some (.string tp) := f0.cell 2
      have lt_h := f1.lt
      have hc0 : w20.cell? ⟨B1, 0, none⟩ = some (.int .i64 (1 + (j0 : Int) + 1)) := f1.cell 0
      have hc1 : w20.cell? ⟨B1, 1, none⟩ = some (.int .i64 4) := f1.cell 1
      have hc2 : w20.cell? ⟨B1, 2, none⟩ = some (.string rn) := f1.cell 2
      have hc3 : w20.cell? ⟨B1, 3, none⟩ = some (.string th) := f1.cell 3
      have lt_g := f2.lt
      have gc0 : w20.cell? ⟨B2, 0, none⟩ = some (.int .i64 (1 + (j2 : Int))) := f2.cell 0
      have gc1 : w20.cell? ⟨B2, 1, none⟩ = some (.int .i64 2) := f2.cell 1
      have gc2 : w20.cell? ⟨B2, 2, none⟩ = some (.string rm) := f2.cell 2
      have gc3 : w20.cell? ⟨B2, 3, none⟩ = some (.string tg) := f2.cell 3
      clear f0 f1 f2 F0 F1 F2 LX LY BW k20
      go_wp2_with fail
      refine (auditsC YR key leaf tp rn th rm tg (j3 : Int) (1 + (j0 : Int) + 1) 4 (1 + (j2 : Int)) 2 ((i : Int) + 1) vy w20 (by first | omega | (simp; omega)) LZ.out (OneBig.small (List.forall_mem_cons.2 ⟨(by omega : leaf.size = 32), HYR.out⟩)) (OneBig.small (List.forall_mem_cons.2 ⟨(by omega : rm.size = 32), HYR.out⟩)) hk (by omega) (KT.out.below BZ.out h0) (Nat.lt_of_lt_of_le h0 BZ.out.size)).mono ?_
      rintro e w21 ⟨rfl, k21⟩
      have B21 : Hid (Below w.heap.size w w21) := BZ.out.trans (k21.mono BZ.out.size)
      clear k21 LZ BZ
      clear lt_p pc0 pc1 pc2 lt_h hc0 hc1 hc2 hc3 lt_g gc0 gc1 gc2 gc3
      go_wp2
      go_ret
      exact ⟨rfl, B21.out⟩
    · have lt_p := Y0.out.lt
      have pc0 : w14.cell? ⟨B0, 0, none⟩ = some (.string leaf) := Y0.out.cell 0
      have pc1 : w14.cell? ⟨B0, 1, none⟩ = some (.int .i64 (j3 : Int)) := Y0.out.cell 1
      have pc2 : w14.cell? ⟨B0, 2, none⟩ = some (.string tp) := Y0.out.cell 2
      have lt_h := Y1.out.lt
      have hc0 : w14.cell? ⟨B1, 0, none⟩ = some (.int .i64 (1 + (j0 : Int))) := Y1.out.cell 0
      have hc1 : w14.cell? ⟨B1, 1, none⟩ = some (.int .i64 4) := Y1.out.cell 1
      have hc2 : w14.cell? ⟨B1, 2, none⟩ = some (.string rn) := Y1.out.cell 2
      have hc3 : w14.cell? ⟨B1, 3, none⟩ = some (.string th) := Y1.out.cell 3
      have lt_g := Y2.out.lt
      have gc0 : w14.cell? ⟨B2, 0, none⟩ = some (.int .i64 (1 + (j2 : Int))) := Y2.out.cell 0
      have gf0 : w14.frozen? ⟨B2, 0, none⟩ = false := Y2.out.free 0
      have gc1 : w14.cell? ⟨B2, 1, none⟩ = some (.int .i64 2) := Y2.out.cell 1
      have gc2 : w14.cell? ⟨B2, 2, none⟩ = some (.string rm) := Y2.out.cell 2
      have gc3 : w14.cell? ⟨B2, 3, none⟩ = some (.string tg) := Y2.out.cell 3
      have F0 := hidden (show Row (w14.setCell ⟨B2, 0, none⟩ (.int .i64 (1 + (j2 : Int) + 1))) B0 30 #[.string leaf, .int .i64 (j3 : Int), .string tp] from Y0.out.other (a := ⟨B2, 0, none⟩) ne02 _)
      have F1 := hidden (show Row (w14.setCell ⟨B2, 0, none⟩ (.int .i64 (1 + (j2 : Int) + 1))) B1 32 #[.int .i64 (1 + (j0 : Int)), .int .i64 4, .string rn, .string th] from Y1.out.other (a := ⟨B2, 0, none⟩) ne12 _)
      have F2 := hidden (show Row (w14.setCell ⟨B2, 0, none⟩ (.int .i64 (1 + (j2 : Int) + 1))) B2 32 #[.int .i64 (1 + (j2 : Int) + 1), .int .i64 2, .string rm, .string tg] from Y2.out.setCell 0 (.int .i64 (1 + (j2 : Int) + 1)))
      have BW := hidden (show Below w.heap.size w (w14.setCell ⟨B2, 0, none⟩ (.int .i64 (1 + (j2 : Int) + 1))) from B13.out.setCell (p := ⟨B2, 0, none⟩) (show w.heap.size ≤ B2 by omega) _)
      have LX := hidden (show Lst (w14.setCell ⟨B2, 0, none⟩ (.int .i64 (1 + (j2 : Int) + 1))) vx XR from (XO13.out.set (show B2 < V.heap.size by omega) 0 (.int .i64 (1 + (j2 : Int) + 1))).lst)
      have LY := hidden (show Lst (w14.setCell ⟨B2, 0, none⟩ (.int .i64 (1 + (j2 : Int) + 1))) vy YR from (YO13.out.set (show B2 < w10.heap.size by omega) 0 (.int .i64 (1 + (j2 : Int) + 1))).lst)
      clear Y0 Y1 Y2 B13 XO13 YO13 K13
      go_wp2_with fail
      refine (auditsC XR key leaf tp rn th rm tg (j3 : Int) (1 + (j0 : Int)) 4 (1 + (j2 : Int) + 1) 2 ((i : Int) - 1) vx _ (by first | omega | (simp; omega)) LX.out (OneBig.small (List.forall_mem_cons.2 ⟨(by omega : leaf.size = 32), HXR.out⟩)) (OneBig.small (List.forall_mem_cons.2 ⟨(by omega : rm.size = 32), HXR.out⟩)) hk (by omega) (KT.out.below BW.out h0) (Nat.lt_of_lt_of_le h0 BW.out.size)).mono ?_
      rintro e w20 ⟨rfl, k20⟩
      clear lt_p pc0 pc1 pc2 lt_h hc0 hc1 hc2 hc3 lt_g gc0 gf0 gc1 gc2 gc3
      have f0 := F0.out.below k20 F0.out.lt
      have f1 := F1.out.below k20 F1.out.lt
      have f2 := F2.out.below k20 F2.out.lt
      have BZ : Hid (Below w.heap.size w w20) := BW.out.trans (k20.mono BW.out.size)
      have LZ := hidden (LY.out.below k20)
      have lt_p := f0.lt
      have pc0 : w20.cell? ⟨B0, 0, none⟩ = some (.string leaf) := f0.cell 0
      have pc1 : w20.cell? ⟨B0, 1, none⟩ = some (.int .i64 (j3 : Int)) := f0.cell 1
      have pc2 : w20.cell? ⟨B0, 2, none⟩ = some (.string tp) := f0.cell 2
      have lt_h := f1.lt
      have hc0 : w20.cell? ⟨B1, 0, none⟩ = some (.int .i64 (1 + (j0 : Int))) := f1.cell 0
      have hc1 : w20.cell? ⟨B1, 1, none⟩ = some (.int .i64 4) := f1.cell 1
      have hc2 : w20.cell? ⟨B1, 2, none⟩ = some (.string rn) := f1.cell 2
      have hc3 : w20.cell? ⟨B1, 3, none⟩ = some (.string th) := f1.cell 3
      have lt_g := f2.lt
      have gc0 : w20.cell? ⟨B2, 0, none⟩ = some (.int .i64 (1 + (j2 : Int) + 1)) := f2.cell 0
      have gc1 : w20.cell? ⟨B2, 1, none⟩ = some (.int .i64 2) := f2.cell 1
      have gc2 : w20.cell? ⟨B2, 2, none⟩ = some (.string rm) := f2.cell 2
      have gc3 : w20.cell? ⟨B2, 3, none⟩ = some (.string tg) := f2.cell 3
      clear f0 f1 f2 F0 F1 F2 LX LY BW k20
      go_wp2_with fail
      refine (auditsC YR key leaf tp rn th rm tg (j3 : Int) (1 + (j0 : Int)) 4 (1 + (j2 : Int) + 1) 2 ((i : Int) - 1) vy w20 (by first | omega | (simp; omega)) LZ.out (OneBig.small (List.forall_mem_cons.2 ⟨(by omega : leaf.size = 32), HYR.out⟩)) (OneBig.small (List.forall_mem_cons.2 ⟨(by omega : rm.size = 32), HYR.out⟩)) hk (by omega) (KT.out.below BZ.out h0) (Nat.lt_of_lt_of_le h0 BZ.out.size)).mono ?_
      rintro e w21 ⟨rfl, k21⟩
      have B21 : Hid (Below w.heap.size w w21) := BZ.out.trans (k21.mono BZ.out.size)
      clear k21 LZ BZ
      clear lt_p pc0 pc1 pc2 lt_h hc0 hc1 hc2 hc3 lt_g gc0 gc1 gc2 gc3
      go_wp2
      go_ret
      exact ⟨rfl, B21.out⟩
    · have lt_p := Y0.out.lt
      have pc0 : w14.cell? ⟨B0, 0, none⟩ = some (.string leaf) := Y0.out.cell 0
      have pc1 : w14.cell? ⟨B0, 1, none⟩ = some (.int .i64 (j3 : Int)) := Y0.out.cell 1
      have pc2 : w14.cell? ⟨B0, 2, none⟩ = some (.string tp) := Y0.out.cell 2
      have lt_h := Y1.out.lt
      have hc0 : w14.cell? ⟨B1, 0, none⟩ = some (.int .i64 (1 + (j0 : Int))) := Y1.out.cell 0
      have hc1 : w14.cell? ⟨B1, 1, none⟩ = some (.int .i64 4) := Y1.out.cell 1
      have hc2 : w14.cell? ⟨B1, 2, none⟩ = some (.string rn) := Y1.out.cell 2
      have hc3 : w14.cell? ⟨B1, 3, none⟩ = some (.string th) := Y1.out.cell 3
      have lt_g := Y2.out.lt
      have gc0 : w14.cell? ⟨B2, 0, none⟩ = some (.int .i64 (1 + (j2 : Int))) := Y2.out.cell 0
      have gc1 : w14.cell? ⟨B2, 1, none⟩ = some (.int .i64 2) := Y2.out.cell 1
      have gc2 : w14.cell? ⟨B2, 2, none⟩ = some (.string rm) := Y2.out.cell 2
      have gf2 : w14.frozen? ⟨B2, 2, none⟩ = false := Y2.out.free 2
      have gc3 : w14.cell? ⟨B2, 3, none⟩ = some (.string tg) := Y2.out.cell 3
      have F0 := hidden (show Row (w14.setCell ⟨B2, 2, none⟩ (.string other)) B0 30 #[.string leaf, .int .i64 (j3 : Int), .string tp] from Y0.out.other (a := ⟨B2, 2, none⟩) ne02 _)
      have F1 := hidden (show Row (w14.setCell ⟨B2, 2, none⟩ (.string other)) B1 32 #[.int .i64 (1 + (j0 : Int)), .int .i64 4, .string rn, .string th] from Y1.out.other (a := ⟨B2, 2, none⟩) ne12 _)
      have F2 := hidden (show Row (w14.setCell ⟨B2, 2, none⟩ (.string other)) B2 32 #[.int .i64 (1 + (j2 : Int)), .int .i64 2, .string other, .string tg] from Y2.out.setCell 2 (.string other))
      have BW := hidden (show Below w.heap.size w (w14.setCell ⟨B2, 2, none⟩ (.string other)) from B13.out.setCell (p := ⟨B2, 2, none⟩) (show w.heap.size ≤ B2 by omega) _)
      have LX := hidden (show Lst (w14.setCell ⟨B2, 2, none⟩ (.string other)) vx XR from (XO13.out.set (show B2 < V.heap.size by omega) 2 (.string other)).lst)
      have LY := hidden (show Lst (w14.setCell ⟨B2, 2, none⟩ (.string other)) vy YR from (YO13.out.set (show B2 < w10.heap.size by omega) 2 (.string other)).lst)
      clear Y0 Y1 Y2 B13 XO13 YO13 K13
      go_wp2_with fail
      refine (auditsC XR key leaf tp rn th other tg (j3 : Int) (1 + (j0 : Int)) 4 (1 + (j2 : Int)) 2 (i : Int) vx _ (by first | omega | (simp; omega)) LX.out (OneBig.small (List.forall_mem_cons.2 ⟨(by omega : leaf.size = 32), HXR.out⟩)) (OneBig.big HXR.out other ho) hk (by omega) (KT.out.below BW.out h0) (Nat.lt_of_lt_of_le h0 BW.out.size)).mono ?_
      rintro e w20 ⟨rfl, k20⟩
      clear lt_p pc0 pc1 pc2 lt_h hc0 hc1 hc2 hc3 lt_g gc0 gc1 gc2 gf2 gc3
      have f0 := F0.out.below k20 F0.out.lt
      have f1 := F1.out.below k20 F1.out.lt
      have f2 := F2.out.below k20 F2.out.lt
      have BZ : Hid (Below w.heap.size w w20) := BW.out.trans (k20.mono BW.out.size)
      have LZ := hidden (LY.out.below k20)
      have lt_p := f0.lt
      have pc0 : w20.cell? ⟨B0, 0, none⟩ = some (.string leaf) := f0.cell 0
      have pc1 : w20.cell? ⟨B0, 1, none⟩ = some (.int .i64 (j3 : Int)) := f0.cell 1
      have pc2 : w20.cell? ⟨B0, 2, none⟩ = some (.string tp) := f0.cell 2
      have lt_h := f1.lt
      have hc0 : w20.cell? ⟨B1, 0, none⟩ = some (.int .i64 (1 + (j0 : Int))) := f1.cell 0
      have hc1 : w20.cell? ⟨B1, 1, none⟩ = some (.int .i64 4) := f1.cell 1
      have hc2 : w20.cell? ⟨B1, 2, none⟩ = some (.string rn) := f1.cell 2
      have hc3 : w20.cell? ⟨B1, 3, none⟩ = some (.string th) := f1.cell 3
      have lt_g := f2.lt
      have gc0 : w20.cell? ⟨B2, 0, none⟩ = some (.int .i64 (1 + (j2 : Int))) := f2.cell 0
      have gc1 : w20.cell? ⟨B2, 1, none⟩ = some (.int .i64 2) := f2.cell 1
      have gc2 : w20.cell? ⟨B2, 2, none⟩ = some (.string other) := f2.cell 2
      have gc3 : w20.cell? ⟨B2, 3, none⟩ = some (.string tg) := f2.cell 3
      clear f0 f1 f2 F0 F1 F2 LX LY BW k20
      go_wp2_with fail
      refine (auditsC YR key leaf tp rn th other tg (j3 : Int) (1 + (j0 : Int)) 4 (1 + (j2 : Int)) 2 (i : Int) vy w20 (by first | omega | (simp; omega)) LZ.out (OneBig.small (List.forall_mem_cons.2 ⟨(by omega : leaf.size = 32), HYR.out⟩)) (OneBig.big HYR.out other ho) hk (by omega) (KT.out.below BZ.out h0) (Nat.lt_of_lt_of_le h0 BZ.out.size)).mono ?_
      rintro e w21 ⟨rfl, k21⟩
      have B21 : Hid (Below w.heap.size w w21) := BZ.out.trans (k21.mono BZ.out.size)
      clear k21 LZ BZ
      clear lt_p pc0 pc1 pc2 lt_h hc0 hc1 hc2 hc3 lt_g gc0 gc1 gc2 gc3
      go_wp2
      go_ret
      exact ⟨rfl, B21.out⟩
    · have lt_p := Y0.out.lt
      have pc0 : w14.cell? ⟨B0, 0, none⟩ = some (.string leaf) := Y0.out.cell 0
      have pc1 : w14.cell? ⟨B0, 1, none⟩ = some (.int .i64 (j3 : Int)) := Y0.out.cell 1
      have pc2 : w14.cell? ⟨B0, 2, none⟩ = some (.string tp) := Y0.out.cell 2
      have lt_h := Y1.out.lt
      have hc0 : w14.cell? ⟨B1, 0, none⟩ = some (.int .i64 (1 + (j0 : Int))) := Y1.out.cell 0
      have hc1 : w14.cell? ⟨B1, 1, none⟩ = some (.int .i64 4) := Y1.out.cell 1
      have hc2 : w14.cell? ⟨B1, 2, none⟩ = some (.string rn) := Y1.out.cell 2
      have hf2 : w14.frozen? ⟨B1, 2, none⟩ = false := Y1.out.free 2
      have hc3 : w14.cell? ⟨B1, 3, none⟩ = some (.string th) := Y1.out.cell 3
      have lt_g := Y2.out.lt
      have gc0 : w14.cell? ⟨B2, 0, none⟩ = some (.int .i64 (1 + (j2 : Int))) := Y2.out.cell 0
      have gc1 : w14.cell? ⟨B2, 1, none⟩ = some (.int .i64 2) := Y2.out.cell 1
      have gc2 : w14.cell? ⟨B2, 2, none⟩ = some (.string rm) := Y2.out.cell 2
      have gc3 : w14.cell? ⟨B2, 3, none⟩ = some (.string tg) := Y2.out.cell 3
      have F0 := hidden (show Row (w14.setCell ⟨B1, 2, none⟩ (.string other)) B0 30 #[.string leaf, .int .i64 (j3 : Int), .string tp] from Y0.out.other (a := ⟨B1, 2, none⟩) ne01 _)
      have F1 := hidden (show Row (w14.setCell ⟨B1, 2, none⟩ (.string other)) B1 32 #[.int .i64 (1 + (j0 : Int)), .int .i64 4, .string other, .string th] from Y1.out.setCell 2 (.string other))
      have F2 := hidden (show Row (w14.setCell ⟨B1, 2, none⟩ (.string other)) B2 32 #[.int .i64 (1 + (j2 : Int)), .int .i64 2, .string rm, .string tg] from Y2.out.other (a := ⟨B1, 2, none⟩) ne21 _)
      have BW := hidden (show Below w.heap.size w (w14.setCell ⟨B1, 2, none⟩ (.string other)) from B13.out.setCell (p := ⟨B1, 2, none⟩) (show w.heap.size ≤ B1 by omega) _)
      have LX := hidden (show Lst (w14.setCell ⟨B1, 2, none⟩ (.string other)) vx XR from (XO13.out.set (show B1 < V.heap.size by omega) 2 (.string other)).lst)
      have LY := hidden (show Lst (w14.setCell ⟨B1, 2, none⟩ (.string other)) vy YR from (YO13.out.set (show B1 < w10.heap.size by omega) 2 (.string other)).lst)
      clear Y0 Y1 Y2 B13 XO13 YO13 K13
      go_wp2_with fail
      refine (auditsC XR key leaf tp other th rm tg (j3 : Int) (1 + (j0 : Int)) 4 (1 + (j2 : Int)) 2 (i : Int) vx _ (by first | omega | (simp; omega)) LX.out (OneBig.small (List.forall_mem_cons.2 ⟨(by omega : leaf.size = 32), HXR.out⟩)) (OneBig.small (List.forall_mem_cons.2 ⟨(by omega : rm.size = 32), HXR.out⟩)) hk (by omega) (KT.out.below BW.out h0) (Nat.lt_of_lt_of_le h0 BW.out.size)).mono ?_
      rintro e w20 ⟨rfl, k20⟩
      clear lt_p pc0 pc1 pc2 lt_h hc0 hc1 hc2 hf2 hc3 lt_g gc0 gc1 gc2 gc3
      have f0 := F0.out.below k20 F0.out.lt
      have f1 := F1.out.below k20 F1.out.lt
      have f2 := F2.out.below k20 F2.out.lt
      have BZ : Hid (Below w.heap.size w w20) := BW.out.trans (k20.mono BW.out.size)
      have LZ := hidden (LY.out.below k20)
      have lt_p := f0.lt
      have pc0 : w20.cell? ⟨B0, 0, none⟩ = some (.string leaf) := f0.cell 0
      have pc1 : w20.cell? ⟨B0, 1, none⟩ = some (.int .i64 (j3 : Int)) := f0.cell 1
      have pc2 : w20.cell? ⟨B0, 2, none⟩ = some (.string tp) := f0.cell 2
      have lt_h := f1.lt
      have hc0 : w20.cell? ⟨B1, 0, none⟩ = some (.int .i64 (1 + (j0 : Int))) := f1.cell 0
      have hc1 : w20.cell? ⟨B1, 1, none⟩ = some (.int .i64 4) := f1.cell 1
      have hc2 : w20.cell? ⟨B1, 2, none⟩ = some (.string other) := f1.cell 2
      have hc3 : w20.cell? ⟨B1, 3, none⟩ = some (.string th) := f1.cell 3
      have lt_g := f2.lt
      have gc0 : w20.cell? ⟨B2, 0, none⟩ = some (.int .i64 (1 + (j2 : Int))) := f2.cell 0
      have gc1 : w20.cell? ⟨B2, 1, none⟩ = some (.int .i64 2) := f2.cell 1
      have gc2 : w20.cell? ⟨B2, 2, none⟩ = some (.string rm) := f2.cell 2
      have gc3 : w20.cell? ⟨B2, 3, none⟩ = some (.string tg) := f2.cell 3
      clear f0 f1 f2 F0 F1 F2 LX LY BW k20
      go_wp2_with fail
      refine (auditsC YR key leaf tp other th rm tg (j3 : Int) (1 + (j0 : Int)) 4 (1 + (j2 : Int)) 2 (i : Int) vy w20 (by first | omega | (simp; omega)) LZ.out (OneBig.small (List.forall_mem_cons.2 ⟨(by omega : leaf.size = 32), HYR.out⟩)) (OneBig.small (List.forall_mem_cons.2 ⟨(by omega : rm.size = 32), HYR.out⟩)) hk (by omega) (KT.out.below BZ.out h0) (Nat.lt_of_lt_of_le h0 BZ.out.size)).mono ?_
      rintro e w21 ⟨rfl, k21⟩
      have B21 : Hid (Below w.heap.size w w21) := BZ.out.trans (k21.mono BZ.out.size)
      clear k21 LZ BZ
      clear lt_p pc0 pc1 pc2 lt_h hc0 hc1 hc2 hc3 lt_g gc0 gc1 gc2 gc3
      go_wp2
      go_ret
      exact ⟨rfl, B21.out⟩
end Go.Proofs.YtoanekgphcijfaaDoor
