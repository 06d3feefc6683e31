import Derived.Test.YtoanekgphcijfaaDoorW2
namespace Go.Proofs.YtoanekgphcijfaaDoor
open Go.RowKit
open Sha

theorem und83 : Tryd.prog.underlying 163 = some (.array 64 137) := by kernel_rfl
theorem und67 : Tryd.prog.underlying 138 = some (.array 8 137) := by kernel_rfl
theorem index_83 (cs : Array Value) (v : Value) (k : Nat) (h : k < 64) (h1 : cs[k]? = some v) (wx : World) : (Instr.index 163 (.agg cs) (.int .i64 (k : Int))).run Tryd.prog wx = .ok v wx := by
  simp [Instr.index, run_underlying und83, asIntOf, go_sem, h]
  rw [h1]; rfl
theorem index_67 (cs : Array Value) (v : Value) (k : Nat) (h : k < 8) (h1 : cs[k]? = some v) (wx : World) : (Instr.index 138 (.agg cs) (.int .i64 (k : Int))).run Tryd.prog wx = .ok v wx := by
  simp [Instr.index, run_underlying und67, asIntOf, go_sem, h]
  rw [h1]; rfl
theorem info83 (cs : Array Value) (h : cs.size = 64) : (Tryd.prog.info? 163).map (·.size) = some cs.size := by rw [h]; kernel_rfl

theorem index_st (t : S8) (k : Nat) (hlt : k < 8) (wx : World) : (Instr.index 138 (.agg #[Value.int .u32 (t.a : Int), Value.int .u32 (t.b : Int), Value.int .u32 (t.c : Int), Value.int .u32 (t.d : Int), Value.int .u32 (t.e : Int), Value.int .u32 (t.f : Int), Value.int .u32 (t.g : Int), Value.int .u32 (t.h : Int)]) (.int .i64 (k : Int))).run Tryd.prog wx = .ok (.int .u32 (t.nth k : Int)) wx := by
  refine index_67 _ _ k hlt ?_ wx
  match k, hlt with
  | 0, _ | 1, _ | 2, _ | 3, _ | 4, _ | 5, _ | 6, _ | 7, _ => rfl
theorem add_nth (s t : S8) (k : Nat) : some (Value.int .u32 (((s.nth k : Int) + (t.nth k : Int)) % 4294967296)) = some (.int .u32 (((add8 s t).nth k : Nat) : Int)) := by
  rw [add8_nth]; congr 2
set_option maxHeartbeats 1000000 in
set_option maxRecDepth 100000 in
theorem mix_any (b : Nat) (T : TypeId) (cs : Array Value) (s : S8) (bl : Nat → Nat) (w : World) (hs : s.ok) (hbl : ∀ j, bl j < 256) (hr : Row w b T cs)
    (hcs : cs.size = 74) (hst : ∀ j, j < 8 → cs[j]? = some (.int .u32 (s.nth j : Int))) (hb : ∀ j, j < 64 → cs[8 + j]? = some (.int .u8 (bl j : Int)))
    (hK : ∀ j, j < 64 → w.cell? ⟨0, j, none⟩ = some (.int .u32 (K j : Int))) (h0 : 0 < b) :
    Calls Tryd.prog 110 #[.pointer (some ⟨b, 0, none⟩)] w fun r w' => r = .returned (.tuple #[]) ∧ But b w w' ∧
      ∃ cs', Row w' b T cs' ∧ cs'.size = 74 ∧ (∀ j, j < 8 → cs'[j]? = some (.int .u32 ((compress s bl).nth j : Int))) ∧ ∀ j, 8 ≤ j → cs'[j]? = cs[j]? := by
  go_enter Tryd.func110, Tryd.ntmps110
  go_wp2_with fail
  refine (sched_any b bl w hbl (fun j hj => by rw [hr.cell]; exact hb j hj) hr.lt).mono ?_
  rintro e w1 ⟨rfl, hbe⟩
  have hr1 : Row w1 b T cs := hr.below hbe hr.lt
  have hK1 : ∀ j, j < 64 → w1.cell? ⟨0, j, none⟩ = some (.int .u32 (K j : Int)) := fun j hj => by rw [hbe.cell (p := ⟨0, j, none⟩) (by have := hr.lt; show 0 < _; omega)]; exact hK j hj
  have hi := info83 _ (schedCells_size bl)
  have h1 := schedCells_one bl
  have hz : (Array.replicate 64 (Value.int .u32 0)).size = (schedCells bl).size := by rw [schedCells_size]; simp
  go_wp2_with (first | (refine wpList_store_row rfl 163 _ _ rfl w1.heap.size _ rfl rfl 163 (Array.replicate 64 (Value.int .u32 0)) (Row.new _ _ _) hi hz h1 ?_) | fail)
  generalize hW2 : World.setRow _ _ _ = w2
  have hrs : Row w2 w1.heap.size 163 (schedCells bl) := by rw [← hW2]; exact (Row.new _ _ _).setRow _
  have hr2 : Row w2 b T cs := by rw [← hW2]; exact (hr1.alloc _).setRow_other (by have := hr1.lt; omega) _
  have hbe2 : Below w.heap.size w w2 := by rw [← hW2]; exact bel_setRow (hbe.alloc hbe.size _) hbe.size _
  have hK2 : ∀ j, j < 64 → w2.cell? ⟨0, j, none⟩ = some (.int .u32 (K j : Int)) := fun j hj => by rw [hbe2.cell (p := ⟨0, j, none⟩) (by have := hr.lt; show 0 < _; omega)]; exact hK j hj
  clear hW2 hbe hr1 hK1 hK hi h1 hz
  have s0 : w2.cell? ⟨b, 0, none⟩ = some (.int .u32 (s.a : Int)) := by rw [hr2.cell]; exact hst 0 (by omega)
  have s1 : w2.cell? ⟨b, 1, none⟩ = some (.int .u32 (s.b : Int)) := by rw [hr2.cell]; exact hst 1 (by omega)
  have s2 : w2.cell? ⟨b, 2, none⟩ = some (.int .u32 (s.c : Int)) := by rw [hr2.cell]; exact hst 2 (by omega)
  have s3 : w2.cell? ⟨b, 3, none⟩ = some (.int .u32 (s.d : Int)) := by rw [hr2.cell]; exact hst 3 (by omega)
  have s4 : w2.cell? ⟨b, 4, none⟩ = some (.int .u32 (s.e : Int)) := by rw [hr2.cell]; exact hst 4 (by omega)
  have s5 : w2.cell? ⟨b, 5, none⟩ = some (.int .u32 (s.f : Int)) := by rw [hr2.cell]; exact hst 5 (by omega)
  have s6 : w2.cell? ⟨b, 6, none⟩ = some (.int .u32 (s.g : Int)) := by rw [hr2.cell]; exact hst 6 (by omega)
  have s7 : w2.cell? ⟨b, 7, none⟩ = some (.int .u32 (s.h : Int)) := by rw [hr2.cell]; exact hst 7 (by omega)
  go_quiet (fail)
  clear s0 s1 s2 s3 s4 s5 s6 s7
  replace hrs := hrs.drewN nq
  replace hr2 := hr2.drewN nq
  replace hbe2 := hbe2.trans (bel_drewN _ w2 nq)
  replace hK2 : ∀ j, j < 64 → (w2.drewN nq).cell? ⟨0, j, none⟩ = some (.int .u32 (K j : Int)) := hK2
  generalize w2.drewN nq = w3 at *
  have hi := info83 _ (schedCells_size bl)
  go_wp2_with (first | (refine wpList_load_row rfl 163 _ rfl (w1.heap.size) rfl 163 (schedCells bl) (0, 0) _ hrs Tryd.underlying163 rfl hi ?_) | fail)
  go_loopw [4, 5, 6, 7, 8, 9, 10, 11, 56] (fun va vb vc vd ve vf vg vh vi wr => ∃ k n : Nat, k ≤ 64 ∧ vi = .int .i64 k ∧ wr = w3.drewN n ∧ va = .int .u32 ((rnds (W bl) s k).a : Int) ∧ vb = .int .u32 ((rnds (W bl) s k).b : Int) ∧ vc = .int .u32 ((rnds (W bl) s k).c : Int) ∧ vd = .int .u32 ((rnds (W bl) s k).d : Int)
      ∧ ve = .int .u32 ((rnds (W bl) s k).e : Int) ∧ vf = .int .u32 ((rnds (W bl) s k).f : Int) ∧ vg = .int .u32 ((rnds (W bl) s k).g : Int) ∧ vh = .int .u32 ((rnds (W bl) s k).h : Int))
    (fun _ _ _ _ _ _ _ _ vi _ => 64 - (intOf vi).toNat)
  case atStart => exact ⟨0, 0, by omega, rfl, rfl, rfl, rfl, rfl, rfl, rfl, rfl, rfl, rfl⟩
  case round =>
    obtain ⟨k, n, hk, rfl, rfl, rfl, rfl, rfl, rfl, rfl, rfl, rfl, rfl⟩ := hrel
    by_cases hlt : k < 64
    · have hcell : (w3.drewN n).cell? ⟨0, k, none⟩ = some (.int .u32 (K k : Int)) := hK2 k hlt
      have hix : ∀ wx, (Instr.index 163 (.agg (schedCells bl)) (.int .i64 (k : Int))).run Tryd.prog wx = .ok (.int .u32 (W bl k : Int)) wx := index_83 _ _ k hlt (schedCells_at bl k hlt)
      have hok := rnds_ok (W bl) hs k
      have hwk := W_lt bl hbl k
      have hkk := K_lt k
      generalize ht : rnds (W bl) s k = t at *
      have HT : Hid (rnds (W bl) s (k + 1) = rnd t (K k) (W bl k)) := by rw [← ht]; rfl
      generalize W bl k = wk at *
      generalize K k = kk at *
      clear ht
      obtain ⟨o0, o1, o2, o3, o4, o5, o6, o7⟩ := hok
      clear hK2 hst hb hr hcs hrs hr2 hbe2 hbl hi
      generalize hw4 : w3.drewN n = w4 at *
      have HW4 : Hid (w3.drewN n = w4) := hw4
      clear hw4
      go_wp2
      go_quiet ((go_at_call 121; exact Calls.quiet_of_same (turn_any t.e 6 11 25 _ _ _ (by decide) (by decide) (by decide) _ o4 (by omega) (by omega) (by omega) (by omega) (by omega) (by omega))))
      go_wp2_with (first | (go_at_call 121; refine (turn_any t.a 2 13 22 _ _ _ (by decide) (by decide) (by decide) _ o0 (by omega) (by omega) (by omega) (by omega) (by omega) (by omega)).mono ?_; rintro e w' ⟨rfl, rfl⟩) | fail)
      rw [ch_u32 _ _ _ o4 o5 o6, maj_u32 _ _ _ o0 o1 o2, big1_eq, big0_eq, rnd_a, rnd_e]
      exact ⟨⟨k + 1, n + nq, by omega, by go_num, by rw [← HW4.out, World.drewN_drewN], by rw [HT.out], by rw [HT.out]; rfl, by rw [HT.out]; rfl, by rw [HT.out]; rfl, by rw [HT.out], by rw [HT.out]; rfl, by rw [HT.out]; rfl, by rw [HT.out]; rfl⟩, by simp [intOf]; omega⟩
    · obtain rfl : k = 64 := by omega
      have hok := rnds_ok (W bl) hs 64
      have hbe3 : Below w.heap.size w (w3.drewN n) := hbe2.trans (bel_drewN _ _ _)
      have hr3 : Row (w3.drewN n) b T cs := hr2.drewN n
      generalize hT : rnds (W bl) s 64 = t at *
      have HT : Hid (rnds (W bl) s 64 = t) := hT
      clear hT hbe2 hr2 hrs hK2 hi
      generalize w3.drewN n = w4 at *
      go_wp2
      go_loopw [115] (fun vi wr => ∃ k : Nat, k ≤ 8 ∧ vi = .int .i64 k ∧ But b w4 wr ∧ ∃ cs', Row wr b T cs' ∧ cs'.size = 74 ∧ (∀ j, j < k → cs'[j]? = some (.int .u32 (((add8 s t).nth j : Nat) : Int))) ∧ ∀ j, k ≤ j → cs'[j]? = cs[j]?)
        (fun vi _ => 8 - (intOf vi).toNat)
      case atStart => exact ⟨0, by omega, rfl, But.refl _ _, cs, hr3, hcs, by omega, fun _ _ => rfl⟩
      case round =>
        clear hr3
        obtain ⟨k, hk, rfl, hbut, cs', hr4, hcs', hdone, hrest⟩ := hrel
        by_cases hlt : k < 8
        · have hix := index_st t k hlt
          have hcell : wr.cell? ⟨b, k, none⟩ = some (.int .u32 (s.nth k : Int)) := by rw [hr4.cell, hrest k (Nat.le_refl _)]; exact hst k hlt
          have hfr := hr4.free k
          have HD := hdone
          have HR := hrest
          clear hst hdone hrest hbl hb hr
          go_wp2
          go_region
          go_wp2
          refine ⟨⟨k + 1, by omega, by go_num, (hbut.setCell k _).drew, _, (hr4.setCell k _).drew, by simpa using hcs', ?_, ?_⟩, by simp [intOf]; omega⟩
          · intro j hj
            by_cases hjk : j = k
            · subst hjk
              rw [Array.getElem?_setIfInBounds_self_of_lt (by omega)]
              exact add_nth s t j
            · rw [Array.getElem?_setIfInBounds_ne (by omega)]; exact HD j (by omega)
          · intro j hj
            rw [Array.getElem?_setIfInBounds_ne (by omega)]; exact HR j (by omega)
        · obtain rfl : k = 8 := by omega
          go_wp2
          go_end0
          exact ⟨rfl, (But.of_below hbe3).trans hbut, cs', hr4, hcs', by rw [compress, HT.out]; exact hdone, hrest⟩
end Go.Proofs.YtoanekgphcijfaaDoor
