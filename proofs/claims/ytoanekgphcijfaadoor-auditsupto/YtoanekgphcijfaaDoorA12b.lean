import Derived.Test.YtoanekgphcijfaaDoorA11
import Derived.Deep.RegionWith
namespace Go.Proofs.YtoanekgphcijfaaDoor
open Go.RowKit
open Sha

set_option maxHeartbeats 4000000 in
theorem signed_ftt (key leaf pt hr ht gr gt Y Z : ByteArray) (d hs hk gs gk how : Int) (w : World)
    (HH : Hid (∀ wx, Calls Tryd.prog 42 #[.string key, .agg #[.int .i64 hs, .int .i64 hk, .string hr, .string ht]] wx fun r w' => r = .returned (.string Y) ∧ Below wx.heap.size wx w'))
    (HG : Hid (∀ wx, Calls Tryd.prog 42 #[.string key, .agg #[.int .i64 gs, .int .i64 gk, .string gr, .string gt]] wx fun r w' => r = .returned (.string Z) ∧ Below wx.heap.size wx w'))
    (c0 : (how.tmod 2 == 0) = false) (c1 : ((wrap64 (how.tdiv 2)).tmod 2 == 0) = true) (c2 : ((wrap64 (how.tdiv 4)).tmod 2 == 0) = true) :
    Calls Tryd.prog 17 #[.string key, .agg #[.string leaf, .int .i64 d, .string pt], .agg #[.int .i64 hs, .int .i64 hk, .string hr, .string ht], .agg #[.int .i64 gs, .int .i64 gk, .string gr, .string gt], .int .i64 how] w fun r w' => r = .returned (.tuple #[.agg #[.string leaf, .int .i64 d, .string pt], .agg #[.int .i64 hs, .int .i64 hk, .string hr, .string Y], .agg #[.int .i64 gs, .int .i64 gk, .string gr, .string Z]]) ∧ Below w.heap.size w w' := by
  have r0 : Row ((((((w.alloc (.cells #[.string leaf, .int .i64 d, .string pt] 30)).alloc (.cells #[.int .i64 hs, .int .i64 hk, .string hr, .string ht] 32)).alloc (.cells #[.int .i64 gs, .int .i64 gk, .string gr, .string gt] 32)).alloc (.cells #[.string ⟨#[]⟩, .int .i64 0, .string ⟨#[]⟩] 30)).alloc (.cells #[.int .i64 0, .int .i64 0, .string ⟨#[]⟩, .string ⟨#[]⟩] 32)).alloc (.cells #[.int .i64 0, .int .i64 0, .string ⟨#[]⟩, .string ⟨#[]⟩] 32)) (w.heap.size) 30 #[.string leaf, .int .i64 d, .string pt] := ((((((Row.newAt _ _ _ _ (by simp)).alloc _).alloc _).alloc _).alloc _).alloc _)
  have r1 : Row ((((((w.alloc (.cells #[.string leaf, .int .i64 d, .string pt] 30)).alloc (.cells #[.int .i64 hs, .int .i64 hk, .string hr, .string ht] 32)).alloc (.cells #[.int .i64 gs, .int .i64 gk, .string gr, .string gt] 32)).alloc (.cells #[.string ⟨#[]⟩, .int .i64 0, .string ⟨#[]⟩] 30)).alloc (.cells #[.int .i64 0, .int .i64 0, .string ⟨#[]⟩, .string ⟨#[]⟩] 32)).alloc (.cells #[.int .i64 0, .int .i64 0, .string ⟨#[]⟩, .string ⟨#[]⟩] 32)) (w.heap.size + 1) 32 #[.int .i64 hs, .int .i64 hk, .string hr, .string ht] := (((((Row.newAt _ _ _ _ (by simp)).alloc _).alloc _).alloc _).alloc _)
  have r2 : Row ((((((w.alloc (.cells #[.string leaf, .int .i64 d, .string pt] 30)).alloc (.cells #[.int .i64 hs, .int .i64 hk, .string hr, .string ht] 32)).alloc (.cells #[.int .i64 gs, .int .i64 gk, .string gr, .string gt] 32)).alloc (.cells #[.string ⟨#[]⟩, .int .i64 0, .string ⟨#[]⟩] 30)).alloc (.cells #[.int .i64 0, .int .i64 0, .string ⟨#[]⟩, .string ⟨#[]⟩] 32)).alloc (.cells #[.int .i64 0, .int .i64 0, .string ⟨#[]⟩, .string ⟨#[]⟩] 32)) (w.heap.size + 1 + 1) 32 #[.int .i64 gs, .int .i64 gk, .string gr, .string gt] := ((((Row.newAt _ _ _ _ (by simp)).alloc _).alloc _).alloc _)
  have r3 : Row ((((((w.alloc (.cells #[.string leaf, .int .i64 d, .string pt] 30)).alloc (.cells #[.int .i64 hs, .int .i64 hk, .string hr, .string ht] 32)).alloc (.cells #[.int .i64 gs, .int .i64 gk, .string gr, .string gt] 32)).alloc (.cells #[.string ⟨#[]⟩, .int .i64 0, .string ⟨#[]⟩] 30)).alloc (.cells #[.int .i64 0, .int .i64 0, .string ⟨#[]⟩, .string ⟨#[]⟩] 32)).alloc (.cells #[.int .i64 0, .int .i64 0, .string ⟨#[]⟩, .string ⟨#[]⟩] 32)) (w.heap.size + 1 + 1 + 1) 30 #[.string ⟨#[]⟩, .int .i64 0, .string ⟨#[]⟩] := (((Row.newAt _ _ _ _ (by simp)).alloc _).alloc _)
  have r4 : Row ((((((w.alloc (.cells #[.string leaf, .int .i64 d, .string pt] 30)).alloc (.cells #[.int .i64 hs, .int .i64 hk, .string hr, .string ht] 32)).alloc (.cells #[.int .i64 gs, .int .i64 gk, .string gr, .string gt] 32)).alloc (.cells #[.string ⟨#[]⟩, .int .i64 0, .string ⟨#[]⟩] 30)).alloc (.cells #[.int .i64 0, .int .i64 0, .string ⟨#[]⟩, .string ⟨#[]⟩] 32)).alloc (.cells #[.int .i64 0, .int .i64 0, .string ⟨#[]⟩, .string ⟨#[]⟩] 32)) (w.heap.size + 1 + 1 + 1 + 1) 32 #[.int .i64 0, .int .i64 0, .string ⟨#[]⟩, .string ⟨#[]⟩] := ((Row.newAt _ _ _ _ (by simp)).alloc _)
  have r5 : Row ((((((w.alloc (.cells #[.string leaf, .int .i64 d, .string pt] 30)).alloc (.cells #[.int .i64 hs, .int .i64 hk, .string hr, .string ht] 32)).alloc (.cells #[.int .i64 gs, .int .i64 gk, .string gr, .string gt] 32)).alloc (.cells #[.string ⟨#[]⟩, .int .i64 0, .string ⟨#[]⟩] 30)).alloc (.cells #[.int .i64 0, .int .i64 0, .string ⟨#[]⟩, .string ⟨#[]⟩] 32)).alloc (.cells #[.int .i64 0, .int .i64 0, .string ⟨#[]⟩, .string ⟨#[]⟩] 32)) (w.heap.size + 1 + 1 + 1 + 1 + 1) 32 #[.int .i64 0, .int .i64 0, .string ⟨#[]⟩, .string ⟨#[]⟩] := (Row.newAt _ _ _ _ (by simp))
  have hb : Below w.heap.size w ((((((w.alloc (.cells #[.string leaf, .int .i64 d, .string pt] 30)).alloc (.cells #[.int .i64 hs, .int .i64 hk, .string hr, .string ht] 32)).alloc (.cells #[.int .i64 gs, .int .i64 gk, .string gr, .string gt] 32)).alloc (.cells #[.string ⟨#[]⟩, .int .i64 0, .string ⟨#[]⟩] 30)).alloc (.cells #[.int .i64 0, .int .i64 0, .string ⟨#[]⟩, .string ⟨#[]⟩] 32)).alloc (.cells #[.int .i64 0, .int .i64 0, .string ⟨#[]⟩, .string ⟨#[]⟩] 32)) := (((((((Below.refl _ _).alloc (by first | (simp; done) | (simp; omega)) _).alloc (by first | (simp; done) | (simp; omega)) _).alloc (by first | (simp; done) | (simp; omega)) _).alloc (by first | (simp; done) | (simp; omega)) _).alloc (by first | (simp; done) | (simp; omega)) _).alloc (by first | (simp; done) | (simp; omega)) _)
  go_enter Tryd.func17, Tryd.ntmps17
  go_wp2_with fail
  refine (HH.out _).mono ?_
  rintro e w2 ⟨rfl, k1⟩
  have s10 : Row w2 (w.heap.size) 30 #[.string leaf, .int .i64 d, .string pt] := r0.below k1 r0.lt
  have s11 : Row w2 (w.heap.size + 1) 32 #[.int .i64 hs, .int .i64 hk, .string hr, .string ht] := r1.below k1 r1.lt
  have s12 : Row w2 (w.heap.size + 1 + 1) 32 #[.int .i64 gs, .int .i64 gk, .string gr, .string gt] := r2.below k1 r2.lt
  have s13 : Row w2 (w.heap.size + 1 + 1 + 1) 30 #[.string ⟨#[]⟩, .int .i64 0, .string ⟨#[]⟩] := r3.below k1 r3.lt
  have s14 : Row w2 (w.heap.size + 1 + 1 + 1 + 1) 32 #[.int .i64 0, .int .i64 0, .string ⟨#[]⟩, .string ⟨#[]⟩] := r4.below k1 r4.lt
  have s15 : Row w2 (w.heap.size + 1 + 1 + 1 + 1 + 1) 32 #[.int .i64 0, .int .i64 0, .string ⟨#[]⟩, .string ⟨#[]⟩] := r5.below k1 r5.lt
  have b1 : Below w.heap.size w w2 := hb.trans (k1.mono hb.size)
  clear k1 r0 r1 r2 r3 r4 r5 hb
  have l10 := s10.lt
  have c100 : w2.cell? ⟨w.heap.size, 0, none⟩ = some (.string leaf) := s10.cell 0
  have c101 : w2.cell? ⟨w.heap.size, 1, none⟩ = some (.int .i64 d) := s10.cell 1
  have c102 : w2.cell? ⟨w.heap.size, 2, none⟩ = some (.string pt) := s10.cell 2
  have f102 : w2.frozen? ⟨w.heap.size, 2, none⟩ = false := s10.free 2
  have l11 := s11.lt
  have c110 : w2.cell? ⟨w.heap.size + 1, 0, none⟩ = some (.int .i64 hs) := s11.cell 0
  have c111 : w2.cell? ⟨w.heap.size + 1, 1, none⟩ = some (.int .i64 hk) := s11.cell 1
  have c112 : w2.cell? ⟨w.heap.size + 1, 2, none⟩ = some (.string hr) := s11.cell 2
  have c113 : w2.cell? ⟨w.heap.size + 1, 3, none⟩ = some (.string ht) := s11.cell 3
  have f113 : w2.frozen? ⟨w.heap.size + 1, 3, none⟩ = false := s11.free 3
  have l12 := s12.lt
  have c120 : w2.cell? ⟨w.heap.size + 1 + 1, 0, none⟩ = some (.int .i64 gs) := s12.cell 0
  have c121 : w2.cell? ⟨w.heap.size + 1 + 1, 1, none⟩ = some (.int .i64 gk) := s12.cell 1
  have c122 : w2.cell? ⟨w.heap.size + 1 + 1, 2, none⟩ = some (.string gr) := s12.cell 2
  have c123 : w2.cell? ⟨w.heap.size + 1 + 1, 3, none⟩ = some (.string gt) := s12.cell 3
  have f123 : w2.frozen? ⟨w.heap.size + 1 + 1, 3, none⟩ = false := s12.free 3
  have l13 := s13.lt
  have c130 : w2.cell? ⟨w.heap.size + 1 + 1 + 1, 0, none⟩ = some (.string ⟨#[]⟩) := s13.cell 0
  have f130 : w2.frozen? ⟨w.heap.size + 1 + 1 + 1, 0, none⟩ = false := s13.free 0
  have c131 : w2.cell? ⟨w.heap.size + 1 + 1 + 1, 1, none⟩ = some (.int .i64 0) := s13.cell 1
  have f131 : w2.frozen? ⟨w.heap.size + 1 + 1 + 1, 1, none⟩ = false := s13.free 1
  have c132 : w2.cell? ⟨w.heap.size + 1 + 1 + 1, 2, none⟩ = some (.string ⟨#[]⟩) := s13.cell 2
  have f132 : w2.frozen? ⟨w.heap.size + 1 + 1 + 1, 2, none⟩ = false := s13.free 2
  have l14 := s14.lt
  have c140 : w2.cell? ⟨w.heap.size + 1 + 1 + 1 + 1, 0, none⟩ = some (.int .i64 0) := s14.cell 0
  have f140 : w2.frozen? ⟨w.heap.size + 1 + 1 + 1 + 1, 0, none⟩ = false := s14.free 0
  have c141 : w2.cell? ⟨w.heap.size + 1 + 1 + 1 + 1, 1, none⟩ = some (.int .i64 0) := s14.cell 1
  have f141 : w2.frozen? ⟨w.heap.size + 1 + 1 + 1 + 1, 1, none⟩ = false := s14.free 1
  have c142 : w2.cell? ⟨w.heap.size + 1 + 1 + 1 + 1, 2, none⟩ = some (.string ⟨#[]⟩) := s14.cell 2
  have f142 : w2.frozen? ⟨w.heap.size + 1 + 1 + 1 + 1, 2, none⟩ = false := s14.free 2
  have c143 : w2.cell? ⟨w.heap.size + 1 + 1 + 1 + 1, 3, none⟩ = some (.string ⟨#[]⟩) := s14.cell 3
  have f143 : w2.frozen? ⟨w.heap.size + 1 + 1 + 1 + 1, 3, none⟩ = false := s14.free 3
  have l15 := s15.lt
  have c150 : w2.cell? ⟨w.heap.size + 1 + 1 + 1 + 1 + 1, 0, none⟩ = some (.int .i64 0) := s15.cell 0
  have f150 : w2.frozen? ⟨w.heap.size + 1 + 1 + 1 + 1 + 1, 0, none⟩ = false := s15.free 0
  have c151 : w2.cell? ⟨w.heap.size + 1 + 1 + 1 + 1 + 1, 1, none⟩ = some (.int .i64 0) := s15.cell 1
  have f151 : w2.frozen? ⟨w.heap.size + 1 + 1 + 1 + 1 + 1, 1, none⟩ = false := s15.free 1
  have c152 : w2.cell? ⟨w.heap.size + 1 + 1 + 1 + 1 + 1, 2, none⟩ = some (.string ⟨#[]⟩) := s15.cell 2
  have f152 : w2.frozen? ⟨w.heap.size + 1 + 1 + 1 + 1 + 1, 2, none⟩ = false := s15.free 2
  have c153 : w2.cell? ⟨w.heap.size + 1 + 1 + 1 + 1 + 1, 3, none⟩ = some (.string ⟨#[]⟩) := s15.cell 3
  have f153 : w2.frozen? ⟨w.heap.size + 1 + 1 + 1 + 1 + 1, 3, none⟩ = false := s15.free 3
  have r10 : Row (w2.setCell ⟨w.heap.size + 1, 3, none⟩ (.string Y)) (w.heap.size) 30 #[.string leaf, .int .i64 d, .string pt] := s10.other (a := ⟨w.heap.size + 1, 3, none⟩) (by show w.heap.size ≠ w.heap.size + 1; omega) _
  have r11 : Row (w2.setCell ⟨w.heap.size + 1, 3, none⟩ (.string Y)) (w.heap.size + 1) 32 #[.int .i64 hs, .int .i64 hk, .string hr, .string Y] := s11.setCell 3 (.string Y)
  have r12 : Row (w2.setCell ⟨w.heap.size + 1, 3, none⟩ (.string Y)) (w.heap.size + 1 + 1) 32 #[.int .i64 gs, .int .i64 gk, .string gr, .string gt] := s12.other (a := ⟨w.heap.size + 1, 3, none⟩) (by show w.heap.size + 1 + 1 ≠ w.heap.size + 1; omega) _
  have r13 : Row (w2.setCell ⟨w.heap.size + 1, 3, none⟩ (.string Y)) (w.heap.size + 1 + 1 + 1) 30 #[.string ⟨#[]⟩, .int .i64 0, .string ⟨#[]⟩] := s13.other (a := ⟨w.heap.size + 1, 3, none⟩) (by show w.heap.size + 1 + 1 + 1 ≠ w.heap.size + 1; omega) _
  have r14 : Row (w2.setCell ⟨w.heap.size + 1, 3, none⟩ (.string Y)) (w.heap.size + 1 + 1 + 1 + 1) 32 #[.int .i64 0, .int .i64 0, .string ⟨#[]⟩, .string ⟨#[]⟩] := s14.other (a := ⟨w.heap.size + 1, 3, none⟩) (by show w.heap.size + 1 + 1 + 1 + 1 ≠ w.heap.size + 1; omega) _
  have r15 : Row (w2.setCell ⟨w.heap.size + 1, 3, none⟩ (.string Y)) (w.heap.size + 1 + 1 + 1 + 1 + 1) 32 #[.int .i64 0, .int .i64 0, .string ⟨#[]⟩, .string ⟨#[]⟩] := s15.other (a := ⟨w.heap.size + 1, 3, none⟩) (by show w.heap.size + 1 + 1 + 1 + 1 + 1 ≠ w.heap.size + 1; omega) _
  have d1 : Below w.heap.size w (w2.setCell ⟨w.heap.size + 1, 3, none⟩ (.string Y)) := b1.setCell (p := ⟨w.heap.size + 1, 3, none⟩) (by show w.heap.size ≤ w.heap.size + 1; omega) _
  clear b1 s10 s11 s12 s13 s14 s15
  go_wp2_with fail
  refine (HG.out _).mono ?_
  rintro e w3 ⟨rfl, k2⟩
  clear l10 c100 c101 c102 f102 l11 c110 c111 c112 c113 f113 l12 c120 c121 c122 c123 f123 l13 c130 f130 c131 f131 c132 f132 l14 c140 f140 c141 f141 c142 f142 c143 f143 l15 c150 f150 c151 f151 c152 f152 c153 f153
  have s20 : Row w3 (w.heap.size) 30 #[.string leaf, .int .i64 d, .string pt] := r10.below k2 r10.lt
  have s21 : Row w3 (w.heap.size + 1) 32 #[.int .i64 hs, .int .i64 hk, .string hr, .string Y] := r11.below k2 r11.lt
  have s22 : Row w3 (w.heap.size + 1 + 1) 32 #[.int .i64 gs, .int .i64 gk, .string gr, .string gt] := r12.below k2 r12.lt
  have s23 : Row w3 (w.heap.size + 1 + 1 + 1) 30 #[.string ⟨#[]⟩, .int .i64 0, .string ⟨#[]⟩] := r13.below k2 r13.lt
  have s24 : Row w3 (w.heap.size + 1 + 1 + 1 + 1) 32 #[.int .i64 0, .int .i64 0, .string ⟨#[]⟩, .string ⟨#[]⟩] := r14.below k2 r14.lt
  have s25 : Row w3 (w.heap.size + 1 + 1 + 1 + 1 + 1) 32 #[.int .i64 0, .int .i64 0, .string ⟨#[]⟩, .string ⟨#[]⟩] := r15.below k2 r15.lt
  have b2 : Below w.heap.size w w3 := d1.trans (k2.mono d1.size)
  clear k2 r10 r11 r12 r13 r14 r15 d1
  have l20 := s20.lt
  have c200 : w3.cell? ⟨w.heap.size, 0, none⟩ = some (.string leaf) := s20.cell 0
  have c201 : w3.cell? ⟨w.heap.size, 1, none⟩ = some (.int .i64 d) := s20.cell 1
  have c202 : w3.cell? ⟨w.heap.size, 2, none⟩ = some (.string pt) := s20.cell 2
  have f202 : w3.frozen? ⟨w.heap.size, 2, none⟩ = false := s20.free 2
  have l21 := s21.lt
  have c210 : w3.cell? ⟨w.heap.size + 1, 0, none⟩ = some (.int .i64 hs) := s21.cell 0
  have c211 : w3.cell? ⟨w.heap.size + 1, 1, none⟩ = some (.int .i64 hk) := s21.cell 1
  have c212 : w3.cell? ⟨w.heap.size + 1, 2, none⟩ = some (.string hr) := s21.cell 2
  have c213 : w3.cell? ⟨w.heap.size + 1, 3, none⟩ = some (.string Y) := s21.cell 3
  have f213 : w3.frozen? ⟨w.heap.size + 1, 3, none⟩ = false := s21.free 3
  have l22 := s22.lt
  have c220 : w3.cell? ⟨w.heap.size + 1 + 1, 0, none⟩ = some (.int .i64 gs) := s22.cell 0
  have c221 : w3.cell? ⟨w.heap.size + 1 + 1, 1, none⟩ = some (.int .i64 gk) := s22.cell 1
  have c222 : w3.cell? ⟨w.heap.size + 1 + 1, 2, none⟩ = some (.string gr) := s22.cell 2
  have c223 : w3.cell? ⟨w.heap.size + 1 + 1, 3, none⟩ = some (.string gt) := s22.cell 3
  have f223 : w3.frozen? ⟨w.heap.size + 1 + 1, 3, none⟩ = false := s22.free 3
  have l23 := s23.lt
  have c230 : w3.cell? ⟨w.heap.size + 1 + 1 + 1, 0, none⟩ = some (.string ⟨#[]⟩) := s23.cell 0
  have f230 : w3.frozen? ⟨w.heap.size + 1 + 1 + 1, 0, none⟩ = false := s23.free 0
  have c231 : w3.cell? ⟨w.heap.size + 1 + 1 + 1, 1, none⟩ = some (.int .i64 0) := s23.cell 1
  have f231 : w3.frozen? ⟨w.heap.size + 1 + 1 + 1, 1, none⟩ = false := s23.free 1
  have c232 : w3.cell? ⟨w.heap.size + 1 + 1 + 1, 2, none⟩ = some (.string ⟨#[]⟩) := s23.cell 2
  have f232 : w3.frozen? ⟨w.heap.size + 1 + 1 + 1, 2, none⟩ = false := s23.free 2
  have l24 := s24.lt
  have c240 : w3.cell? ⟨w.heap.size + 1 + 1 + 1 + 1, 0, none⟩ = some (.int .i64 0) := s24.cell 0
  have f240 : w3.frozen? ⟨w.heap.size + 1 + 1 + 1 + 1, 0, none⟩ = false := s24.free 0
  have c241 : w3.cell? ⟨w.heap.size + 1 + 1 + 1 + 1, 1, none⟩ = some (.int .i64 0) := s24.cell 1
  have f241 : w3.frozen? ⟨w.heap.size + 1 + 1 + 1 + 1, 1, none⟩ = false := s24.free 1
  have c242 : w3.cell? ⟨w.heap.size + 1 + 1 + 1 + 1, 2, none⟩ = some (.string ⟨#[]⟩) := s24.cell 2
  have f242 : w3.frozen? ⟨w.heap.size + 1 + 1 + 1 + 1, 2, none⟩ = false := s24.free 2
  have c243 : w3.cell? ⟨w.heap.size + 1 + 1 + 1 + 1, 3, none⟩ = some (.string ⟨#[]⟩) := s24.cell 3
  have f243 : w3.frozen? ⟨w.heap.size + 1 + 1 + 1 + 1, 3, none⟩ = false := s24.free 3
  have l25 := s25.lt
  have c250 : w3.cell? ⟨w.heap.size + 1 + 1 + 1 + 1 + 1, 0, none⟩ = some (.int .i64 0) := s25.cell 0
  have f250 : w3.frozen? ⟨w.heap.size + 1 + 1 + 1 + 1 + 1, 0, none⟩ = false := s25.free 0
  have c251 : w3.cell? ⟨w.heap.size + 1 + 1 + 1 + 1 + 1, 1, none⟩ = some (.int .i64 0) := s25.cell 1
  have f251 : w3.frozen? ⟨w.heap.size + 1 + 1 + 1 + 1 + 1, 1, none⟩ = false := s25.free 1
  have c252 : w3.cell? ⟨w.heap.size + 1 + 1 + 1 + 1 + 1, 2, none⟩ = some (.string ⟨#[]⟩) := s25.cell 2
  have f252 : w3.frozen? ⟨w.heap.size + 1 + 1 + 1 + 1 + 1, 2, none⟩ = false := s25.free 2
  have c253 : w3.cell? ⟨w.heap.size + 1 + 1 + 1 + 1 + 1, 3, none⟩ = some (.string ⟨#[]⟩) := s25.cell 3
  have f253 : w3.frozen? ⟨w.heap.size + 1 + 1 + 1 + 1 + 1, 3, none⟩ = false := s25.free 3
  have r20 : Row (w3.setCell ⟨w.heap.size + 1 + 1, 3, none⟩ (.string Z)) (w.heap.size) 30 #[.string leaf, .int .i64 d, .string pt] := s20.other (a := ⟨w.heap.size + 1 + 1, 3, none⟩) (by show w.heap.size ≠ w.heap.size + 1 + 1; omega) _
  have r21 : Row (w3.setCell ⟨w.heap.size + 1 + 1, 3, none⟩ (.string Z)) (w.heap.size + 1) 32 #[.int .i64 hs, .int .i64 hk, .string hr, .string Y] := s21.other (a := ⟨w.heap.size + 1 + 1, 3, none⟩) (by show w.heap.size + 1 ≠ w.heap.size + 1 + 1; omega) _
  have r22 : Row (w3.setCell ⟨w.heap.size + 1 + 1, 3, none⟩ (.string Z)) (w.heap.size + 1 + 1) 32 #[.int .i64 gs, .int .i64 gk, .string gr, .string Z] := s22.setCell 3 (.string Z)
  have r23 : Row (w3.setCell ⟨w.heap.size + 1 + 1, 3, none⟩ (.string Z)) (w.heap.size + 1 + 1 + 1) 30 #[.string ⟨#[]⟩, .int .i64 0, .string ⟨#[]⟩] := s23.other (a := ⟨w.heap.size + 1 + 1, 3, none⟩) (by show w.heap.size + 1 + 1 + 1 ≠ w.heap.size + 1 + 1; omega) _
  have r24 : Row (w3.setCell ⟨w.heap.size + 1 + 1, 3, none⟩ (.string Z)) (w.heap.size + 1 + 1 + 1 + 1) 32 #[.int .i64 0, .int .i64 0, .string ⟨#[]⟩, .string ⟨#[]⟩] := s24.other (a := ⟨w.heap.size + 1 + 1, 3, none⟩) (by show w.heap.size + 1 + 1 + 1 + 1 ≠ w.heap.size + 1 + 1; omega) _
  have r25 : Row (w3.setCell ⟨w.heap.size + 1 + 1, 3, none⟩ (.string Z)) (w.heap.size + 1 + 1 + 1 + 1 + 1) 32 #[.int .i64 0, .int .i64 0, .string ⟨#[]⟩, .string ⟨#[]⟩] := s25.other (a := ⟨w.heap.size + 1 + 1, 3, none⟩) (by show w.heap.size + 1 + 1 + 1 + 1 + 1 ≠ w.heap.size + 1 + 1; omega) _
  have d2 : Below w.heap.size w (w3.setCell ⟨w.heap.size + 1 + 1, 3, none⟩ (.string Z)) := b2.setCell (p := ⟨w.heap.size + 1 + 1, 3, none⟩) (by show w.heap.size ≤ w.heap.size + 1 + 1; omega) _
  clear b2 s20 s21 s22 s23 s24 s25
  have z3 := ((r23.three (.string leaf) (.int .i64 d) (.string pt)).other4 (show w.heap.size + 1 + 1 + 1 ≠ w.heap.size + 1 + 1 + 1 + 1 by omega) (.int .i64 hs) (.int .i64 hk) (.string hr) (.string Y)).other4 (show w.heap.size + 1 + 1 + 1 ≠ w.heap.size + 1 + 1 + 1 + 1 + 1 by omega) (.int .i64 gs) (.int .i64 gk) (.string gr) (.string Z)
  have z4 := ((r24.other3 (show w.heap.size + 1 + 1 + 1 + 1 ≠ w.heap.size + 1 + 1 + 1 by omega) (.string leaf) (.int .i64 d) (.string pt)).four (.int .i64 hs) (.int .i64 hk) (.string hr) (.string Y)).other4 (show w.heap.size + 1 + 1 + 1 + 1 ≠ w.heap.size + 1 + 1 + 1 + 1 + 1 by omega) (.int .i64 gs) (.int .i64 gk) (.string gr) (.string Z)
  have z5 := ((r25.other3 (show w.heap.size + 1 + 1 + 1 + 1 + 1 ≠ w.heap.size + 1 + 1 + 1 by omega) (.string leaf) (.int .i64 d) (.string pt)).other4 (show w.heap.size + 1 + 1 + 1 + 1 + 1 ≠ w.heap.size + 1 + 1 + 1 + 1 by omega) (.int .i64 hs) (.int .i64 hk) (.string hr) (.string Y)).four (.int .i64 gs) (.int .i64 gk) (.string gr) (.string Z)
  have zb := bel_set4 (bel_set4 (bel_set3 d2 (show w.heap.size ≤ w.heap.size + 1 + 1 + 1 by omega) (.string leaf) (.int .i64 d) (.string pt)) (show w.heap.size ≤ w.heap.size + 1 + 1 + 1 + 1 by omega) (.int .i64 hs) (.int .i64 hk) (.string hr) (.string Y)) (show w.heap.size ≤ w.heap.size + 1 + 1 + 1 + 1 + 1 by omega) (.int .i64 gs) (.int .i64 gk) (.string gr) (.string Z)
  clear r20 r21 r22 r23 r24 r25 d2
  have Z3 := hidden z3
  have Z4 := hidden z4
  have Z5 := hidden z5
  have ZB := hidden zb
  clear z3 z4 z5 zb
  go_wp2_with fail
  go_region
  go_wp2
  refine bodyPost_ret (results_signed rfl _ _ (w.heap.size + 1 + 1 + 1) (w.heap.size + 1 + 1 + 1 + 1) (w.heap.size + 1 + 1 + 1 + 1 + 1) (.string leaf) (.int .i64 d) (.string pt) (.int .i64 hs) (.int .i64 hk) (.string hr) (.string Y) (.int .i64 gs) (.int .i64 gk) (.string gr) (.string Z) rfl rfl rfl Z3.out.drew Z4.out.drew Z5.out.drew) rfl ?_
  exact ⟨rfl, ZB.out.drew⟩
set_option maxHeartbeats 4000000 in
theorem signed_ftf (key leaf pt hr ht gr gt Y : ByteArray) (d hs hk gs gk how : Int) (w : World)
    (HH : Hid (∀ wx, Calls Tryd.prog 42 #[.string key, .agg #[.int .i64 hs, .int .i64 hk, .string hr, .string ht]] wx fun r w' => r = .returned (.string Y) ∧ Below wx.heap.size wx w'))
    (c0 : (how.tmod 2 == 0) = false) (c1 : ((wrap64 (how.tdiv 2)).tmod 2 == 0) = true) (c2 : ((wrap64 (how.tdiv 4)).tmod 2 == 0) = false) :
    Calls Tryd.prog 17 #[.string key, .agg #[.string leaf, .int .i64 d, .string pt], .agg #[.int .i64 hs, .int .i64 hk, .string hr, .string ht], .agg #[.int .i64 gs, .int .i64 gk, .string gr, .string gt], .int .i64 how] w fun r w' => r = .returned (.tuple #[.agg #[.string leaf, .int .i64 d, .string pt], .agg #[.int .i64 hs, .int .i64 hk, .string hr, .string Y], .agg #[.int .i64 gs, .int .i64 gk, .string gr, .string gt]]) ∧ Below w.heap.size w w' := by
  have r0 : Row ((((((w.alloc (.cells #[.string leaf, .int .i64 d, .string pt] 30)).alloc (.cells #[.int .i64 hs, .int .i64 hk, .string hr, .string ht] 32)).alloc (.cells #[.int .i64 gs, .int .i64 gk, .string gr, .string gt] 32)).alloc (.cells #[.string ⟨#[]⟩, .int .i64 0, .string ⟨#[]⟩] 30)).alloc (.cells #[.int .i64 0, .int .i64 0, .string ⟨#[]⟩, .string ⟨#[]⟩] 32)).alloc (.cells #[.int .i64 0, .int .i64 0, .string ⟨#[]⟩, .string ⟨#[]⟩] 32)) (w.heap.size) 30 #[.string leaf, .int .i64 d, .string pt] := ((((((Row.newAt _ _ _ _ (by simp)).alloc _).alloc _).alloc _).alloc _).alloc _)
  have r1 : Row ((((((w.alloc (.cells #[.string leaf, .int .i64 d, .string pt] 30)).alloc (.cells #[.int .i64 hs, .int .i64 hk, .string hr, .string ht] 32)).alloc (.cells #[.int .i64 gs, .int .i64 gk, .string gr, .string gt] 32)).alloc (.cells #[.string ⟨#[]⟩, .int .i64 0, .string ⟨#[]⟩] 30)).alloc (.cells #[.int .i64 0, .int .i64 0, .string ⟨#[]⟩, .string ⟨#[]⟩] 32)).alloc (.cells #[.int .i64 0, .int .i64 0, .string ⟨#[]⟩, .string ⟨#[]⟩] 32)) (w.heap.size + 1) 32 #[.int .i64 hs, .int .i64 hk, .string hr, .string ht] := (((((Row.newAt _ _ _ _ (by simp)).alloc _).alloc _).alloc _).alloc _)
  have r2 : Row ((((((w.alloc (.cells #[.string leaf, .int .i64 d, .string pt] 30)).alloc (.cells #[.int .i64 hs, .int .i64 hk, .string hr, .string ht] 32)).alloc (.cells #[.int .i64 gs, .int .i64 gk, .string gr, .string gt] 32)).alloc (.cells #[.string ⟨#[]⟩, .int .i64 0, .string ⟨#[]⟩] 30)).alloc (.cells #[.int .i64 0, .int .i64 0, .string ⟨#[]⟩, .string ⟨#[]⟩] 32)).alloc (.cells #[.int .i64 0, .int .i64 0, .string ⟨#[]⟩, .string ⟨#[]⟩] 32)) (w.heap.size + 1 + 1) 32 #[.int .i64 gs, .int .i64 gk, .string gr, .string gt] := ((((Row.newAt _ _ _ _ (by simp)).alloc _).alloc _).alloc _)
  have r3 : Row ((((((w.alloc (.cells #[.string leaf, .int .i64 d, .string pt] 30)).alloc (.cells #[.int .i64 hs, .int .i64 hk, .string hr, .string ht] 32)).alloc (.cells #[.int .i64 gs, .int .i64 gk, .string gr, .string gt] 32)).alloc (.cells #[.string ⟨#[]⟩, .int .i64 0, .string ⟨#[]⟩] 30)).alloc (.cells #[.int .i64 0, .int .i64 0, .string ⟨#[]⟩, .string ⟨#[]⟩] 32)).alloc (.cells #[.int .i64 0, .int .i64 0, .string ⟨#[]⟩, .string ⟨#[]⟩] 32)) (w.heap.size + 1 + 1 + 1) 30 #[.string ⟨#[]⟩, .int .i64 0, .string ⟨#[]⟩] := (((Row.newAt _ _ _ _ (by simp)).alloc _).alloc _)
  have r4 : Row ((((((w.alloc (.cells #[.string leaf, .int .i64 d, .string pt] 30)).alloc (.cells #[.int .i64 hs, .int .i64 hk, .string hr, .string ht] 32)).alloc (.cells #[.int .i64 gs, .int .i64 gk, .string gr, .string gt] 32)).alloc (.cells #[.string ⟨#[]⟩, .int .i64 0, .string ⟨#[]⟩] 30)).alloc (.cells #[.int .i64 0, .int .i64 0, .string ⟨#[]⟩, .string ⟨#[]⟩] 32)).alloc (.cells #[.int .i64 0, .int .i64 0, .string ⟨#[]⟩, .string ⟨#[]⟩] 32)) (w.heap.size + 1 + 1 + 1 + 1) 32 #[.int .i64 0, .int .i64 0, .string ⟨#[]⟩, .string ⟨#[]⟩] := ((Row.newAt _ _ _ _ (by simp)).alloc _)
  have r5 : Row ((((((w.alloc (.cells #[.string leaf, .int .i64 d, .string pt] 30)).alloc (.cells #[.int .i64 hs, .int .i64 hk, .string hr, .string ht] 32)).alloc (.cells #[.int .i64 gs, .int .i64 gk, .string gr, .string gt] 32)).alloc (.cells #[.string ⟨#[]⟩, .int .i64 0, .string ⟨#[]⟩] 30)).alloc (.cells #[.int .i64 0, .int .i64 0, .string ⟨#[]⟩, .string ⟨#[]⟩] 32)).alloc (.cells #[.int .i64 0, .int .i64 0, .string ⟨#[]⟩, .string ⟨#[]⟩] 32)) (w.heap.size + 1 + 1 + 1 + 1 + 1) 32 #[.int .i64 0, .int .i64 0, .string ⟨#[]⟩, .string ⟨#[]⟩] := (Row.newAt _ _ _ _ (by simp))
  have hb : Below w.heap.size w ((((((w.alloc (.cells #[.string leaf, .int .i64 d, .string pt] 30)).alloc (.cells #[.int .i64 hs, .int .i64 hk, .string hr, .string ht] 32)).alloc (.cells #[.int .i64 gs, .int .i64 gk, .string gr, .string gt] 32)).alloc (.cells #[.string ⟨#[]⟩, .int .i64 0, .string ⟨#[]⟩] 30)).alloc (.cells #[.int .i64 0, .int .i64 0, .string ⟨#[]⟩, .string ⟨#[]⟩] 32)).alloc (.cells #[.int .i64 0, .int .i64 0, .string ⟨#[]⟩, .string ⟨#[]⟩] 32)) := (((((((Below.refl _ _).alloc (by first | (simp; done) | (simp; omega)) _).alloc (by first | (simp; done) | (simp; omega)) _).alloc (by first | (simp; done) | (simp; omega)) _).alloc (by first | (simp; done) | (simp; omega)) _).alloc (by first | (simp; done) | (simp; omega)) _).alloc (by first | (simp; done) | (simp; omega)) _)
  go_enter Tryd.func17, Tryd.ntmps17
  go_wp2_with fail
  refine (HH.out _).mono ?_
  rintro e w2 ⟨rfl, k1⟩
  have s10 : Row w2 (w.heap.size) 30 #[.string leaf, .int .i64 d, .string pt] := r0.below k1 r0.lt
  have s11 : Row w2 (w.heap.size + 1) 32 #[.int .i64 hs, .int .i64 hk, .string hr, .string ht] := r1.below k1 r1.lt
  have s12 : Row w2 (w.heap.size + 1 + 1) 32 #[.int .i64 gs, .int .i64 gk, .string gr, .string gt] := r2.below k1 r2.lt
  have s13 : Row w2 (w.heap.size + 1 + 1 + 1) 30 #[.string ⟨#[]⟩, .int .i64 0, .string ⟨#[]⟩] := r3.below k1 r3.lt
  have s14 : Row w2 (w.heap.size + 1 + 1 + 1 + 1) 32 #[.int .i64 0, .int .i64 0, .string ⟨#[]⟩, .string ⟨#[]⟩] := r4.below k1 r4.lt
  have s15 : Row w2 (w.heap.size + 1 + 1 + 1 + 1 + 1) 32 #[.int .i64 0, .int .i64 0, .string ⟨#[]⟩, .string ⟨#[]⟩] := r5.below k1 r5.lt
  have b1 : Below w.heap.size w w2 := hb.trans (k1.mono hb.size)
  clear k1 r0 r1 r2 r3 r4 r5 hb
  have l10 := s10.lt
  have c100 : w2.cell? ⟨w.heap.size, 0, none⟩ = some (.string leaf) := s10.cell 0
  have c101 : w2.cell? ⟨w.heap.size, 1, none⟩ = some (.int .i64 d) := s10.cell 1
  have c102 : w2.cell? ⟨w.heap.size, 2, none⟩ = some (.string pt) := s10.cell 2
  have f102 : w2.frozen? ⟨w.heap.size, 2, none⟩ = false := s10.free 2
  have l11 := s11.lt
  have c110 : w2.cell? ⟨w.heap.size + 1, 0, none⟩ = some (.int .i64 hs) := s11.cell 0
  have c111 : w2.cell? ⟨w.heap.size + 1, 1, none⟩ = some (.int .i64 hk) := s11.cell 1
  have c112 : w2.cell? ⟨w.heap.size + 1, 2, none⟩ = some (.string hr) := s11.cell 2
  have c113 : w2.cell? ⟨w.heap.size + 1, 3, none⟩ = some (.string ht) := s11.cell 3
  have f113 : w2.frozen? ⟨w.heap.size + 1, 3, none⟩ = false := s11.free 3
  have l12 := s12.lt
  have c120 : w2.cell? ⟨w.heap.size + 1 + 1, 0, none⟩ = some (.int .i64 gs) := s12.cell 0
  have c121 : w2.cell? ⟨w.heap.size + 1 + 1, 1, none⟩ = some (.int .i64 gk) := s12.cell 1
  have c122 : w2.cell? ⟨w.heap.size + 1 + 1, 2, none⟩ = some (.string gr) := s12.cell 2
  have c123 : w2.cell? ⟨w.heap.size + 1 + 1, 3, none⟩ = some (.string gt) := s12.cell 3
  have f123 : w2.frozen? ⟨w.heap.size + 1 + 1, 3, none⟩ = false := s12.free 3
  have l13 := s13.lt
  have c130 : w2.cell? ⟨w.heap.size + 1 + 1 + 1, 0, none⟩ = some (.string ⟨#[]⟩) := s13.cell 0
  have f130 : w2.frozen? ⟨w.heap.size + 1 + 1 + 1, 0, none⟩ = false := s13.free 0
  have c131 : w2.cell? ⟨w.heap.size + 1 + 1 + 1, 1, none⟩ = some (.int .i64 0) := s13.cell 1
  have f131 : w2.frozen? ⟨w.heap.size + 1 + 1 + 1, 1, none⟩ = false := s13.free 1
  have c132 : w2.cell? ⟨w.heap.size + 1 + 1 + 1, 2, none⟩ = some (.string ⟨#[]⟩) := s13.cell 2
  have f132 : w2.frozen? ⟨w.heap.size + 1 + 1 + 1, 2, none⟩ = false := s13.free 2
  have l14 := s14.lt
  have c140 : w2.cell? ⟨w.heap.size + 1 + 1 + 1 + 1, 0, none⟩ = some (.int .i64 0) := s14.cell 0
  have f140 : w2.frozen? ⟨w.heap.size + 1 + 1 + 1 + 1, 0, none⟩ = false := s14.free 0
  have c141 : w2.cell? ⟨w.heap.size + 1 + 1 + 1 + 1, 1, none⟩ = some (.int .i64 0) := s14.cell 1
  have f141 : w2.frozen? ⟨w.heap.size + 1 + 1 + 1 + 1, 1, none⟩ = false := s14.free 1
  have c142 : w2.cell? ⟨w.heap.size + 1 + 1 + 1 + 1, 2, none⟩ = some (.string ⟨#[]⟩) := s14.cell 2
  have f142 : w2.frozen? ⟨w.heap.size + 1 + 1 + 1 + 1, 2, none⟩ = false := s14.free 2
  have c143 : w2.cell? ⟨w.heap.size + 1 + 1 + 1 + 1, 3, none⟩ = some (.string ⟨#[]⟩) := s14.cell 3
  have f143 : w2.frozen? ⟨w.heap.size + 1 + 1 + 1 + 1, 3, none⟩ = false := s14.free 3
  have l15 := s15.lt
  have c150 : w2.cell? ⟨w.heap.size + 1 + 1 + 1 + 1 + 1, 0, none⟩ = some (.int .i64 0) := s15.cell 0
  have f150 : w2.frozen? ⟨w.heap.size + 1 + 1 + 1 + 1 + 1, 0, none⟩ = false := s15.free 0
  have c151 : w2.cell? ⟨w.heap.size + 1 + 1 + 1 + 1 + 1, 1, none⟩ = some (.int .i64 0) := s15.cell 1
  have f151 : w2.frozen? ⟨w.heap.size + 1 + 1 + 1 + 1 + 1, 1, none⟩ = false := s15.free 1
  have c152 : w2.cell? ⟨w.heap.size + 1 + 1 + 1 + 1 + 1, 2, none⟩ = some (.string ⟨#[]⟩) := s15.cell 2
  have f152 : w2.frozen? ⟨w.heap.size + 1 + 1 + 1 + 1 + 1, 2, none⟩ = false := s15.free 2
  have c153 : w2.cell? ⟨w.heap.size + 1 + 1 + 1 + 1 + 1, 3, none⟩ = some (.string ⟨#[]⟩) := s15.cell 3
  have f153 : w2.frozen? ⟨w.heap.size + 1 + 1 + 1 + 1 + 1, 3, none⟩ = false := s15.free 3
  have r10 : Row (w2.setCell ⟨w.heap.size + 1, 3, none⟩ (.string Y)) (w.heap.size) 30 #[.string leaf, .int .i64 d, .string pt] := s10.other (a := ⟨w.heap.size + 1, 3, none⟩) (by show w.heap.size ≠ w.heap.size + 1; omega) _
  have r11 : Row (w2.setCell ⟨w.heap.size + 1, 3, none⟩ (.string Y)) (w.heap.size + 1) 32 #[.int .i64 hs, .int .i64 hk, .string hr, .string Y] := s11.setCell 3 (.string Y)
  have r12 : Row (w2.setCell ⟨w.heap.size + 1, 3, none⟩ (.string Y)) (w.heap.size + 1 + 1) 32 #[.int .i64 gs, .int .i64 gk, .string gr, .string gt] := s12.other (a := ⟨w.heap.size + 1, 3, none⟩) (by show w.heap.size + 1 + 1 ≠ w.heap.size + 1; omega) _
  have r13 : Row (w2.setCell ⟨w.heap.size + 1, 3, none⟩ (.string Y)) (w.heap.size + 1 + 1 + 1) 30 #[.string ⟨#[]⟩, .int .i64 0, .string ⟨#[]⟩] := s13.other (a := ⟨w.heap.size + 1, 3, none⟩) (by show w.heap.size + 1 + 1 + 1 ≠ w.heap.size + 1; omega) _
  have r14 : Row (w2.setCell ⟨w.heap.size + 1, 3, none⟩ (.string Y)) (w.heap.size + 1 + 1 + 1 + 1) 32 #[.int .i64 0, .int .i64 0, .string ⟨#[]⟩, .string ⟨#[]⟩] := s14.other (a := ⟨w.heap.size + 1, 3, none⟩) (by show w.heap.size + 1 + 1 + 1 + 1 ≠ w.heap.size + 1; omega) _
  have r15 : Row (w2.setCell ⟨w.heap.size + 1, 3, none⟩ (.string Y)) (w.heap.size + 1 + 1 + 1 + 1 + 1) 32 #[.int .i64 0, .int .i64 0, .string ⟨#[]⟩, .string ⟨#[]⟩] := s15.other (a := ⟨w.heap.size + 1, 3, none⟩) (by show w.heap.size + 1 + 1 + 1 + 1 + 1 ≠ w.heap.size + 1; omega) _
  have d1 : Below w.heap.size w (w2.setCell ⟨w.heap.size + 1, 3, none⟩ (.string Y)) := b1.setCell (p := ⟨w.heap.size + 1, 3, none⟩) (by show w.heap.size ≤ w.heap.size + 1; omega) _
  clear b1 s10 s11 s12 s13 s14 s15
  have z3 := ((r13.three (.string leaf) (.int .i64 d) (.string pt)).other4 (show w.heap.size + 1 + 1 + 1 ≠ w.heap.size + 1 + 1 + 1 + 1 by omega) (.int .i64 hs) (.int .i64 hk) (.string hr) (.string Y)).other4 (show w.heap.size + 1 + 1 + 1 ≠ w.heap.size + 1 + 1 + 1 + 1 + 1 by omega) (.int .i64 gs) (.int .i64 gk) (.string gr) (.string gt)
  have z4 := ((r14.other3 (show w.heap.size + 1 + 1 + 1 + 1 ≠ w.heap.size + 1 + 1 + 1 by omega) (.string leaf) (.int .i64 d) (.string pt)).four (.int .i64 hs) (.int .i64 hk) (.string hr) (.string Y)).other4 (show w.heap.size + 1 + 1 + 1 + 1 ≠ w.heap.size + 1 + 1 + 1 + 1 + 1 by omega) (.int .i64 gs) (.int .i64 gk) (.string gr) (.string gt)
  have z5 := ((r15.other3 (show w.heap.size + 1 + 1 + 1 + 1 + 1 ≠ w.heap.size + 1 + 1 + 1 by omega) (.string leaf) (.int .i64 d) (.string pt)).other4 (show w.heap.size + 1 + 1 + 1 + 1 + 1 ≠ w.heap.size + 1 + 1 + 1 + 1 by omega) (.int .i64 hs) (.int .i64 hk) (.string hr) (.string Y)).four (.int .i64 gs) (.int .i64 gk) (.string gr) (.string gt)
  have zb := bel_set4 (bel_set4 (bel_set3 d1 (show w.heap.size ≤ w.heap.size + 1 + 1 + 1 by omega) (.string leaf) (.int .i64 d) (.string pt)) (show w.heap.size ≤ w.heap.size + 1 + 1 + 1 + 1 by omega) (.int .i64 hs) (.int .i64 hk) (.string hr) (.string Y)) (show w.heap.size ≤ w.heap.size + 1 + 1 + 1 + 1 + 1 by omega) (.int .i64 gs) (.int .i64 gk) (.string gr) (.string gt)
  clear r10 r11 r12 r13 r14 r15 d1
  have Z3 := hidden z3
  have Z4 := hidden z4
  have Z5 := hidden z5
  have ZB := hidden zb
  clear z3 z4 z5 zb
  go_wp2_with fail
  go_region
  go_wp2
  refine bodyPost_ret (results_signed rfl _ _ (w.heap.size + 1 + 1 + 1) (w.heap.size + 1 + 1 + 1 + 1) (w.heap.size + 1 + 1 + 1 + 1 + 1) (.string leaf) (.int .i64 d) (.string pt) (.int .i64 hs) (.int .i64 hk) (.string hr) (.string Y) (.int .i64 gs) (.int .i64 gk) (.string gr) (.string gt) rfl rfl rfl Z3.out.drew Z4.out.drew Z5.out.drew) rfl ?_
  exact ⟨rfl, ZB.out.drew⟩
set_option maxHeartbeats 4000000 in
theorem signed_fft (key leaf pt hr ht gr gt Z : ByteArray) (d hs hk gs gk how : Int) (w : World)
    (HG : Hid (∀ wx, Calls Tryd.prog 42 #[.string key, .agg #[.int .i64 gs, .int .i64 gk, .string gr, .string gt]] wx fun r w' => r = .returned (.string Z) ∧ Below wx.heap.size wx w'))
    (c0 : (how.tmod 2 == 0) = false) (c1 : ((wrap64 (how.tdiv 2)).tmod 2 == 0) = false) (c2 : ((wrap64 (how.tdiv 4)).tmod 2 == 0) = true) :
    Calls Tryd.prog 17 #[.string key, .agg #[.string leaf, .int .i64 d, .string pt], .agg #[.int .i64 hs, .int .i64 hk, .string hr, .string ht], .agg #[.int .i64 gs, .int .i64 gk, .string gr, .string gt], .int .i64 how] w fun r w' => r = .returned (.tuple #[.agg #[.string leaf, .int .i64 d, .string pt], .agg #[.int .i64 hs, .int .i64 hk, .string hr, .string ht], .agg #[.int .i64 gs, .int .i64 gk, .string gr, .string Z]]) ∧ Below w.heap.size w w' := by
  have r0 : Row ((((((w.alloc (.cells #[.string leaf, .int .i64 d, .string pt] 30)).alloc (.cells #[.int .i64 hs, .int .i64 hk, .string hr, .string ht] 32)).alloc (.cells #[.int .i64 gs, .int .i64 gk, .string gr, .string gt] 32)).alloc (.cells #[.string ⟨#[]⟩, .int .i64 0, .string ⟨#[]⟩] 30)).alloc (.cells #[.int .i64 0, .int .i64 0, .string ⟨#[]⟩, .string ⟨#[]⟩] 32)).alloc (.cells #[.int .i64 0, .int .i64 0, .string ⟨#[]⟩, .string ⟨#[]⟩] 32)) (w.heap.size) 30 #[.string leaf, .int .i64 d, .string pt] := ((((((Row.newAt _ _ _ _ (by simp)).alloc _).alloc _).alloc _).alloc _).alloc _)
  have r1 : Row ((((((w.alloc (.cells #[.string leaf, .int .i64 d, .string pt] 30)).alloc (.cells #[.int .i64 hs, .int .i64 hk, .string hr, .string ht] 32)).alloc (.cells #[.int .i64 gs, .int .i64 gk, .string gr, .string gt] 32)).alloc (.cells #[.string ⟨#[]⟩, .int .i64 0, .string ⟨#[]⟩] 30)).alloc (.cells #[.int .i64 0, .int .i64 0, .string ⟨#[]⟩, .string ⟨#[]⟩] 32)).alloc (.cells #[.int .i64 0, .int .i64 0, .string ⟨#[]⟩, .string ⟨#[]⟩] 32)) (w.heap.size + 1) 32 #[.int .i64 hs, .int .i64 hk, .string hr, .string ht] := (((((Row.newAt _ _ _ _ (by simp)).alloc _).alloc _).alloc _).alloc _)
  have r2 : Row ((((((w.alloc (.cells #[.string leaf, .int .i64 d, .string pt] 30)).alloc (.cells #[.int .i64 hs, .int .i64 hk, .string hr, .string ht] 32)).alloc (.cells #[.int .i64 gs, .int .i64 gk, .string gr, .string gt] 32)).alloc (.cells #[.string ⟨#[]⟩, .int .i64 0, .string ⟨#[]⟩] 30)).alloc (.cells #[.int .i64 0, .int .i64 0, .string ⟨#[]⟩, .string ⟨#[]⟩] 32)).alloc (.cells #[.int .i64 0, .int .i64 0, .string ⟨#[]⟩, .string ⟨#[]⟩] 32)) (w.heap.size + 1 + 1) 32 #[.int .i64 gs, .int .i64 gk, .string gr, .string gt] := ((((Row.newAt _ _ _ _ (by simp)).alloc _).alloc _).alloc _)
  have r3 : Row ((((((w.alloc (.cells #[.string leaf, .int .i64 d, .string pt] 30)).alloc (.cells #[.int .i64 hs, .int .i64 hk, .string hr, .string ht] 32)).alloc (.cells #[.int .i64 gs, .int .i64 gk, .string gr, .string gt] 32)).alloc (.cells #[.string ⟨#[]⟩, .int .i64 0, .string ⟨#[]⟩] 30)).alloc (.cells #[.int .i64 0, .int .i64 0, .string ⟨#[]⟩, .string ⟨#[]⟩] 32)).alloc (.cells #[.int .i64 0, .int .i64 0, .string ⟨#[]⟩, .string ⟨#[]⟩] 32)) (w.heap.size + 1 + 1 + 1) 30 #[.string ⟨#[]⟩, .int .i64 0, .string ⟨#[]⟩] := (((Row.newAt _ _ _ _ (by simp)).alloc _).alloc _)
  have r4 : Row ((((((w.alloc (.cells #[.string leaf, .int .i64 d, .string pt] 30)).alloc (.cells #[.int .i64 hs, .int .i64 hk, .string hr, .string ht] 32)).alloc (.cells #[.int .i64 gs, .int .i64 gk, .string gr, .string gt] 32)).alloc (.cells #[.string ⟨#[]⟩, .int .i64 0, .string ⟨#[]⟩] 30)).alloc (.cells #[.int .i64 0, .int .i64 0, .string ⟨#[]⟩, .string ⟨#[]⟩] 32)).alloc (.cells #[.int .i64 0, .int .i64 0, .string ⟨#[]⟩, .string ⟨#[]⟩] 32)) (w.heap.size + 1 + 1 + 1 + 1) 32 #[.int .i64 0, .int .i64 0, .string ⟨#[]⟩, .string ⟨#[]⟩] := ((Row.newAt _ _ _ _ (by simp)).alloc _)
  have r5 : Row ((((((w.alloc (.cells #[.string leaf, .int .i64 d, .string pt] 30)).alloc (.cells #[.int .i64 hs, .int .i64 hk, .string hr, .string ht] 32)).alloc (.cells #[.int .i64 gs, .int .i64 gk, .string gr, .string gt] 32)).alloc (.cells #[.string ⟨#[]⟩, .int .i64 0, .string ⟨#[]⟩] 30)).alloc (.cells #[.int .i64 0, .int .i64 0, .string ⟨#[]⟩, .string ⟨#[]⟩] 32)).alloc (.cells #[.int .i64 0, .int .i64 0, .string ⟨#[]⟩, .string ⟨#[]⟩] 32)) (w.heap.size + 1 + 1 + 1 + 1 + 1) 32 #[.int .i64 0, .int .i64 0, .string ⟨#[]⟩, .string ⟨#[]⟩] := (Row.newAt _ _ _ _ (by simp))
  have hb : Below w.heap.size w ((((((w.alloc (.cells #[.string leaf, .int .i64 d, .string pt] 30)).alloc (.cells #[.int .i64 hs, .int .i64 hk, .string hr, .string ht] 32)).alloc (.cells #[.int .i64 gs, .int .i64 gk, .string gr, .string gt] 32)).alloc (.cells #[.string ⟨#[]⟩, .int .i64 0, .string ⟨#[]⟩] 30)).alloc (.cells #[.int .i64 0, .int .i64 0, .string ⟨#[]⟩, .string ⟨#[]⟩] 32)).alloc (.cells #[.int .i64 0, .int .i64 0, .string ⟨#[]⟩, .string ⟨#[]⟩] 32)) := (((((((Below.refl _ _).alloc (by first | (simp; done) | (simp; omega)) _).alloc (by first | (simp; done) | (simp; omega)) _).alloc (by first | (simp; done) | (simp; omega)) _).alloc (by first | (simp; done) | (simp; omega)) _).alloc (by first | (simp; done) | (simp; omega)) _).alloc (by first | (simp; done) | (simp; omega)) _)
  go_enter Tryd.func17, Tryd.ntmps17
  go_wp2_with fail
  refine (HG.out _).mono ?_
  rintro e w3 ⟨rfl, k2⟩
  have s20 : Row w3 (w.heap.size) 30 #[.string leaf, .int .i64 d, .string pt] := r0.below k2 r0.lt
  have s21 : Row w3 (w.heap.size + 1) 32 #[.int .i64 hs, .int .i64 hk, .string hr, .string ht] := r1.below k2 r1.lt
  have s22 : Row w3 (w.heap.size + 1 + 1) 32 #[.int .i64 gs, .int .i64 gk, .string gr, .string gt] := r2.below k2 r2.lt
  have s23 : Row w3 (w.heap.size + 1 + 1 + 1) 30 #[.string ⟨#[]⟩, .int .i64 0, .string ⟨#[]⟩] := r3.below k2 r3.lt
  have s24 : Row w3 (w.heap.size + 1 + 1 + 1 + 1) 32 #[.int .i64 0, .int .i64 0, .string ⟨#[]⟩, .string ⟨#[]⟩] := r4.below k2 r4.lt
  have s25 : Row w3 (w.heap.size + 1 + 1 + 1 + 1 + 1) 32 #[.int .i64 0, .int .i64 0, .string ⟨#[]⟩, .string ⟨#[]⟩] := r5.below k2 r5.lt
  have b2 : Below w.heap.size w w3 := hb.trans (k2.mono hb.size)
  clear k2 r0 r1 r2 r3 r4 r5 hb
  have l20 := s20.lt
  have c200 : w3.cell? ⟨w.heap.size, 0, none⟩ = some (.string leaf) := s20.cell 0
  have c201 : w3.cell? ⟨w.heap.size, 1, none⟩ = some (.int .i64 d) := s20.cell 1
  have c202 : w3.cell? ⟨w.heap.size, 2, none⟩ = some (.string pt) := s20.cell 2
  have f202 : w3.frozen? ⟨w.heap.size, 2, none⟩ = false := s20.free 2
  have l21 := s21.lt
  have c210 : w3.cell? ⟨w.heap.size + 1, 0, none⟩ = some (.int .i64 hs) := s21.cell 0
  have c211 : w3.cell? ⟨w.heap.size + 1, 1, none⟩ = some (.int .i64 hk) := s21.cell 1
  have c212 : w3.cell? ⟨w.heap.size + 1, 2, none⟩ = some (.string hr) := s21.cell 2
  have c213 : w3.cell? ⟨w.heap.size + 1, 3, none⟩ = some (.string ht) := s21.cell 3
  have f213 : w3.frozen? ⟨w.heap.size + 1, 3, none⟩ = false := s21.free 3
  have l22 := s22.lt
  have c220 : w3.cell? ⟨w.heap.size + 1 + 1, 0, none⟩ = some (.int .i64 gs) := s22.cell 0
  have c221 : w3.cell? ⟨w.heap.size + 1 + 1, 1, none⟩ = some (.int .i64 gk) := s22.cell 1
  have c222 : w3.cell? ⟨w.heap.size + 1 + 1, 2, none⟩ = some (.string gr) := s22.cell 2
  have c223 : w3.cell? ⟨w.heap.size + 1 + 1, 3, none⟩ = some (.string gt) := s22.cell 3
  have f223 : w3.frozen? ⟨w.heap.size + 1 + 1, 3, none⟩ = false := s22.free 3
  have l23 := s23.lt
  have c230 : w3.cell? ⟨w.heap.size + 1 + 1 + 1, 0, none⟩ = some (.string ⟨#[]⟩) := s23.cell 0
  have f230 : w3.frozen? ⟨w.heap.size + 1 + 1 + 1, 0, none⟩ = false := s23.free 0
  have c231 : w3.cell? ⟨w.heap.size + 1 + 1 + 1, 1, none⟩ = some (.int .i64 0) := s23.cell 1
  have f231 : w3.frozen? ⟨w.heap.size + 1 + 1 + 1, 1, none⟩ = false := s23.free 1
  have c232 : w3.cell? ⟨w.heap.size + 1 + 1 + 1, 2, none⟩ = some (.string ⟨#[]⟩) := s23.cell 2
  have f232 : w3.frozen? ⟨w.heap.size + 1 + 1 + 1, 2, none⟩ = false := s23.free 2
  have l24 := s24.lt
  have c240 : w3.cell? ⟨w.heap.size + 1 + 1 + 1 + 1, 0, none⟩ = some (.int .i64 0) := s24.cell 0
  have f240 : w3.frozen? ⟨w.heap.size + 1 + 1 + 1 + 1, 0, none⟩ = false := s24.free 0
  have c241 : w3.cell? ⟨w.heap.size + 1 + 1 + 1 + 1, 1, none⟩ = some (.int .i64 0) := s24.cell 1
  have f241 : w3.frozen? ⟨w.heap.size + 1 + 1 + 1 + 1, 1, none⟩ = false := s24.free 1
  have c242 : w3.cell? ⟨w.heap.size + 1 + 1 + 1 + 1, 2, none⟩ = some (.string ⟨#[]⟩) := s24.cell 2
  have f242 : w3.frozen? ⟨w.heap.size + 1 + 1 + 1 + 1, 2, none⟩ = false := s24.free 2
  have c243 : w3.cell? ⟨w.heap.size + 1 + 1 + 1 + 1, 3, none⟩ = some (.string ⟨#[]⟩) := s24.cell 3
  have f243 : w3.frozen? ⟨w.heap.size + 1 + 1 + 1 + 1, 3, none⟩ = false := s24.free 3
  have l25 := s25.lt
  have c250 : w3.cell? ⟨w.heap.size + 1 + 1 + 1 + 1 + 1, 0, none⟩ = some (.int .i64 0) := s25.cell 0
  have f250 : w3.frozen? ⟨w.heap.size + 1 + 1 + 1 + 1 + 1, 0, none⟩ = false := s25.free 0
  have c251 : w3.cell? ⟨w.heap.size + 1 + 1 + 1 + 1 + 1, 1, none⟩ = some (.int .i64 0) := s25.cell 1
  have f251 : w3.frozen? ⟨w.heap.size + 1 + 1 + 1 + 1 + 1, 1, none⟩ = false := s25.free 1
  have c252 : w3.cell? ⟨w.heap.size + 1 + 1 + 1 + 1 + 1, 2, none⟩ = some (.string ⟨#[]⟩) := s25.cell 2
  have f252 : w3.frozen? ⟨w.heap.size + 1 + 1 + 1 + 1 + 1, 2, none⟩ = false := s25.free 2
  have c253 : w3.cell? ⟨w.heap.size + 1 + 1 + 1 + 1 + 1, 3, none⟩ = some (.string ⟨#[]⟩) := s25.cell 3
  have f253 : w3.frozen? ⟨w.heap.size + 1 + 1 + 1 + 1 + 1, 3, none⟩ = false := s25.free 3
  have r20 : Row (w3.setCell ⟨w.heap.size + 1 + 1, 3, none⟩ (.string Z)) (w.heap.size) 30 #[.string leaf, .int .i64 d, .string pt] := s20.other (a := ⟨w.heap.size + 1 + 1, 3, none⟩) (by show w.heap.size ≠ w.heap.size + 1 + 1; omega) _
  have r21 : Row (w3.setCell ⟨w.heap.size + 1 + 1, 3, none⟩ (.string Z)) (w.heap.size + 1) 32 #[.int .i64 hs, .int .i64 hk, .string hr, .string ht] := s21.other (a := ⟨w.heap.size + 1 + 1, 3, none⟩) (by show w.heap.size + 1 ≠ w.heap.size + 1 + 1; omega) _
  have r22 : Row (w3.setCell ⟨w.heap.size + 1 + 1, 3, none⟩ (.string Z)) (w.heap.size + 1 + 1) 32 #[.int .i64 gs, .int .i64 gk, .string gr, .string Z] := s22.setCell 3 (.string Z)
  have r23 : Row (w3.setCell ⟨w.heap.size + 1 + 1, 3, none⟩ (.string Z)) (w.heap.size + 1 + 1 + 1) 30 #[.string ⟨#[]⟩, .int .i64 0, .string ⟨#[]⟩] := s23.other (a := ⟨w.heap.size + 1 + 1, 3, none⟩) (by show w.heap.size + 1 + 1 + 1 ≠ w.heap.size + 1 + 1; omega) _
  have r24 : Row (w3.setCell ⟨w.heap.size + 1 + 1, 3, none⟩ (.string Z)) (w.heap.size + 1 + 1 + 1 + 1) 32 #[.int .i64 0, .int .i64 0, .string ⟨#[]⟩, .string ⟨#[]⟩] := s24.other (a := ⟨w.heap.size + 1 + 1, 3, none⟩) (by show w.heap.size + 1 + 1 + 1 + 1 ≠ w.heap.size + 1 + 1; omega) _
  have r25 : Row (w3.setCell ⟨w.heap.size + 1 + 1, 3, none⟩ (.string Z)) (w.heap.size + 1 + 1 + 1 + 1 + 1) 32 #[.int .i64 0, .int .i64 0, .string ⟨#[]⟩, .string ⟨#[]⟩] := s25.other (a := ⟨w.heap.size + 1 + 1, 3, none⟩) (by show w.heap.size + 1 + 1 + 1 + 1 + 1 ≠ w.heap.size + 1 + 1; omega) _
  have d2 : Below w.heap.size w (w3.setCell ⟨w.heap.size + 1 + 1, 3, none⟩ (.string Z)) := b2.setCell (p := ⟨w.heap.size + 1 + 1, 3, none⟩) (by show w.heap.size ≤ w.heap.size + 1 + 1; omega) _
  clear b2 s20 s21 s22 s23 s24 s25
  have z3 := ((r23.three (.string leaf) (.int .i64 d) (.string pt)).other4 (show w.heap.size + 1 + 1 + 1 ≠ w.heap.size + 1 + 1 + 1 + 1 by omega) (.int .i64 hs) (.int .i64 hk) (.string hr) (.string ht)).other4 (show w.heap.size + 1 + 1 + 1 ≠ w.heap.size + 1 + 1 + 1 + 1 + 1 by omega) (.int .i64 gs) (.int .i64 gk) (.string gr) (.string Z)
  have z4 := ((r24.other3 (show w.heap.size + 1 + 1 + 1 + 1 ≠ w.heap.size + 1 + 1 + 1 by omega) (.string leaf) (.int .i64 d) (.string pt)).four (.int .i64 hs) (.int .i64 hk) (.string hr) (.string ht)).other4 (show w.heap.size + 1 + 1 + 1 + 1 ≠ w.heap.size + 1 + 1 + 1 + 1 + 1 by omega) (.int .i64 gs) (.int .i64 gk) (.string gr) (.string Z)
  have z5 := ((r25.other3 (show w.heap.size + 1 + 1 + 1 + 1 + 1 ≠ w.heap.size + 1 + 1 + 1 by omega) (.string leaf) (.int .i64 d) (.string pt)).other4 (show w.heap.size + 1 + 1 + 1 + 1 + 1 ≠ w.heap.size + 1 + 1 + 1 + 1 by omega) (.int .i64 hs) (.int .i64 hk) (.string hr) (.string ht)).four (.int .i64 gs) (.int .i64 gk) (.string gr) (.string Z)
  have zb := bel_set4 (bel_set4 (bel_set3 d2 (show w.heap.size ≤ w.heap.size + 1 + 1 + 1 by omega) (.string leaf) (.int .i64 d) (.string pt)) (show w.heap.size ≤ w.heap.size + 1 + 1 + 1 + 1 by omega) (.int .i64 hs) (.int .i64 hk) (.string hr) (.string ht)) (show w.heap.size ≤ w.heap.size + 1 + 1 + 1 + 1 + 1 by omega) (.int .i64 gs) (.int .i64 gk) (.string gr) (.string Z)
  clear r20 r21 r22 r23 r24 r25 d2
  have Z3 := hidden z3
  have Z4 := hidden z4
  have Z5 := hidden z5
  have ZB := hidden zb
  clear z3 z4 z5 zb
  go_wp2_with fail
  go_region
  go_wp2
  refine bodyPost_ret (results_signed rfl _ _ (w.heap.size + 1 + 1 + 1) (w.heap.size + 1 + 1 + 1 + 1) (w.heap.size + 1 + 1 + 1 + 1 + 1) (.string leaf) (.int .i64 d) (.string pt) (.int .i64 hs) (.int .i64 hk) (.string hr) (.string ht) (.int .i64 gs) (.int .i64 gk) (.string gr) (.string Z) rfl rfl rfl Z3.out.drew Z4.out.drew Z5.out.drew) rfl ?_
  exact ⟨rfl, ZB.out.drew⟩
set_option maxHeartbeats 4000000 in
theorem signed_fff (key leaf pt hr ht gr gt : ByteArray) (d hs hk gs gk how : Int) (w : World)
    (c0 : (how.tmod 2 == 0) = false) (c1 : ((wrap64 (how.tdiv 2)).tmod 2 == 0) = false) (c2 : ((wrap64 (how.tdiv 4)).tmod 2 == 0) = false) :
    Calls Tryd.prog 17 #[.string key, .agg #[.string leaf, .int .i64 d, .string pt], .agg #[.int .i64 hs, .int .i64 hk, .string hr, .string ht], .agg #[.int .i64 gs, .int .i64 gk, .string gr, .string gt], .int .i64 how] w fun r w' => r = .returned (.tuple #[.agg #[.string leaf, .int .i64 d, .string pt], .agg #[.int .i64 hs, .int .i64 hk, .string hr, .string ht], .agg #[.int .i64 gs, .int .i64 gk, .string gr, .string gt]]) ∧ Below w.heap.size w w' := by
  have z3 : Row ((((((w.alloc (.cells #[.string leaf, .int .i64 d, .string pt] 30)).alloc (.cells #[.int .i64 hs, .int .i64 hk, .string hr, .string ht] 32)).alloc (.cells #[.int .i64 gs, .int .i64 gk, .string gr, .string gt] 32)).alloc (.cells #[.string leaf, .int .i64 d, .string pt] 30)).alloc (.cells #[.int .i64 hs, .int .i64 hk, .string hr, .string ht] 32)).alloc (.cells #[.int .i64 gs, .int .i64 gk, .string gr, .string gt] 32)) (w.heap.size + 1 + 1 + 1) 30 #[.string leaf, .int .i64 d, .string pt] := (((Row.newAt _ _ _ _ (by simp)).alloc _).alloc _)
  have z4 : Row ((((((w.alloc (.cells #[.string leaf, .int .i64 d, .string pt] 30)).alloc (.cells #[.int .i64 hs, .int .i64 hk, .string hr, .string ht] 32)).alloc (.cells #[.int .i64 gs, .int .i64 gk, .string gr, .string gt] 32)).alloc (.cells #[.string leaf, .int .i64 d, .string pt] 30)).alloc (.cells #[.int .i64 hs, .int .i64 hk, .string hr, .string ht] 32)).alloc (.cells #[.int .i64 gs, .int .i64 gk, .string gr, .string gt] 32)) (w.heap.size + 1 + 1 + 1 + 1) 32 #[.int .i64 hs, .int .i64 hk, .string hr, .string ht] := ((Row.newAt _ _ _ _ (by simp)).alloc _)
  have z5 : Row ((((((w.alloc (.cells #[.string leaf, .int .i64 d, .string pt] 30)).alloc (.cells #[.int .i64 hs, .int .i64 hk, .string hr, .string ht] 32)).alloc (.cells #[.int .i64 gs, .int .i64 gk, .string gr, .string gt] 32)).alloc (.cells #[.string leaf, .int .i64 d, .string pt] 30)).alloc (.cells #[.int .i64 hs, .int .i64 hk, .string hr, .string ht] 32)).alloc (.cells #[.int .i64 gs, .int .i64 gk, .string gr, .string gt] 32)) (w.heap.size + 1 + 1 + 1 + 1 + 1) 32 #[.int .i64 gs, .int .i64 gk, .string gr, .string gt] := (Row.newAt _ _ _ _ (by simp))
  have zb : Below w.heap.size w ((((((w.alloc (.cells #[.string leaf, .int .i64 d, .string pt] 30)).alloc (.cells #[.int .i64 hs, .int .i64 hk, .string hr, .string ht] 32)).alloc (.cells #[.int .i64 gs, .int .i64 gk, .string gr, .string gt] 32)).alloc (.cells #[.string leaf, .int .i64 d, .string pt] 30)).alloc (.cells #[.int .i64 hs, .int .i64 hk, .string hr, .string ht] 32)).alloc (.cells #[.int .i64 gs, .int .i64 gk, .string gr, .string gt] 32)) := (((((((Below.refl _ _).alloc (by first | (simp; done) | (simp; omega)) _).alloc (by first | (simp; done) | (simp; omega)) _).alloc (by first | (simp; done) | (simp; omega)) _).alloc (by first | (simp; done) | (simp; omega)) _).alloc (by first | (simp; done) | (simp; omega)) _).alloc (by first | (simp; done) | (simp; omega)) _)
  have Z3 := hidden z3
  have Z4 := hidden z4
  have Z5 := hidden z5
  have ZB := hidden zb
  clear z3 z4 z5 zb
  go_enter Tryd.func17, Tryd.ntmps17
  go_wp2_with fail
  go_region
  go_wp2
  refine bodyPost_ret (results_signed rfl _ _ (w.heap.size + 1 + 1 + 1) (w.heap.size + 1 + 1 + 1 + 1) (w.heap.size + 1 + 1 + 1 + 1 + 1) (.string leaf) (.int .i64 d) (.string pt) (.int .i64 hs) (.int .i64 hk) (.string hr) (.string ht) (.int .i64 gs) (.int .i64 gk) (.string gr) (.string gt) rfl rfl rfl Z3.out.drew Z4.out.drew Z5.out.drew) rfl ?_
  exact ⟨rfl, ZB.out.drew⟩
end Go.Proofs.YtoanekgphcijfaaDoor
