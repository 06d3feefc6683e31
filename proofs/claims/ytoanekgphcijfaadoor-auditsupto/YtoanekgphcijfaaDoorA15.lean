import Derived.Test.YtoanekgphcijfaaDoorA14a
import Derived.Deep.RegionWith
namespace Go.Proofs.YtoanekgphcijfaaDoor
open Go.RowKit
open Sha

set_option maxHeartbeats 8000000 in
theorem audits_walk (ss : List ByteArray) (n : Nat) (key leaf pt hr ht gr gt x y nd X Y Z : ByteArray) (fa : ByteArray → ByteArray → Int) (fc : ByteArray → ByteArray → Int) (d hs hk gs gk how index : Int) (ao : Option Addr) (cap : Nat) (w : World)
    (HS : Hid (∀ wx, Calls Tryd.prog 17 #[.string key, .agg #[.string leaf, .int .i64 d, .string pt], .agg #[.int .i64 hs, .int .i64 hk, .string hr, .string ht], .agg #[.int .i64 gs, .int .i64 gk, .string gr, .string gt], .int .i64 how] wx fun r w' => ∃ a b c, r = .returned (.tuple #[.agg #[.string leaf, .int .i64 d, .string a], .agg #[.int .i64 hs, .int .i64 hk, .string hr, .string b], .agg #[.int .i64 gs, .int .i64 gk, .string gr, .string c]]) ∧ Below wx.heap.size wx w'))
    (HR : Hid (∀ wx, Below w.heap.size w wx → Calls Tryd.prog 10 #[.slice ao n cap] wx fun r w' => ∃ ao' cap', r = .returned (.slice ao' n cap') ∧ Roomed ss ao ao' cap' w' ∧ Below wx.heap.size wx w'))
    (HA : Hid (∀ wx a b ao' cap', Roomed ss ao ao' cap' wx → Tab wx → 0 < wx.heap.size → Calls Tryd.prog 18 #[.string key, .agg #[.string leaf, .int .i64 d, .string a], .agg #[.int .i64 hs, .int .i64 hk, .string hr, .string b], .int .i64 index, .slice ao' n cap'] wx fun r w' => r = .returned (.int .i64 (fa a b)) ∧ Below wx.heap.size wx w'))
    (HC : Hid (∀ wx b c ao' cap', Roomed ss ao ao' cap' wx → Tab wx → 0 < wx.heap.size → Calls Tryd.prog 19 #[.string key, .agg #[.int .i64 gs, .int .i64 gk, .string gr, .string c], .agg #[.int .i64 hs, .int .i64 hk, .string hr, .string b], .slice ao' n cap'] wx fun r w' => r = .returned (.int .i64 (fc b c)) ∧ Below wx.heap.size wx w'))
    (HW : Hid (∀ wx ao' cap', Below w.heap.size w wx → Roomed ss ao ao' cap' wx → Calls Tryd.prog 12 #[.slice ao' n cap', .slice ao n cap] wx fun r w' => r = .returned (.bool true) ∧ Below wx.heap.size wx w'))
    (HAr : Hid (∀ wx a b, Below w.heap.size w wx → Calls Tryd.prog 20 #[.string key, .agg #[.string leaf, .int .i64 d, .string a], .agg #[.int .i64 hs, .int .i64 hk, .string hr, .string b], .int .i64 index, .slice ao n cap] wx fun r w' => r = .returned (.int .i64 (fa a b)) ∧ Below wx.heap.size wx w'))
    (HCr : Hid (∀ wx b c, Below w.heap.size w wx → Calls Tryd.prog 21 #[.string key, .agg #[.int .i64 gs, .int .i64 gk, .string gr, .string c], .agg #[.int .i64 hs, .int .i64 hk, .string hr, .string b], .slice ao n cap] wx fun r w' => r = .returned (.int .i64 (fc b c)) ∧ Below wx.heap.size wx w'))
    (HX : Hid (∀ wx, Calls Tryd.prog 14 #[.string ⟨#[120]⟩] wx fun r w' => r = .returned (.string x) ∧ Below wx.heap.size wx w'))
    (HY : Hid (∀ wx, Calls Tryd.prog 14 #[.string ⟨#[121]⟩] wx fun r w' => r = .returned (.string y) ∧ Below wx.heap.size wx w'))
    (HN : Hid (∀ wx, Calls Tryd.prog 22 #[.string x, .string y] wx fun r w' => r = .returned (.string nd) ∧ Below wx.heap.size wx w'))
    (HS0 : Hid (∀ wx, Calls Tryd.prog 17 #[.string key, .agg #[.string y, .int .i64 3, .string ⟨#[]⟩], .agg #[.int .i64 2, .int .i64 1, .string nd, .string ⟨#[]⟩], .agg #[.int .i64 1, .int .i64 0, .string x, .string ⟨#[]⟩], .int .i64 0] wx fun r w' => r = .returned (.tuple #[.agg #[.string y, .int .i64 3, .string X], .agg #[.int .i64 2, .int .i64 1, .string nd, .string Y], .agg #[.int .i64 1, .int .i64 0, .string x, .string Z]]) ∧ Below wx.heap.size wx w'))
    (HA2 : Hid (∀ wx g, wx.cell? ⟨g, 0, none⟩ = some (.string x) → g < wx.heap.size → Tab wx → 0 < wx.heap.size → Calls Tryd.prog 18 #[.string key, .agg #[.string y, .int .i64 3, .string X], .agg #[.int .i64 2, .int .i64 1, .string nd, .string Y], .int .i64 1, .slice (some ⟨g, 0, none⟩) 1 1] wx fun r w' => r = .returned (.int .i64 1) ∧ Below wx.heap.size wx w'))
    (HC2 : Hid (∀ wx g, wx.cell? ⟨g, 0, none⟩ = some (.string y) → g < wx.heap.size → Tab wx → 0 < wx.heap.size → Calls Tryd.prog 19 #[.string key, .agg #[.int .i64 1, .int .i64 0, .string x, .string Z], .agg #[.int .i64 2, .int .i64 1, .string nd, .string Y], .slice (some ⟨g, 0, none⟩) 1 1] wx fun r w' => r = .returned (.int .i64 1) ∧ Below wx.heap.size wx w'))
    (hK : Tab w) (h0 : 0 < w.heap.size) :
    Calls Tryd.prog 4 #[.string key, .agg #[.string leaf, .int .i64 d, .string pt], .agg #[.int .i64 hs, .int .i64 hk, .string hr, .string ht], .agg #[.int .i64 gs, .int .i64 gk, .string gr, .string gt], .int .i64 how, .int .i64 index, .slice ao n cap] w fun r w' => r = .returned (.bool true) ∧ Below w.heap.size w w' := by
  have q0 : Row (((w.alloc (.cells #[.string leaf, .int .i64 d, .string pt] 30)).alloc (.cells #[.int .i64 hs, .int .i64 hk, .string hr, .string ht] 32)).alloc (.cells #[.int .i64 gs, .int .i64 gk, .string gr, .string gt] 32)) (w.heap.size) 30 #[.string leaf, .int .i64 d, .string pt] := (((Row.newAt _ _ _ _ (by simp)).alloc _).alloc _)
  have q1 : Row (((w.alloc (.cells #[.string leaf, .int .i64 d, .string pt] 30)).alloc (.cells #[.int .i64 hs, .int .i64 hk, .string hr, .string ht] 32)).alloc (.cells #[.int .i64 gs, .int .i64 gk, .string gr, .string gt] 32)) (w.heap.size + 1) 32 #[.int .i64 hs, .int .i64 hk, .string hr, .string ht] := ((Row.newAt _ _ _ _ (by simp)).alloc _)
  have q2 : Row (((w.alloc (.cells #[.string leaf, .int .i64 d, .string pt] 30)).alloc (.cells #[.int .i64 hs, .int .i64 hk, .string hr, .string ht] 32)).alloc (.cells #[.int .i64 gs, .int .i64 gk, .string gr, .string gt] 32)) (w.heap.size + 1 + 1) 32 #[.int .i64 gs, .int .i64 gk, .string gr, .string gt] := (Row.newAt _ _ _ _ (by simp))
  have hb : Below w.heap.size w (((w.alloc (.cells #[.string leaf, .int .i64 d, .string pt] 30)).alloc (.cells #[.int .i64 hs, .int .i64 hk, .string hr, .string ht] 32)).alloc (.cells #[.int .i64 gs, .int .i64 gk, .string gr, .string gt] 32)) := ((((Below.refl _ _)).alloc (Nat.le_refl _) _).alloc (by simp) _).alloc (by first | (simp; done) | (simp; omega)) _
  go_enter Tryd.func4, Tryd.ntmps4
  go_wp2_with fail
  refine (HS.out _).mono ?_
  rintro e w1 ⟨a, b, c, rfl, k1⟩
  have s0 : Row w1 (w.heap.size) 30 #[.string leaf, .int .i64 d, .string pt] := q0.below k1 q0.lt
  have s1 : Row w1 (w.heap.size + 1) 32 #[.int .i64 hs, .int .i64 hk, .string hr, .string ht] := q1.below k1 q1.lt
  have s2 : Row w1 (w.heap.size + 1 + 1) 32 #[.int .i64 gs, .int .i64 gk, .string gr, .string gt] := q2.below k1 q2.lt
  have b1 : Below w.heap.size w w1 := hb.trans (k1.mono hb.size)
  clear k1 q0 q1 q2 hb
  have alt0 := s0.lt
  have a00 : w1.cell? ⟨w.heap.size, 0, none⟩ = some (.string leaf) := s0.cell 0
  have af00 : w1.frozen? ⟨w.heap.size, 0, none⟩ = false := s0.free 0
  have a01 : w1.cell? ⟨w.heap.size, 1, none⟩ = some (.int .i64 d) := s0.cell 1
  have af01 : w1.frozen? ⟨w.heap.size, 1, none⟩ = false := s0.free 1
  have a02 : w1.cell? ⟨w.heap.size, 2, none⟩ = some (.string pt) := s0.cell 2
  have af02 : w1.frozen? ⟨w.heap.size, 2, none⟩ = false := s0.free 2
  have alt1 := s1.lt
  have a10 : w1.cell? ⟨w.heap.size + 1, 0, none⟩ = some (.int .i64 hs) := s1.cell 0
  have af10 : w1.frozen? ⟨w.heap.size + 1, 0, none⟩ = false := s1.free 0
  have a11 : w1.cell? ⟨w.heap.size + 1, 1, none⟩ = some (.int .i64 hk) := s1.cell 1
  have af11 : w1.frozen? ⟨w.heap.size + 1, 1, none⟩ = false := s1.free 1
  have a12 : w1.cell? ⟨w.heap.size + 1, 2, none⟩ = some (.string hr) := s1.cell 2
  have af12 : w1.frozen? ⟨w.heap.size + 1, 2, none⟩ = false := s1.free 2
  have a13 : w1.cell? ⟨w.heap.size + 1, 3, none⟩ = some (.string ht) := s1.cell 3
  have af13 : w1.frozen? ⟨w.heap.size + 1, 3, none⟩ = false := s1.free 3
  have alt2 := s2.lt
  have a20 : w1.cell? ⟨w.heap.size + 1 + 1, 0, none⟩ = some (.int .i64 gs) := s2.cell 0
  have af20 : w1.frozen? ⟨w.heap.size + 1 + 1, 0, none⟩ = false := s2.free 0
  have a21 : w1.cell? ⟨w.heap.size + 1 + 1, 1, none⟩ = some (.int .i64 gk) := s2.cell 1
  have af21 : w1.frozen? ⟨w.heap.size + 1 + 1, 1, none⟩ = false := s2.free 1
  have a22 : w1.cell? ⟨w.heap.size + 1 + 1, 2, none⟩ = some (.string gr) := s2.cell 2
  have af22 : w1.frozen? ⟨w.heap.size + 1 + 1, 2, none⟩ = false := s2.free 2
  have a23 : w1.cell? ⟨w.heap.size + 1 + 1, 3, none⟩ = some (.string gt) := s2.cell 3
  have af23 : w1.frozen? ⟨w.heap.size + 1 + 1, 3, none⟩ = false := s2.free 3
  have r0 := ((s0.three (.string leaf) (.int .i64 d) (.string a)).other4 (show w.heap.size ≠ w.heap.size + 1 by omega) (.int .i64 hs) (.int .i64 hk) (.string hr) (.string b)).other4 (show w.heap.size ≠ w.heap.size + 1 + 1 by omega) (.int .i64 gs) (.int .i64 gk) (.string gr) (.string c)
  have r1 := ((s1.other3 (show w.heap.size + 1 ≠ w.heap.size by omega) (.string leaf) (.int .i64 d) (.string a)).four (.int .i64 hs) (.int .i64 hk) (.string hr) (.string b)).other4 (show w.heap.size + 1 ≠ w.heap.size + 1 + 1 by omega) (.int .i64 gs) (.int .i64 gk) (.string gr) (.string c)
  have r2 := ((s2.other3 (show w.heap.size + 1 + 1 ≠ w.heap.size by omega) (.string leaf) (.int .i64 d) (.string a)).other4 (show w.heap.size + 1 + 1 ≠ w.heap.size + 1 by omega) (.int .i64 hs) (.int .i64 hk) (.string hr) (.string b)).four (.int .i64 gs) (.int .i64 gk) (.string gr) (.string c)
  have hbV := bel_set4 (bel_set4 (bel_set3 b1 (show w.heap.size ≤ w.heap.size by omega) (.string leaf) (.int .i64 d) (.string a)) (show w.heap.size ≤ w.heap.size + 1 by omega) (.int .i64 hs) (.int .i64 hk) (.string hr) (.string b)) (show w.heap.size ≤ w.heap.size + 1 + 1 by omega) (.int .i64 gs) (.int .i64 gk) (.string gr) (.string c)
  clear s0 s1 s2 b1
  have R0 := hidden r0
  have R1 := hidden r1
  have R2 := hidden r2
  have HB := hidden hbV
  clear r0 r1 r2 hbV
  go_wp2_with fail
  refine (HR.out _ HB.out).mono ?_
  rintro e w2 ⟨ao', cap', rfl, ro2, k2⟩
  clear alt0 a00 af00 a01 af01 a02 af02 alt1 a10 af10 a11 af11 a12 af12 a13 af13 alt2 a20 af20 a21 af21 a22 af22 a23 af23
  have t0 : Row w2 (w.heap.size) 30 #[.string leaf, .int .i64 d, .string a] := R0.out.below k2 R0.out.lt
  have t1 : Row w2 (w.heap.size + 1) 32 #[.int .i64 hs, .int .i64 hk, .string hr, .string b] := R1.out.below k2 R1.out.lt
  have t2 : Row w2 (w.heap.size + 1 + 1) 32 #[.int .i64 gs, .int .i64 gk, .string gr, .string c] := R2.out.below k2 R2.out.lt
  have b2 : Below w.heap.size w w2 := HB.out.trans (k2.mono HB.out.size)
  clear k2 R0 R1 R2 HB
  have blt0 := t0.lt
  have b00 : w2.cell? ⟨w.heap.size, 0, none⟩ = some (.string leaf) := t0.cell 0
  have b01 : w2.cell? ⟨w.heap.size, 1, none⟩ = some (.int .i64 d) := t0.cell 1
  have b02 : w2.cell? ⟨w.heap.size, 2, none⟩ = some (.string a) := t0.cell 2
  have blt1 := t1.lt
  have b10 : w2.cell? ⟨w.heap.size + 1, 0, none⟩ = some (.int .i64 hs) := t1.cell 0
  have b11 : w2.cell? ⟨w.heap.size + 1, 1, none⟩ = some (.int .i64 hk) := t1.cell 1
  have b12 : w2.cell? ⟨w.heap.size + 1, 2, none⟩ = some (.string hr) := t1.cell 2
  have b13 : w2.cell? ⟨w.heap.size + 1, 3, none⟩ = some (.string b) := t1.cell 3
  have blt2 := t2.lt
  have b20 : w2.cell? ⟨w.heap.size + 1 + 1, 0, none⟩ = some (.int .i64 gs) := t2.cell 0
  have b21 : w2.cell? ⟨w.heap.size + 1 + 1, 1, none⟩ = some (.int .i64 gk) := t2.cell 1
  have b22 : w2.cell? ⟨w.heap.size + 1 + 1, 2, none⟩ = some (.string gr) := t2.cell 2
  have b23 : w2.cell? ⟨w.heap.size + 1 + 1, 3, none⟩ = some (.string c) := t2.cell 3
  have KT : Hid (Tab w) := hK
  clear hK
  go_wp2_with fail
  refine (HA.out w2 a b ao' cap' ro2 (KT.out.below b2 h0) (Nat.lt_of_lt_of_le h0 b2.size)).mono ?_
  rintro e w3 ⟨rfl, k3⟩
  clear blt0 b00 b01 b02 blt1 b10 b11 b12 b13 blt2 b20 b21 b22 b23
  have u0 : Row w3 (w.heap.size) 30 #[.string leaf, .int .i64 d, .string a] := t0.below k3 t0.lt
  have u1 : Row w3 (w.heap.size + 1) 32 #[.int .i64 hs, .int .i64 hk, .string hr, .string b] := t1.below k3 t1.lt
  have u2 : Row w3 (w.heap.size + 1 + 1) 32 #[.int .i64 gs, .int .i64 gk, .string gr, .string c] := t2.below k3 t2.lt
  have ro3 := ro2.below k3
  have b3 : Below w.heap.size w w3 := b2.trans (k3.mono b2.size)
  clear k3 t0 t1 t2 b2 ro2
  have clt0 := u0.lt
  have c00 : w3.cell? ⟨w.heap.size, 0, none⟩ = some (.string leaf) := u0.cell 0
  have c01 : w3.cell? ⟨w.heap.size, 1, none⟩ = some (.int .i64 d) := u0.cell 1
  have c02 : w3.cell? ⟨w.heap.size, 2, none⟩ = some (.string a) := u0.cell 2
  have clt1 := u1.lt
  have c10 : w3.cell? ⟨w.heap.size + 1, 0, none⟩ = some (.int .i64 hs) := u1.cell 0
  have c11 : w3.cell? ⟨w.heap.size + 1, 1, none⟩ = some (.int .i64 hk) := u1.cell 1
  have c12 : w3.cell? ⟨w.heap.size + 1, 2, none⟩ = some (.string hr) := u1.cell 2
  have c13 : w3.cell? ⟨w.heap.size + 1, 3, none⟩ = some (.string b) := u1.cell 3
  have clt2 := u2.lt
  have c20 : w3.cell? ⟨w.heap.size + 1 + 1, 0, none⟩ = some (.int .i64 gs) := u2.cell 0
  have c21 : w3.cell? ⟨w.heap.size + 1 + 1, 1, none⟩ = some (.int .i64 gk) := u2.cell 1
  have c22 : w3.cell? ⟨w.heap.size + 1 + 1, 2, none⟩ = some (.string gr) := u2.cell 2
  have c23 : w3.cell? ⟨w.heap.size + 1 + 1, 3, none⟩ = some (.string c) := u2.cell 3
  go_wp2_with fail
  refine (HC.out w3 b c ao' cap' ro3 (KT.out.below b3 h0) (Nat.lt_of_lt_of_le h0 b3.size)).mono ?_
  rintro e w4 ⟨rfl, k4⟩
  clear clt0 c00 c01 c02 clt1 c10 c11 c12 c13 clt2 c20 c21 c22 c23
  have v0 : Row w4 (w.heap.size) 30 #[.string leaf, .int .i64 d, .string a] := u0.below k4 u0.lt
  have v1 : Row w4 (w.heap.size + 1) 32 #[.int .i64 hs, .int .i64 hk, .string hr, .string b] := u1.below k4 u1.lt
  have v2 : Row w4 (w.heap.size + 1 + 1) 32 #[.int .i64 gs, .int .i64 gk, .string gr, .string c] := u2.below k4 u2.lt
  have ro4 := ro3.below k4
  have b4 : Below w.heap.size w w4 := b3.trans (k4.mono b3.size)
  clear k4 u0 u1 u2 b3 ro3
  go_wp2_with fail
  refine (HW.out w4 ao' cap' b4 ro4).mono ?_
  rintro e w5 ⟨rfl, k5⟩
  have p0 : Row w5 (w.heap.size) 30 #[.string leaf, .int .i64 d, .string a] := v0.below k5 v0.lt
  have p1 : Row w5 (w.heap.size + 1) 32 #[.int .i64 hs, .int .i64 hk, .string hr, .string b] := v1.below k5 v1.lt
  have p2 : Row w5 (w.heap.size + 1 + 1) 32 #[.int .i64 gs, .int .i64 gk, .string gr, .string c] := v2.below k5 v2.lt
  have b5 : Below w.heap.size w w5 := b4.trans (k5.mono b4.size)
  clear k5 v0 v1 v2 b4 ro4
  have dlt0 := p0.lt
  have d00 : w5.cell? ⟨w.heap.size, 0, none⟩ = some (.string leaf) := p0.cell 0
  have d01 : w5.cell? ⟨w.heap.size, 1, none⟩ = some (.int .i64 d) := p0.cell 1
  have d02 : w5.cell? ⟨w.heap.size, 2, none⟩ = some (.string a) := p0.cell 2
  have dlt1 := p1.lt
  have d10 : w5.cell? ⟨w.heap.size + 1, 0, none⟩ = some (.int .i64 hs) := p1.cell 0
  have d11 : w5.cell? ⟨w.heap.size + 1, 1, none⟩ = some (.int .i64 hk) := p1.cell 1
  have d12 : w5.cell? ⟨w.heap.size + 1, 2, none⟩ = some (.string hr) := p1.cell 2
  have d13 : w5.cell? ⟨w.heap.size + 1, 3, none⟩ = some (.string b) := p1.cell 3
  have dlt2 := p2.lt
  have d20 : w5.cell? ⟨w.heap.size + 1 + 1, 0, none⟩ = some (.int .i64 gs) := p2.cell 0
  have d21 : w5.cell? ⟨w.heap.size + 1 + 1, 1, none⟩ = some (.int .i64 gk) := p2.cell 1
  have d22 : w5.cell? ⟨w.heap.size + 1 + 1, 2, none⟩ = some (.string gr) := p2.cell 2
  have d23 : w5.cell? ⟨w.heap.size + 1 + 1, 3, none⟩ = some (.string c) := p2.cell 3
  go_wp2_with fail
  refine (HAr.out w5 a b b5).mono ?_
  rintro e w6 ⟨rfl, k6⟩
  clear dlt0 d00 d01 d02 dlt1 d10 d11 d12 d13 dlt2 d20 d21 d22 d23
  have g0 : Row w6 (w.heap.size) 30 #[.string leaf, .int .i64 d, .string a] := p0.below k6 p0.lt
  have g1 : Row w6 (w.heap.size + 1) 32 #[.int .i64 hs, .int .i64 hk, .string hr, .string b] := p1.below k6 p1.lt
  have g2 : Row w6 (w.heap.size + 1 + 1) 32 #[.int .i64 gs, .int .i64 gk, .string gr, .string c] := p2.below k6 p2.lt
  have b6 : Below w.heap.size w w6 := b5.trans (k6.mono b5.size)
  clear k6 p0 p1 p2 b5
  have flt0 := g0.lt
  have f00 : w6.cell? ⟨w.heap.size, 0, none⟩ = some (.string leaf) := g0.cell 0
  have f01 : w6.cell? ⟨w.heap.size, 1, none⟩ = some (.int .i64 d) := g0.cell 1
  have f02 : w6.cell? ⟨w.heap.size, 2, none⟩ = some (.string a) := g0.cell 2
  have flt1 := g1.lt
  have f10 : w6.cell? ⟨w.heap.size + 1, 0, none⟩ = some (.int .i64 hs) := g1.cell 0
  have f11 : w6.cell? ⟨w.heap.size + 1, 1, none⟩ = some (.int .i64 hk) := g1.cell 1
  have f12 : w6.cell? ⟨w.heap.size + 1, 2, none⟩ = some (.string hr) := g1.cell 2
  have f13 : w6.cell? ⟨w.heap.size + 1, 3, none⟩ = some (.string b) := g1.cell 3
  have flt2 := g2.lt
  have f20 : w6.cell? ⟨w.heap.size + 1 + 1, 0, none⟩ = some (.int .i64 gs) := g2.cell 0
  have f21 : w6.cell? ⟨w.heap.size + 1 + 1, 1, none⟩ = some (.int .i64 gk) := g2.cell 1
  have f22 : w6.cell? ⟨w.heap.size + 1 + 1, 2, none⟩ = some (.string gr) := g2.cell 2
  have f23 : w6.cell? ⟨w.heap.size + 1 + 1, 3, none⟩ = some (.string c) := g2.cell 3
  go_wp2_with fail
  refine (HCr.out w6 b c b6).mono ?_
  rintro e w7 ⟨rfl, k7⟩
  have b7 : Below w.heap.size w w7 := b6.trans (k7.mono b6.size)
  clear k7 g0 g1 g2 b6 flt0 f00 f01 f02 flt1 f10 f11 f12 f13 flt2 f20 f21 f22 f23
  go_wp2_with fail
  refine (HX.out _).mono ?_
  rintro e w8 ⟨rfl, k8⟩
  have b8 : Below w.heap.size w w8 := b7.trans (k8.mono b7.size)
  clear k8 b7
  go_wp2_with fail
  refine (HY.out _).mono ?_
  rintro e w9 ⟨rfl, k9⟩
  have b9 : Below w.heap.size w w9 := b8.trans (k9.mono b8.size)
  clear k9 b8
  go_wp2_with fail
  refine (HN.out _).mono ?_
  rintro e w10 ⟨rfl, k10⟩
  have b10 : Below w.heap.size w w10 := b9.trans (k10.mono b9.size)
  clear k10 b9
  go_wp2_with fail
  refine (HS0.out _).mono ?_
  rintro e w11 ⟨rfl, k11⟩
  have b11 : Below w.heap.size w w11 := b10.trans (k11.mono b10.size)
  clear k11 b10
  go_wp2_with fail
  have j1 : Row ((((w11.alloc (.cells #[.string y, .int .i64 3, .string X] 30)).alloc (.cells #[.int .i64 2, .int .i64 1, .string nd, .string Y] 32)).alloc (.cells #[.int .i64 1, .int .i64 0, .string x, .string Z] 32)).alloc (.cells #[.string x] 9)) (w11.heap.size + 1) 32 #[.int .i64 2, .int .i64 1, .string nd, .string Y] := (((Row.newAt _ _ _ _ (by simp)).alloc _).alloc _)
  have j2 : Row ((((w11.alloc (.cells #[.string y, .int .i64 3, .string X] 30)).alloc (.cells #[.int .i64 2, .int .i64 1, .string nd, .string Y] 32)).alloc (.cells #[.int .i64 1, .int .i64 0, .string x, .string Z] 32)).alloc (.cells #[.string x] 9)) (w11.heap.size + 1 + 1) 32 #[.int .i64 1, .int .i64 0, .string x, .string Z] := ((Row.newAt _ _ _ _ (by simp)).alloc _)
  have j3 : Row ((((w11.alloc (.cells #[.string y, .int .i64 3, .string X] 30)).alloc (.cells #[.int .i64 2, .int .i64 1, .string nd, .string Y] 32)).alloc (.cells #[.int .i64 1, .int .i64 0, .string x, .string Z] 32)).alloc (.cells #[.string x] 9)) (w11.heap.size + 1 + 1 + 1) 9 #[.string x] := (Row.newAt _ _ _ _ (by simp))
  have hsz := b11.size
  have b12 : Below w.heap.size w ((((w11.alloc (.cells #[.string y, .int .i64 3, .string X] 30)).alloc (.cells #[.int .i64 2, .int .i64 1, .string nd, .string Y] 32)).alloc (.cells #[.int .i64 1, .int .i64 0, .string x, .string Z] 32)).alloc (.cells #[.string x] 9)) := (((b11.alloc hsz _).alloc (by simp; omega) _).alloc (by simp; omega) _).alloc (by simp; omega) _
  refine (HA2.out _ _ (j3.cell 0) j3.lt (KT.out.below b12 h0) (Nat.lt_of_lt_of_le h0 b12.size)).mono ?_
  rintro e w12 ⟨rfl, k12⟩
  have m1 : Row w12 (w11.heap.size + 1) 32 #[.int .i64 2, .int .i64 1, .string nd, .string Y] := j1.below k12 j1.lt
  have m2 : Row w12 (w11.heap.size + 1 + 1) 32 #[.int .i64 1, .int .i64 0, .string x, .string Z] := j2.below k12 j2.lt
  have b13 : Below w.heap.size w w12 := b12.trans (k12.mono b12.size)
  clear k12 j1 j2 j3 b12 b11 hsz
  have n10 : w12.cell? ⟨w11.heap.size + 1, 0, none⟩ = some (.int .i64 2) := m1.cell 0
  have n11 : w12.cell? ⟨w11.heap.size + 1, 1, none⟩ = some (.int .i64 1) := m1.cell 1
  have n12 : w12.cell? ⟨w11.heap.size + 1, 2, none⟩ = some (.string nd) := m1.cell 2
  have n13 : w12.cell? ⟨w11.heap.size + 1, 3, none⟩ = some (.string Y) := m1.cell 3
  have n20 : w12.cell? ⟨w11.heap.size + 1 + 1, 0, none⟩ = some (.int .i64 1) := m2.cell 0
  have n21 : w12.cell? ⟨w11.heap.size + 1 + 1, 1, none⟩ = some (.int .i64 0) := m2.cell 1
  have n22 : w12.cell? ⟨w11.heap.size + 1 + 1, 2, none⟩ = some (.string x) := m2.cell 2
  have n23 : w12.cell? ⟨w11.heap.size + 1 + 1, 3, none⟩ = some (.string Z) := m2.cell 3
  clear m1 m2
  have j4 : Row (w12.alloc (.cells #[.string y] 9)) w12.heap.size 9 #[.string y] := Row.new _ _ _
  have b14 : Below w.heap.size w (w12.alloc (.cells #[.string y] 9)) := b13.alloc b13.size _
  have J4 := hidden j4
  clear j4
  go_wp2_with fail
  refine (HC2.out _ _ (J4.out.cell 0) J4.out.lt (KT.out.below b14 h0) (Nat.lt_of_lt_of_le h0 b14.size)).mono ?_
  rintro e w13 ⟨rfl, k13⟩
  have b15 : Below w.heap.size w w13 := b14.trans (k13.mono b14.size)
  clear k13 b14 b13 J4
  go_wp2
  go_ret
  exact ⟨rfl, b15⟩
end Go.Proofs.YtoanekgphcijfaaDoor
