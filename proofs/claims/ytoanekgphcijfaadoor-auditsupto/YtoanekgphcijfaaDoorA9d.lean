import Derived.Test.YtoanekgphcijfaaDoorA8
import Derived.Test.YtoanekgphcijfaaDoorA1p
import Derived.Test.YtoanekgphcijfaaDoorA1q
import Derived.Test.YtoanekgphcijfaaDoorA1h
import Derived.Test.YtoanekgphcijfaaDoorA1g
import Derived.Deep.RegionWith
namespace Go.Proofs.YtoanekgphcijfaaDoor
open Go.RowKit
open Sha

set_option maxHeartbeats 4000000 in
theorem audit_dev_badp (key leaf root ptag htag X : ByteArray) (d size tick index : Int) (n : Nat) (ao : Option Addr) (cap : Nat) (w : World)
    (HP : Hid (∀ wx, Tab wx → 0 < wx.heap.size → Calls Tryd.prog 43 #[.string key, .agg #[.string leaf, .int .i64 d, .string ptag]] wx fun r w' => r = .returned (.string X) ∧ Below wx.heap.size wx w'))
    (hne : ptag ≠ X) (hK : Tab w) (h0 : 0 < w.heap.size) :
    Calls Tryd.prog 18 #[.string key, .agg #[.string leaf, .int .i64 d, .string ptag], .agg #[.int .i64 size, .int .i64 tick, .string root, .string htag], .int .i64 index, .slice ao n cap] w fun r w' => r = .returned (.int .i64 4) ∧ Below w.heap.size w w' := by
  have hr1 : Row ((w.alloc (.cells #[.string leaf, .int .i64 d, .string ptag] 30)).alloc (.cells #[.int .i64 size, .int .i64 tick, .string root, .string htag] 32)).drew w.heap.size 30 #[.string leaf, .int .i64 d, .string ptag] := ((Row.new w 30 #[.string leaf, .int .i64 d, .string ptag]).alloc _).drew
  have hr2 : Row ((w.alloc (.cells #[.string leaf, .int .i64 d, .string ptag] 30)).alloc (.cells #[.int .i64 size, .int .i64 tick, .string root, .string htag] 32)).drew (w.heap.size + 1) 32 #[.int .i64 size, .int .i64 tick, .string root, .string htag] := by
    have h := Row.new (w.alloc (.cells #[.string leaf, .int .i64 d, .string ptag] 30)) 32 #[.int .i64 size, .int .i64 tick, .string root, .string htag]
    rw [show (w.alloc (.cells #[.string leaf, .int .i64 d, .string ptag] 30)).heap.size = w.heap.size + 1 from by simp] at h
    exact h.drew
  have hb0 : Below w.heap.size w ((w.alloc (.cells #[.string leaf, .int .i64 d, .string ptag] 30)).alloc (.cells #[.int .i64 size, .int .i64 tick, .string root, .string htag] 32)).drew := (((Below.refl _ _).alloc (Nat.le_refl _) _).alloc (by simp) _).drew
  have e0 := eqS_ne hne
  go_enter Tryd.func18, Tryd.ntmps18
  go_wp2_with fail
  go_region_with (go_at_call 43; refine (HP.out _ (by exact hK.below hb0 h0) (by exact Nat.lt_of_lt_of_le h0 hb0.size)).mono ?_; rintro e w1 ⟨rfl, hb1⟩; have s1 : Row w1 w.heap.size 30 #[.string leaf, .int .i64 d, .string ptag] := hr1.below hb1 hr1.lt; have s2 : Row w1 (w.heap.size + 1) 32 #[.int .i64 size, .int .i64 tick, .string root, .string htag] := hr2.below hb1 hr2.lt; replace hb1 : Below w.heap.size w w1 := hb0.trans (hb1.mono hb0.size); have c2 : w1.cell? ⟨w.heap.size, 2, none⟩ = some (.string ptag) := s1.cell 2)
  all_goals
    go_wp2
    go_ret
    exact ⟨rfl, hb1⟩
set_option maxHeartbeats 4000000 in
theorem audit_dev_badh (key leaf root htag X Y : ByteArray) (d size tick index : Int) (n : Nat) (ao : Option Addr) (cap : Nat) (w : World)
    (HP : Hid (∀ wx, Tab wx → 0 < wx.heap.size → Calls Tryd.prog 43 #[.string key, .agg #[.string leaf, .int .i64 d, .string X]] wx fun r w' => r = .returned (.string X) ∧ Below wx.heap.size wx w'))
    (HH : Hid (∀ wx, Tab wx → 0 < wx.heap.size → Calls Tryd.prog 44 #[.string key, .agg #[.int .i64 size, .int .i64 tick, .string root, .string htag]] wx fun r w' => r = .returned (.string Y) ∧ Below wx.heap.size wx w'))
    (hne : htag ≠ Y) (hK : Tab w) (h0 : 0 < w.heap.size) :
    Calls Tryd.prog 18 #[.string key, .agg #[.string leaf, .int .i64 d, .string X], .agg #[.int .i64 size, .int .i64 tick, .string root, .string htag], .int .i64 index, .slice ao n cap] w fun r w' => r = .returned (.int .i64 5) ∧ Below w.heap.size w w' := by
  have hr1 : Row ((w.alloc (.cells #[.string leaf, .int .i64 d, .string X] 30)).alloc (.cells #[.int .i64 size, .int .i64 tick, .string root, .string htag] 32)).drew w.heap.size 30 #[.string leaf, .int .i64 d, .string X] := ((Row.new w 30 #[.string leaf, .int .i64 d, .string X]).alloc _).drew
  have hr2 : Row ((w.alloc (.cells #[.string leaf, .int .i64 d, .string X] 30)).alloc (.cells #[.int .i64 size, .int .i64 tick, .string root, .string htag] 32)).drew (w.heap.size + 1) 32 #[.int .i64 size, .int .i64 tick, .string root, .string htag] := by
    have h := Row.new (w.alloc (.cells #[.string leaf, .int .i64 d, .string X] 30)) 32 #[.int .i64 size, .int .i64 tick, .string root, .string htag]
    rw [show (w.alloc (.cells #[.string leaf, .int .i64 d, .string X] 30)).heap.size = w.heap.size + 1 from by simp] at h
    exact h.drew
  have hb0 : Below w.heap.size w ((w.alloc (.cells #[.string leaf, .int .i64 d, .string X] 30)).alloc (.cells #[.int .i64 size, .int .i64 tick, .string root, .string htag] 32)).drew := (((Below.refl _ _).alloc (Nat.le_refl _) _).alloc (by simp) _).drew
  have e0 := eqS_refl X
  have e1 := eqS_ne hne
  go_enter Tryd.func18, Tryd.ntmps18
  go_wp2_with fail
  go_region_with (go_at_call 43; refine (HP.out _ (by exact hK.below hb0 h0) (by exact Nat.lt_of_lt_of_le h0 hb0.size)).mono ?_; rintro e w1 ⟨rfl, hb1⟩; have s1 : Row w1 w.heap.size 30 #[.string leaf, .int .i64 d, .string X] := hr1.below hb1 hr1.lt; have s2 : Row w1 (w.heap.size + 1) 32 #[.int .i64 size, .int .i64 tick, .string root, .string htag] := hr2.below hb1 hr2.lt; replace hb1 : Below w.heap.size w w1 := hb0.trans (hb1.mono hb0.size); have c2 : w1.cell? ⟨w.heap.size, 2, none⟩ = some (.string X) := s1.cell 2)
  all_goals
    clear c2
    have ap0 : w1.cell? ⟨w.heap.size, 0, none⟩ = some (.string leaf) := s1.cell 0
    have ap1 : w1.cell? ⟨w.heap.size, 1, none⟩ = some (.int .i64 d) := s1.cell 1
    have ap2 : w1.cell? ⟨w.heap.size, 2, none⟩ = some (.string X) := s1.cell 2
    have ah0 : w1.cell? ⟨w.heap.size + 1, 0, none⟩ = some (.int .i64 size) := s2.cell 0
    have ah1 : w1.cell? ⟨w.heap.size + 1, 1, none⟩ = some (.int .i64 tick) := s2.cell 1
    have ah2 : w1.cell? ⟨w.heap.size + 1, 2, none⟩ = some (.string root) := s2.cell 2
    have ah3 : w1.cell? ⟨w.heap.size + 1, 3, none⟩ = some (.string htag) := s2.cell 3
    have t1 := s1.drew
    have t2 := s2.drew
    have hb2 : Below w.heap.size w w1.drew := hb1.drew
    go_wp2_with fail
    go_region_with (go_at_call 44; refine (HH.out _ (by exact hK.below hb2 h0) (by exact Nat.lt_of_lt_of_le h0 hb2.size)).mono ?_; rintro e w3 ⟨rfl, hb3⟩; have u1 : Row w3 w.heap.size 30 #[.string leaf, .int .i64 d, .string X] := t1.below hb3 t1.lt; have u2 : Row w3 (w.heap.size + 1) 32 #[.int .i64 size, .int .i64 tick, .string root, .string htag] := t2.below hb3 t2.lt; replace hb3 : Below w.heap.size w w3 := hb2.trans (hb3.mono hb2.size); have d3 : w3.cell? ⟨w.heap.size + 1, 3, none⟩ = some (.string htag) := u2.cell 3)
    all_goals
      go_wp2
      go_ret
      exact ⟨rfl, hb3⟩
set_option maxHeartbeats 4000000 in
theorem audit_dev_look (key leaf root X Y : ByteArray) (I : Bool) (d size tick index : Int) (n : Nat) (ao : Option Addr) (cap : Nat) (w : World)
    (HP : Hid (∀ wx, Tab wx → 0 < wx.heap.size → Calls Tryd.prog 43 #[.string key, .agg #[.string leaf, .int .i64 d, .string X]] wx fun r w' => r = .returned (.string X) ∧ Below wx.heap.size wx w'))
    (HH : Hid (∀ wx, Tab wx → 0 < wx.heap.size → Calls Tryd.prog 44 #[.string key, .agg #[.int .i64 size, .int .i64 tick, .string root, .string Y]] wx fun r w' => r = .returned (.string Y) ∧ Below wx.heap.size wx w'))
    (HI : Hid (∀ wx, Below w.heap.size w wx → Calls Tryd.prog 45 #[.slice ao n cap, .string leaf, .int .i64 index, .int .i64 size, .string root] wx fun r w' => r = .returned (.bool I) ∧ Below wx.heap.size wx w'))
    (hK : Tab w) (h0 : 0 < w.heap.size) :
    Calls Tryd.prog 18 #[.string key, .agg #[.string leaf, .int .i64 d, .string X], .agg #[.int .i64 size, .int .i64 tick, .string root, .string Y], .int .i64 index, .slice ao n cap] w fun r w' => r = .returned (.int .i64 (if I = true then 1 else if d ≤ tick then 3 else 2)) ∧ Below w.heap.size w w' := by
  have hr1 : Row ((w.alloc (.cells #[.string leaf, .int .i64 d, .string X] 30)).alloc (.cells #[.int .i64 size, .int .i64 tick, .string root, .string Y] 32)).drew w.heap.size 30 #[.string leaf, .int .i64 d, .string X] := ((Row.new w 30 #[.string leaf, .int .i64 d, .string X]).alloc _).drew
  have hr2 : Row ((w.alloc (.cells #[.string leaf, .int .i64 d, .string X] 30)).alloc (.cells #[.int .i64 size, .int .i64 tick, .string root, .string Y] 32)).drew (w.heap.size + 1) 32 #[.int .i64 size, .int .i64 tick, .string root, .string Y] := by
    have h := Row.new (w.alloc (.cells #[.string leaf, .int .i64 d, .string X] 30)) 32 #[.int .i64 size, .int .i64 tick, .string root, .string Y]
    rw [show (w.alloc (.cells #[.string leaf, .int .i64 d, .string X] 30)).heap.size = w.heap.size + 1 from by simp] at h
    exact h.drew
  have hb0 : Below w.heap.size w ((w.alloc (.cells #[.string leaf, .int .i64 d, .string X] 30)).alloc (.cells #[.int .i64 size, .int .i64 tick, .string root, .string Y] 32)).drew := (((Below.refl _ _).alloc (Nat.le_refl _) _).alloc (by simp) _).drew
  have e0 := eqS_refl X
  have e1 := eqS_refl Y
  go_enter Tryd.func18, Tryd.ntmps18
  go_wp2_with fail
  go_region_with (go_at_call 43; refine (HP.out _ (by exact hK.below hb0 h0) (by exact Nat.lt_of_lt_of_le h0 hb0.size)).mono ?_; rintro e w1 ⟨rfl, hb1⟩; have s1 : Row w1 w.heap.size 30 #[.string leaf, .int .i64 d, .string X] := hr1.below hb1 hr1.lt; have s2 : Row w1 (w.heap.size + 1) 32 #[.int .i64 size, .int .i64 tick, .string root, .string Y] := hr2.below hb1 hr2.lt; replace hb1 : Below w.heap.size w w1 := hb0.trans (hb1.mono hb0.size); have c2 : w1.cell? ⟨w.heap.size, 2, none⟩ = some (.string X) := s1.cell 2)
  all_goals
    clear c2
    have ap0 : w1.cell? ⟨w.heap.size, 0, none⟩ = some (.string leaf) := s1.cell 0
    have ap1 : w1.cell? ⟨w.heap.size, 1, none⟩ = some (.int .i64 d) := s1.cell 1
    have ap2 : w1.cell? ⟨w.heap.size, 2, none⟩ = some (.string X) := s1.cell 2
    have ah0 : w1.cell? ⟨w.heap.size + 1, 0, none⟩ = some (.int .i64 size) := s2.cell 0
    have ah1 : w1.cell? ⟨w.heap.size + 1, 1, none⟩ = some (.int .i64 tick) := s2.cell 1
    have ah2 : w1.cell? ⟨w.heap.size + 1, 2, none⟩ = some (.string root) := s2.cell 2
    have ah3 : w1.cell? ⟨w.heap.size + 1, 3, none⟩ = some (.string Y) := s2.cell 3
    have t1 := s1.drew
    have t2 := s2.drew
    have hb2 : Below w.heap.size w w1.drew := hb1.drew
    go_wp2_with fail
    go_region_with (go_at_call 44; refine (HH.out _ (by exact hK.below hb2 h0) (by exact Nat.lt_of_lt_of_le h0 hb2.size)).mono ?_; rintro e w3 ⟨rfl, hb3⟩; have u1 : Row w3 w.heap.size 30 #[.string leaf, .int .i64 d, .string X] := t1.below hb3 t1.lt; have u2 : Row w3 (w.heap.size + 1) 32 #[.int .i64 size, .int .i64 tick, .string root, .string Y] := t2.below hb3 t2.lt; replace hb3 : Below w.heap.size w w3 := hb2.trans (hb3.mono hb2.size); have d3 : w3.cell? ⟨w.heap.size + 1, 3, none⟩ = some (.string Y) := u2.cell 3)
    all_goals
      clear d3
      have qp0 : w3.cell? ⟨w.heap.size, 0, none⟩ = some (.string leaf) := u1.cell 0
      have qp1 : w3.cell? ⟨w.heap.size, 1, none⟩ = some (.int .i64 d) := u1.cell 1
      have qp2 : w3.cell? ⟨w.heap.size, 2, none⟩ = some (.string X) := u1.cell 2
      have qh0 : w3.cell? ⟨w.heap.size + 1, 0, none⟩ = some (.int .i64 size) := u2.cell 0
      have qh1 : w3.cell? ⟨w.heap.size + 1, 1, none⟩ = some (.int .i64 tick) := u2.cell 1
      have qh2 : w3.cell? ⟨w.heap.size + 1, 2, none⟩ = some (.string root) := u2.cell 2
      have qh3 : w3.cell? ⟨w.heap.size + 1, 3, none⟩ = some (.string Y) := u2.cell 3
      go_wp2_with fail
      refine (HI.out _ hb3).mono ?_
      rintro e w4 ⟨rfl, hb4⟩
      have v1 : Row w4 w.heap.size 30 #[.string leaf, .int .i64 d, .string X] := u1.below hb4 u1.lt
      have v2 : Row w4 (w.heap.size + 1) 32 #[.int .i64 size, .int .i64 tick, .string root, .string Y] := u2.below hb4 u2.lt
      replace hb4 : Below w.heap.size w w4 := hb3.trans (hb4.mono hb3.size)
      have zp0 : w4.cell? ⟨w.heap.size, 0, none⟩ = some (.string leaf) := v1.cell 0
      have zp1 : w4.cell? ⟨w.heap.size, 1, none⟩ = some (.int .i64 d) := v1.cell 1
      have zp2 : w4.cell? ⟨w.heap.size, 2, none⟩ = some (.string X) := v1.cell 2
      have zh0 : w4.cell? ⟨w.heap.size + 1, 0, none⟩ = some (.int .i64 size) := v2.cell 0
      have zh1 : w4.cell? ⟨w.heap.size + 1, 1, none⟩ = some (.int .i64 tick) := v2.cell 1
      have zh2 : w4.cell? ⟨w.heap.size + 1, 2, none⟩ = some (.string root) := v2.cell 2
      have zh3 : w4.cell? ⟨w.heap.size + 1, 3, none⟩ = some (.string Y) := v2.cell 3
      have hb5 : Below w.heap.size w w4.drew := hb4.drew
      cases I
      · by_cases hd : d ≤ tick
        · go_wp2
          all_goals
            go_ret
            exact ⟨by first | rfl | (rw [if_neg (by decide), if_pos hd]; rfl), by first | exact hb4 | exact hb5⟩
        · go_wp2
          all_goals
            go_ret
            exact ⟨by first | rfl | (rw [if_neg (by decide), if_neg hd]; rfl), by first | exact hb4 | exact hb5⟩
      · go_wp2
        go_ret
        exact ⟨rfl, by first | exact hb4 | exact hb5⟩
end Go.Proofs.YtoanekgphcijfaaDoor
