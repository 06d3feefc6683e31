import Derived.Test.YtoanekgphcijfaaDoorA8
import Derived.Test.YtoanekgphcijfaaDoorA1p
import Derived.Test.YtoanekgphcijfaaDoorA1q
import Derived.Test.YtoanekgphcijfaaDoorA1h
import Derived.Test.YtoanekgphcijfaaDoorA1g
import Derived.Deep.RegionWith
namespace Go.Proofs.YtoanekgphcijfaaDoor
open Go.RowKit
open Sha

set_option maxHeartbeats 4000000 in
theorem comp_ref_bado (key oroot nroot otag ntag X : ByteArray) (osize otick nsize ntick : Int) (n : Nat) (ao : Option Addr) (cap : Nat) (w : World)
    (HO : Hid (∀ wx, Calls Tryd.prog 42 #[.string key, .agg #[.int .i64 osize, .int .i64 otick, .string oroot, .string otag]] wx fun r w' => r = .returned (.string X) ∧ Below wx.heap.size wx w'))
    (hne : otag ≠ X) :
    Calls Tryd.prog 21 #[.string key, .agg #[.int .i64 osize, .int .i64 otick, .string oroot, .string otag], .agg #[.int .i64 nsize, .int .i64 ntick, .string nroot, .string ntag], .slice ao n cap] w fun r w' => r = .returned (.int .i64 5) ∧ Below w.heap.size w w' := by
  have hr1 : Row ((w.alloc (.cells #[.int .i64 osize, .int .i64 otick, .string oroot, .string otag] 32)).alloc (.cells #[.int .i64 nsize, .int .i64 ntick, .string nroot, .string ntag] 32)).drew w.heap.size 32 #[.int .i64 osize, .int .i64 otick, .string oroot, .string otag] := ((Row.new w 32 #[.int .i64 osize, .int .i64 otick, .string oroot, .string otag]).alloc _).drew
  have hr2 : Row ((w.alloc (.cells #[.int .i64 osize, .int .i64 otick, .string oroot, .string otag] 32)).alloc (.cells #[.int .i64 nsize, .int .i64 ntick, .string nroot, .string ntag] 32)).drew (w.heap.size + 1) 32 #[.int .i64 nsize, .int .i64 ntick, .string nroot, .string ntag] := by
    have h := Row.new (w.alloc (.cells #[.int .i64 osize, .int .i64 otick, .string oroot, .string otag] 32)) 32 #[.int .i64 nsize, .int .i64 ntick, .string nroot, .string ntag]
    rw [show (w.alloc (.cells #[.int .i64 osize, .int .i64 otick, .string oroot, .string otag] 32)).heap.size = w.heap.size + 1 from by simp] at h
    exact h.drew
  have hb0 : Below w.heap.size w ((w.alloc (.cells #[.int .i64 osize, .int .i64 otick, .string oroot, .string otag] 32)).alloc (.cells #[.int .i64 nsize, .int .i64 ntick, .string nroot, .string ntag] 32)).drew := (((Below.refl _ _).alloc (Nat.le_refl _) _).alloc (by simp) _).drew
  have e0 := eqS_ne (Ne.symm hne)
  go_enter Tryd.func21, Tryd.ntmps21
  go_wp2_with fail
  first | (go_region_with (go_at_call_of 42 (Value.int IntKind.i64 osize); refine (HO.out _).mono ?_; rintro e w1 ⟨rfl, hb1⟩; have s1 : Row w1 w.heap.size 32 #[.int .i64 osize, .int .i64 otick, .string oroot, .string otag] := hr1.below hb1 hr1.lt; have s2 : Row w1 (w.heap.size + 1) 32 #[.int .i64 nsize, .int .i64 ntick, .string nroot, .string ntag] := hr2.below hb1 hr2.lt; replace hb1 : Below w.heap.size w w1 := hb0.trans (hb1.mono hb0.size); have ao0 : w1.cell? ⟨w.heap.size, 0, none⟩ = some (.int .i64 osize) := s1.cell 0; have ao1 : w1.cell? ⟨w.heap.size, 1, none⟩ = some (.int .i64 otick) := s1.cell 1; have ao2 : w1.cell? ⟨w.heap.size, 2, none⟩ = some (.string oroot) := s1.cell 2; have ao3 : w1.cell? ⟨w.heap.size, 3, none⟩ = some (.string otag) := s1.cell 3; have an0 : w1.cell? ⟨w.heap.size + 1, 0, none⟩ = some (.int .i64 nsize) := s2.cell 0; have an1 : w1.cell? ⟨w.heap.size + 1, 1, none⟩ = some (.int .i64 ntick) := s2.cell 1; have an2 : w1.cell? ⟨w.heap.size + 1, 2, none⟩ = some (.string nroot) := s2.cell 2; have an3 : w1.cell? ⟨w.heap.size + 1, 3, none⟩ = some (.string ntag) := s2.cell 3)) | fail
  all_goals
    go_wp2
    go_ret
    exact ⟨rfl, hb1⟩
set_option maxHeartbeats 4000000 in
theorem comp_ref_badn (key oroot nroot ntag X Y : ByteArray) (osize otick nsize ntick : Int) (n : Nat) (ao : Option Addr) (cap : Nat) (w : World)
    (HO : Hid (∀ wx, Calls Tryd.prog 42 #[.string key, .agg #[.int .i64 osize, .int .i64 otick, .string oroot, .string X]] wx fun r w' => r = .returned (.string X) ∧ Below wx.heap.size wx w'))
    (HN : Hid (∀ wx, Calls Tryd.prog 42 #[.string key, .agg #[.int .i64 nsize, .int .i64 ntick, .string nroot, .string ntag]] wx fun r w' => r = .returned (.string Y) ∧ Below wx.heap.size wx w'))
    (hne : ntag ≠ Y) :
    Calls Tryd.prog 21 #[.string key, .agg #[.int .i64 osize, .int .i64 otick, .string oroot, .string X], .agg #[.int .i64 nsize, .int .i64 ntick, .string nroot, .string ntag], .slice ao n cap] w fun r w' => r = .returned (.int .i64 5) ∧ Below w.heap.size w w' := by
  have hr1 : Row ((w.alloc (.cells #[.int .i64 osize, .int .i64 otick, .string oroot, .string X] 32)).alloc (.cells #[.int .i64 nsize, .int .i64 ntick, .string nroot, .string ntag] 32)).drew w.heap.size 32 #[.int .i64 osize, .int .i64 otick, .string oroot, .string X] := ((Row.new w 32 #[.int .i64 osize, .int .i64 otick, .string oroot, .string X]).alloc _).drew
  have hr2 : Row ((w.alloc (.cells #[.int .i64 osize, .int .i64 otick, .string oroot, .string X] 32)).alloc (.cells #[.int .i64 nsize, .int .i64 ntick, .string nroot, .string ntag] 32)).drew (w.heap.size + 1) 32 #[.int .i64 nsize, .int .i64 ntick, .string nroot, .string ntag] := by
    have h := Row.new (w.alloc (.cells #[.int .i64 osize, .int .i64 otick, .string oroot, .string X] 32)) 32 #[.int .i64 nsize, .int .i64 ntick, .string nroot, .string ntag]
    rw [show (w.alloc (.cells #[.int .i64 osize, .int .i64 otick, .string oroot, .string X] 32)).heap.size = w.heap.size + 1 from by simp] at h
    exact h.drew
  have hb0 : Below w.heap.size w ((w.alloc (.cells #[.int .i64 osize, .int .i64 otick, .string oroot, .string X] 32)).alloc (.cells #[.int .i64 nsize, .int .i64 ntick, .string nroot, .string ntag] 32)).drew := (((Below.refl _ _).alloc (Nat.le_refl _) _).alloc (by simp) _).drew
  have e0 := eqS_refl X
  have e1 := eqS_ne (Ne.symm hne)
  go_enter Tryd.func21, Tryd.ntmps21
  go_wp2_with fail
  first | (go_region_with (first | (go_at_call_of 42 (Value.int IntKind.i64 osize); refine (HO.out _).mono ?_; rintro e w1 ⟨rfl, hb1⟩; have s1 : Row w1 w.heap.size 32 #[.int .i64 osize, .int .i64 otick, .string oroot, .string X] := hr1.below hb1 hr1.lt; have s2 : Row w1 (w.heap.size + 1) 32 #[.int .i64 nsize, .int .i64 ntick, .string nroot, .string ntag] := hr2.below hb1 hr2.lt; replace hb1 : Below w.heap.size w w1 := hb0.trans (hb1.mono hb0.size); have ao0 : w1.cell? ⟨w.heap.size, 0, none⟩ = some (.int .i64 osize) := s1.cell 0; have ao1 : w1.cell? ⟨w.heap.size, 1, none⟩ = some (.int .i64 otick) := s1.cell 1; have ao2 : w1.cell? ⟨w.heap.size, 2, none⟩ = some (.string oroot) := s1.cell 2; have ao3 : w1.cell? ⟨w.heap.size, 3, none⟩ = some (.string X) := s1.cell 3; have an0 : w1.cell? ⟨w.heap.size + 1, 0, none⟩ = some (.int .i64 nsize) := s2.cell 0; have an1 : w1.cell? ⟨w.heap.size + 1, 1, none⟩ = some (.int .i64 ntick) := s2.cell 1; have an2 : w1.cell? ⟨w.heap.size + 1, 2, none⟩ = some (.string nroot) := s2.cell 2; have an3 : w1.cell? ⟨w.heap.size + 1, 3, none⟩ = some (.string ntag) := s2.cell 3) | (go_at_call_of 42 (Value.int IntKind.i64 nsize); refine (HN.out _).mono ?_; rintro e w3 ⟨rfl, hb3⟩; have u1 : Row w3 w.heap.size 32 #[.int .i64 osize, .int .i64 otick, .string oroot, .string X] := s1.below hb3 s1.lt; have u2 : Row w3 (w.heap.size + 1) 32 #[.int .i64 nsize, .int .i64 ntick, .string nroot, .string ntag] := s2.below hb3 s2.lt; replace hb3 : Below w.heap.size w w3 := hb1.trans (hb3.mono hb1.size); have d3 : w3.cell? ⟨w.heap.size + 1, 3, none⟩ = some (.string ntag) := u2.cell 3; have d4 : w3.cell? ⟨w.heap.size, 3, none⟩ = some (.string X) := u1.cell 3))) | fail
  all_goals
    go_wp2
    go_ret
    exact ⟨rfl, hb3⟩
set_option maxHeartbeats 4000000 in
theorem comp_ref_empty (key oroot nroot X Y : ByteArray) (E : Bool) (otick nsize ntick : Int) (ao : Option Addr) (cap : Nat) (w : World)
    (HO : Hid (∀ wx, Calls Tryd.prog 42 #[.string key, .agg #[.int .i64 0, .int .i64 otick, .string oroot, .string X]] wx fun r w' => r = .returned (.string X) ∧ Below wx.heap.size wx w'))
    (HN : Hid (∀ wx, Calls Tryd.prog 42 #[.string key, .agg #[.int .i64 nsize, .int .i64 ntick, .string nroot, .string Y]] wx fun r w' => r = .returned (.string Y) ∧ Below wx.heap.size wx w'))
    (HI : Hid (∀ wx, Below w.heap.size w wx → Calls Tryd.prog 48 #[.int .i64 0, .int .i64 nsize, .string oroot, .string nroot, .slice ao 0 cap] wx fun r w' => r = .returned (.bool E) ∧ Below wx.heap.size wx w'))
    :
    Calls Tryd.prog 21 #[.string key, .agg #[.int .i64 0, .int .i64 otick, .string oroot, .string X], .agg #[.int .i64 nsize, .int .i64 ntick, .string nroot, .string Y], .slice ao 0 cap] w fun r w' => r = .returned (.int .i64 1) ∧ Below w.heap.size w w' := by
  have hr1 : Row ((w.alloc (.cells #[.int .i64 0, .int .i64 otick, .string oroot, .string X] 32)).alloc (.cells #[.int .i64 nsize, .int .i64 ntick, .string nroot, .string Y] 32)).drew w.heap.size 32 #[.int .i64 0, .int .i64 otick, .string oroot, .string X] := ((Row.new w 32 #[.int .i64 0, .int .i64 otick, .string oroot, .string X]).alloc _).drew
  have hr2 : Row ((w.alloc (.cells #[.int .i64 0, .int .i64 otick, .string oroot, .string X] 32)).alloc (.cells #[.int .i64 nsize, .int .i64 ntick, .string nroot, .string Y] 32)).drew (w.heap.size + 1) 32 #[.int .i64 nsize, .int .i64 ntick, .string nroot, .string Y] := by
    have h := Row.new (w.alloc (.cells #[.int .i64 0, .int .i64 otick, .string oroot, .string X] 32)) 32 #[.int .i64 nsize, .int .i64 ntick, .string nroot, .string Y]
    rw [show (w.alloc (.cells #[.int .i64 0, .int .i64 otick, .string oroot, .string X] 32)).heap.size = w.heap.size + 1 from by simp] at h
    exact h.drew
  have hb0 : Below w.heap.size w ((w.alloc (.cells #[.int .i64 0, .int .i64 otick, .string oroot, .string X] 32)).alloc (.cells #[.int .i64 nsize, .int .i64 ntick, .string nroot, .string Y] 32)).drew := (((Below.refl _ _).alloc (Nat.le_refl _) _).alloc (by simp) _).drew
  have e0 := eqS_refl X
  have e1 := eqS_refl Y
  go_enter Tryd.func21, Tryd.ntmps21
  go_wp2_with fail
  first | (go_region_with (first | (go_at_call_of 42 (Value.int IntKind.i64 0); refine (HO.out _).mono ?_; rintro e w1 ⟨rfl, hb1⟩; have s1 : Row w1 w.heap.size 32 #[.int .i64 0, .int .i64 otick, .string oroot, .string X] := hr1.below hb1 hr1.lt; have s2 : Row w1 (w.heap.size + 1) 32 #[.int .i64 nsize, .int .i64 ntick, .string nroot, .string Y] := hr2.below hb1 hr2.lt; replace hb1 : Below w.heap.size w w1 := hb0.trans (hb1.mono hb0.size); have ao0 : w1.cell? ⟨w.heap.size, 0, none⟩ = some (.int .i64 0) := s1.cell 0; have ao1 : w1.cell? ⟨w.heap.size, 1, none⟩ = some (.int .i64 otick) := s1.cell 1; have ao2 : w1.cell? ⟨w.heap.size, 2, none⟩ = some (.string oroot) := s1.cell 2; have ao3 : w1.cell? ⟨w.heap.size, 3, none⟩ = some (.string X) := s1.cell 3; have an0 : w1.cell? ⟨w.heap.size + 1, 0, none⟩ = some (.int .i64 nsize) := s2.cell 0; have an1 : w1.cell? ⟨w.heap.size + 1, 1, none⟩ = some (.int .i64 ntick) := s2.cell 1; have an2 : w1.cell? ⟨w.heap.size + 1, 2, none⟩ = some (.string nroot) := s2.cell 2; have an3 : w1.cell? ⟨w.heap.size + 1, 3, none⟩ = some (.string Y) := s2.cell 3) | (go_at_call_of 42 (Value.int IntKind.i64 nsize); refine (HN.out _).mono ?_; rintro e w3 ⟨rfl, hb3⟩; have u1 : Row w3 w.heap.size 32 #[.int .i64 0, .int .i64 otick, .string oroot, .string X] := s1.below hb3 s1.lt; have u2 : Row w3 (w.heap.size + 1) 32 #[.int .i64 nsize, .int .i64 ntick, .string nroot, .string Y] := s2.below hb3 s2.lt; replace hb3 : Below w.heap.size w w3 := hb1.trans (hb3.mono hb1.size); have d3 : w3.cell? ⟨w.heap.size + 1, 3, none⟩ = some (.string Y) := u2.cell 3; have d4 : w3.cell? ⟨w.heap.size, 3, none⟩ = some (.string X) := u1.cell 3))) | fail
  all_goals
    clear d3 d4
    have qo0 : w3.cell? ⟨w.heap.size, 0, none⟩ = some (.int .i64 0) := u1.cell 0
    have qo1 : w3.cell? ⟨w.heap.size, 1, none⟩ = some (.int .i64 otick) := u1.cell 1
    have qo2 : w3.cell? ⟨w.heap.size, 2, none⟩ = some (.string oroot) := u1.cell 2
    have qo3 : w3.cell? ⟨w.heap.size, 3, none⟩ = some (.string X) := u1.cell 3
    have qn0 : w3.cell? ⟨w.heap.size + 1, 0, none⟩ = some (.int .i64 nsize) := u2.cell 0
    have qn1 : w3.cell? ⟨w.heap.size + 1, 1, none⟩ = some (.int .i64 ntick) := u2.cell 1
    have qn2 : w3.cell? ⟨w.heap.size + 1, 2, none⟩ = some (.string nroot) := u2.cell 2
    have qn3 : w3.cell? ⟨w.heap.size + 1, 3, none⟩ = some (.string Y) := u2.cell 3
    have hb5 : Below w.heap.size w w3.drew := hb3.drew
    go_wp2_with fail
    refine (HI.out _ (by first | exact hb3 | exact hb5)).mono ?_
    rintro e w4 ⟨rfl, hb4⟩
    have v1 : Row w4 w.heap.size 32 #[.int .i64 0, .int .i64 otick, .string oroot, .string X] := u1.below hb4 u1.lt
    have v2 : Row w4 (w.heap.size + 1) 32 #[.int .i64 nsize, .int .i64 ntick, .string nroot, .string Y] := u2.below hb4 u2.lt
    replace hb4 : Below w.heap.size w w4 := hb3.trans (hb4.mono hb3.size)
    have zo0 : w4.cell? ⟨w.heap.size, 0, none⟩ = some (.int .i64 0) := v1.cell 0
    have zo1 : w4.cell? ⟨w.heap.size, 1, none⟩ = some (.int .i64 otick) := v1.cell 1
    have zo2 : w4.cell? ⟨w.heap.size, 2, none⟩ = some (.string oroot) := v1.cell 2
    have zo3 : w4.cell? ⟨w.heap.size, 3, none⟩ = some (.string X) := v1.cell 3
    have zn0 : w4.cell? ⟨w.heap.size + 1, 0, none⟩ = some (.int .i64 nsize) := v2.cell 0
    have zn1 : w4.cell? ⟨w.heap.size + 1, 1, none⟩ = some (.int .i64 ntick) := v2.cell 1
    have zn2 : w4.cell? ⟨w.heap.size + 1, 2, none⟩ = some (.string nroot) := v2.cell 2
    have zn3 : w4.cell? ⟨w.heap.size + 1, 3, none⟩ = some (.string Y) := v2.cell 3
    have hb6 : Below w.heap.size w w4.drew := hb4.drew
    cases E
    · go_wp2
      all_goals
        go_ret
        exact ⟨rfl, by first | exact hb4 | exact hb6⟩
    · go_wp2
      all_goals
        go_ret
        exact ⟨rfl, by first | exact hb4 | exact hb6⟩
set_option maxHeartbeats 4000000 in
theorem comp_ref_size (key oroot nroot X Y : ByteArray) (E : Bool) (osize otick nsize ntick : Int) (n : Nat) (ao : Option Addr) (cap : Nat) (w : World)
    (HO : Hid (∀ wx, Calls Tryd.prog 42 #[.string key, .agg #[.int .i64 osize, .int .i64 otick, .string oroot, .string X]] wx fun r w' => r = .returned (.string X) ∧ Below wx.heap.size wx w'))
    (HN : Hid (∀ wx, Calls Tryd.prog 42 #[.string key, .agg #[.int .i64 nsize, .int .i64 ntick, .string nroot, .string Y]] wx fun r w' => r = .returned (.string Y) ∧ Below wx.heap.size wx w'))
    (HI : Hid (∀ wx, Below w.heap.size w wx → Calls Tryd.prog 48 #[.int .i64 osize, .int .i64 nsize, .string oroot, .string nroot, .slice ao n cap] wx fun r w' => r = .returned (.bool E) ∧ Below wx.heap.size wx w'))
    (hz : ¬ osize = 0) :
    Calls Tryd.prog 21 #[.string key, .agg #[.int .i64 osize, .int .i64 otick, .string oroot, .string X], .agg #[.int .i64 nsize, .int .i64 ntick, .string nroot, .string Y], .slice ao n cap] w fun r w' => r = .returned (.int .i64 (if E = true then 1 else 3)) ∧ Below w.heap.size w w' := by
  have hr1 : Row ((w.alloc (.cells #[.int .i64 osize, .int .i64 otick, .string oroot, .string X] 32)).alloc (.cells #[.int .i64 nsize, .int .i64 ntick, .string nroot, .string Y] 32)).drew w.heap.size 32 #[.int .i64 osize, .int .i64 otick, .string oroot, .string X] := ((Row.new w 32 #[.int .i64 osize, .int .i64 otick, .string oroot, .string X]).alloc _).drew
  have hr2 : Row ((w.alloc (.cells #[.int .i64 osize, .int .i64 otick, .string oroot, .string X] 32)).alloc (.cells #[.int .i64 nsize, .int .i64 ntick, .string nroot, .string Y] 32)).drew (w.heap.size + 1) 32 #[.int .i64 nsize, .int .i64 ntick, .string nroot, .string Y] := by
    have h := Row.new (w.alloc (.cells #[.int .i64 osize, .int .i64 otick, .string oroot, .string X] 32)) 32 #[.int .i64 nsize, .int .i64 ntick, .string nroot, .string Y]
    rw [show (w.alloc (.cells #[.int .i64 osize, .int .i64 otick, .string oroot, .string X] 32)).heap.size = w.heap.size + 1 from by simp] at h
    exact h.drew
  have hb0 : Below w.heap.size w ((w.alloc (.cells #[.int .i64 osize, .int .i64 otick, .string oroot, .string X] 32)).alloc (.cells #[.int .i64 nsize, .int .i64 ntick, .string nroot, .string Y] 32)).drew := (((Below.refl _ _).alloc (Nat.le_refl _) _).alloc (by simp) _).drew
  have e0 := eqS_refl X
  have e1 := eqS_refl Y
  go_enter Tryd.func21, Tryd.ntmps21
  go_wp2_with fail
  first | (go_region_with (first | (go_at_call_of 42 (Value.int IntKind.i64 osize); refine (HO.out _).mono ?_; rintro e w1 ⟨rfl, hb1⟩; have s1 : Row w1 w.heap.size 32 #[.int .i64 osize, .int .i64 otick, .string oroot, .string X] := hr1.below hb1 hr1.lt; have s2 : Row w1 (w.heap.size + 1) 32 #[.int .i64 nsize, .int .i64 ntick, .string nroot, .string Y] := hr2.below hb1 hr2.lt; replace hb1 : Below w.heap.size w w1 := hb0.trans (hb1.mono hb0.size); have ao0 : w1.cell? ⟨w.heap.size, 0, none⟩ = some (.int .i64 osize) := s1.cell 0; have ao1 : w1.cell? ⟨w.heap.size, 1, none⟩ = some (.int .i64 otick) := s1.cell 1; have ao2 : w1.cell? ⟨w.heap.size, 2, none⟩ = some (.string oroot) := s1.cell 2; have ao3 : w1.cell? ⟨w.heap.size, 3, none⟩ = some (.string X) := s1.cell 3; have an0 : w1.cell? ⟨w.heap.size + 1, 0, none⟩ = some (.int .i64 nsize) := s2.cell 0; have an1 : w1.cell? ⟨w.heap.size + 1, 1, none⟩ = some (.int .i64 ntick) := s2.cell 1; have an2 : w1.cell? ⟨w.heap.size + 1, 2, none⟩ = some (.string nroot) := s2.cell 2; have an3 : w1.cell? ⟨w.heap.size + 1, 3, none⟩ = some (.string Y) := s2.cell 3) | (go_at_call_of 42 (Value.int IntKind.i64 nsize); refine (HN.out _).mono ?_; rintro e w3 ⟨rfl, hb3⟩; have u1 : Row w3 w.heap.size 32 #[.int .i64 osize, .int .i64 otick, .string oroot, .string X] := s1.below hb3 s1.lt; have u2 : Row w3 (w.heap.size + 1) 32 #[.int .i64 nsize, .int .i64 ntick, .string nroot, .string Y] := s2.below hb3 s2.lt; replace hb3 : Below w.heap.size w w3 := hb1.trans (hb3.mono hb1.size); have d3 : w3.cell? ⟨w.heap.size + 1, 3, none⟩ = some (.string Y) := u2.cell 3; have d4 : w3.cell? ⟨w.heap.size, 3, none⟩ = some (.string X) := u1.cell 3))) | fail
  all_goals
    clear d3 d4
    have qo0 : w3.cell? ⟨w.heap.size, 0, none⟩ = some (.int .i64 osize) := u1.cell 0
    have qo1 : w3.cell? ⟨w.heap.size, 1, none⟩ = some (.int .i64 otick) := u1.cell 1
    have qo2 : w3.cell? ⟨w.heap.size, 2, none⟩ = some (.string oroot) := u1.cell 2
    have qo3 : w3.cell? ⟨w.heap.size, 3, none⟩ = some (.string X) := u1.cell 3
    have qn0 : w3.cell? ⟨w.heap.size + 1, 0, none⟩ = some (.int .i64 nsize) := u2.cell 0
    have qn1 : w3.cell? ⟨w.heap.size + 1, 1, none⟩ = some (.int .i64 ntick) := u2.cell 1
    have qn2 : w3.cell? ⟨w.heap.size + 1, 2, none⟩ = some (.string nroot) := u2.cell 2
    have qn3 : w3.cell? ⟨w.heap.size + 1, 3, none⟩ = some (.string Y) := u2.cell 3
    have hb5 : Below w.heap.size w w3.drew := hb3.drew
    go_wp2_with fail
    refine (HI.out _ (by first | exact hb3 | exact hb5)).mono ?_
    rintro e w4 ⟨rfl, hb4⟩
    have v1 : Row w4 w.heap.size 32 #[.int .i64 osize, .int .i64 otick, .string oroot, .string X] := u1.below hb4 u1.lt
    have v2 : Row w4 (w.heap.size + 1) 32 #[.int .i64 nsize, .int .i64 ntick, .string nroot, .string Y] := u2.below hb4 u2.lt
    replace hb4 : Below w.heap.size w w4 := hb3.trans (hb4.mono hb3.size)
    have zo0 : w4.cell? ⟨w.heap.size, 0, none⟩ = some (.int .i64 osize) := v1.cell 0
    have zo1 : w4.cell? ⟨w.heap.size, 1, none⟩ = some (.int .i64 otick) := v1.cell 1
    have zo2 : w4.cell? ⟨w.heap.size, 2, none⟩ = some (.string oroot) := v1.cell 2
    have zo3 : w4.cell? ⟨w.heap.size, 3, none⟩ = some (.string X) := v1.cell 3
    have zn0 : w4.cell? ⟨w.heap.size + 1, 0, none⟩ = some (.int .i64 nsize) := v2.cell 0
    have zn1 : w4.cell? ⟨w.heap.size + 1, 1, none⟩ = some (.int .i64 ntick) := v2.cell 1
    have zn2 : w4.cell? ⟨w.heap.size + 1, 2, none⟩ = some (.string nroot) := v2.cell 2
    have zn3 : w4.cell? ⟨w.heap.size + 1, 3, none⟩ = some (.string Y) := v2.cell 3
    have hb6 : Below w.heap.size w w4.drew := hb4.drew
    cases E
    · go_wp2
      all_goals
        go_ret
        exact ⟨rfl, by first | exact hb4 | exact hb6⟩
    · go_wp2
      all_goals
        go_ret
        exact ⟨rfl, by first | exact hb4 | exact hb6⟩
set_option maxHeartbeats 4000000 in
theorem comp_ref_list (key oroot nroot X Y : ByteArray) (E : Bool) (otick nsize ntick : Int) (n : Nat) (ao : Option Addr) (cap : Nat) (w : World)
    (HO : Hid (∀ wx, Calls Tryd.prog 42 #[.string key, .agg #[.int .i64 0, .int .i64 otick, .string oroot, .string X]] wx fun r w' => r = .returned (.string X) ∧ Below wx.heap.size wx w'))
    (HN : Hid (∀ wx, Calls Tryd.prog 42 #[.string key, .agg #[.int .i64 nsize, .int .i64 ntick, .string nroot, .string Y]] wx fun r w' => r = .returned (.string Y) ∧ Below wx.heap.size wx w'))
    (HI : Hid (∀ wx, Below w.heap.size w wx → Calls Tryd.prog 48 #[.int .i64 0, .int .i64 nsize, .string oroot, .string nroot, .slice ao n cap] wx fun r w' => r = .returned (.bool E) ∧ Below wx.heap.size wx w'))
    (hz : ¬ n = 0) :
    Calls Tryd.prog 21 #[.string key, .agg #[.int .i64 0, .int .i64 otick, .string oroot, .string X], .agg #[.int .i64 nsize, .int .i64 ntick, .string nroot, .string Y], .slice ao n cap] w fun r w' => r = .returned (.int .i64 (if E = true then 1 else 3)) ∧ Below w.heap.size w w' := by
  have hr1 : Row ((w.alloc (.cells #[.int .i64 0, .int .i64 otick, .string oroot, .string X] 32)).alloc (.cells #[.int .i64 nsize, .int .i64 ntick, .string nroot, .string Y] 32)).drew w.heap.size 32 #[.int .i64 0, .int .i64 otick, .string oroot, .string X] := ((Row.new w 32 #[.int .i64 0, .int .i64 otick, .string oroot, .string X]).alloc _).drew
  have hr2 : Row ((w.alloc (.cells #[.int .i64 0, .int .i64 otick, .string oroot, .string X] 32)).alloc (.cells #[.int .i64 nsize, .int .i64 ntick, .string nroot, .string Y] 32)).drew (w.heap.size + 1) 32 #[.int .i64 nsize, .int .i64 ntick, .string nroot, .string Y] := by
    have h := Row.new (w.alloc (.cells #[.int .i64 0, .int .i64 otick, .string oroot, .string X] 32)) 32 #[.int .i64 nsize, .int .i64 ntick, .string nroot, .string Y]
    rw [show (w.alloc (.cells #[.int .i64 0, .int .i64 otick, .string oroot, .string X] 32)).heap.size = w.heap.size + 1 from by simp] at h
    exact h.drew
  have hb0 : Below w.heap.size w ((w.alloc (.cells #[.int .i64 0, .int .i64 otick, .string oroot, .string X] 32)).alloc (.cells #[.int .i64 nsize, .int .i64 ntick, .string nroot, .string Y] 32)).drew := (((Below.refl _ _).alloc (Nat.le_refl _) _).alloc (by simp) _).drew
  have e0 := eqS_refl X
  have e1 := eqS_refl Y
  go_enter Tryd.func21, Tryd.ntmps21
  go_wp2_with fail
  first | (go_region_with (first | (go_at_call_of 42 (Value.int IntKind.i64 0); refine (HO.out _).mono ?_; rintro e w1 ⟨rfl, hb1⟩; have s1 : Row w1 w.heap.size 32 #[.int .i64 0, .int .i64 otick, .string oroot, .string X] := hr1.below hb1 hr1.lt; have s2 : Row w1 (w.heap.size + 1) 32 #[.int .i64 nsize, .int .i64 ntick, .string nroot, .string Y] := hr2.below hb1 hr2.lt; replace hb1 : Below w.heap.size w w1 := hb0.trans (hb1.mono hb0.size); have ao0 : w1.cell? ⟨w.heap.size, 0, none⟩ = some (.int .i64 0) := s1.cell 0; have ao1 : w1.cell? ⟨w.heap.size, 1, none⟩ = some (.int .i64 otick) := s1.cell 1; have ao2 : w1.cell? ⟨w.heap.size, 2, none⟩ = some (.string oroot) := s1.cell 2; have ao3 : w1.cell? ⟨w.heap.size, 3, none⟩ = some (.string X) := s1.cell 3; have an0 : w1.cell? ⟨w.heap.size + 1, 0, none⟩ = some (.int .i64 nsize) := s2.cell 0; have an1 : w1.cell? ⟨w.heap.size + 1, 1, none⟩ = some (.int .i64 ntick) := s2.cell 1; have an2 : w1.cell? ⟨w.heap.size + 1, 2, none⟩ = some (.string nroot) := s2.cell 2; have an3 : w1.cell? ⟨w.heap.size + 1, 3, none⟩ = some (.string Y) := s2.cell 3) | (go_at_call_of 42 (Value.int IntKind.i64 nsize); refine (HN.out _).mono ?_; rintro e w3 ⟨rfl, hb3⟩; have u1 : Row w3 w.heap.size 32 #[.int .i64 0, .int .i64 otick, .string oroot, .string X] := s1.below hb3 s1.lt; have u2 : Row w3 (w.heap.size + 1) 32 #[.int .i64 nsize, .int .i64 ntick, .string nroot, .string Y] := s2.below hb3 s2.lt; replace hb3 : Below w.heap.size w w3 := hb1.trans (hb3.mono hb1.size); have d3 : w3.cell? ⟨w.heap.size + 1, 3, none⟩ = some (.string Y) := u2.cell 3; have d4 : w3.cell? ⟨w.heap.size, 3, none⟩ = some (.string X) := u1.cell 3))) | fail
  all_goals
    clear d3 d4
    have qo0 : w3.cell? ⟨w.heap.size, 0, none⟩ = some (.int .i64 0) := u1.cell 0
    have qo1 : w3.cell? ⟨w.heap.size, 1, none⟩ = some (.int .i64 otick) := u1.cell 1
    have qo2 : w3.cell? ⟨w.heap.size, 2, none⟩ = some (.string oroot) := u1.cell 2
    have qo3 : w3.cell? ⟨w.heap.size, 3, none⟩ = some (.string X) := u1.cell 3
    have qn0 : w3.cell? ⟨w.heap.size + 1, 0, none⟩ = some (.int .i64 nsize) := u2.cell 0
    have qn1 : w3.cell? ⟨w.heap.size + 1, 1, none⟩ = some (.int .i64 ntick) := u2.cell 1
    have qn2 : w3.cell? ⟨w.heap.size + 1, 2, none⟩ = some (.string nroot) := u2.cell 2
    have qn3 : w3.cell? ⟨w.heap.size + 1, 3, none⟩ = some (.string Y) := u2.cell 3
    have hb5 : Below w.heap.size w w3.drew := hb3.drew
    go_wp2_with fail
    refine (HI.out _ (by first | exact hb3 | exact hb5)).mono ?_
    rintro e w4 ⟨rfl, hb4⟩
    have v1 : Row w4 w.heap.size 32 #[.int .i64 0, .int .i64 otick, .string oroot, .string X] := u1.below hb4 u1.lt
    have v2 : Row w4 (w.heap.size + 1) 32 #[.int .i64 nsize, .int .i64 ntick, .string nroot, .string Y] := u2.below hb4 u2.lt
    replace hb4 : Below w.heap.size w w4 := hb3.trans (hb4.mono hb3.size)
    have zo0 : w4.cell? ⟨w.heap.size, 0, none⟩ = some (.int .i64 0) := v1.cell 0
    have zo1 : w4.cell? ⟨w.heap.size, 1, none⟩ = some (.int .i64 otick) := v1.cell 1
    have zo2 : w4.cell? ⟨w.heap.size, 2, none⟩ = some (.string oroot) := v1.cell 2
    have zo3 : w4.cell? ⟨w.heap.size, 3, none⟩ = some (.string X) := v1.cell 3
    have zn0 : w4.cell? ⟨w.heap.size + 1, 0, none⟩ = some (.int .i64 nsize) := v2.cell 0
    have zn1 : w4.cell? ⟨w.heap.size + 1, 1, none⟩ = some (.int .i64 ntick) := v2.cell 1
    have zn2 : w4.cell? ⟨w.heap.size + 1, 2, none⟩ = some (.string nroot) := v2.cell 2
    have zn3 : w4.cell? ⟨w.heap.size + 1, 3, none⟩ = some (.string Y) := v2.cell 3
    have hb6 : Below w.heap.size w w4.drew := hb4.drew
    cases E
    · go_wp2
      all_goals
        go_ret
        exact ⟨rfl, by first | exact hb4 | exact hb6⟩
    · go_wp2
      all_goals
        go_ret
        exact ⟨rfl, by first | exact hb4 | exact hb6⟩
end Go.Proofs.YtoanekgphcijfaaDoor
