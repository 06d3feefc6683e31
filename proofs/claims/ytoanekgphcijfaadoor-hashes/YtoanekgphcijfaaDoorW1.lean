import Derived.Test.YtoanekgphcijfaaDoorChecked
import Derived.Test.YtoanekgphcijfaaDoorSha
import Derived.WalkKit
import Derived.Deep.QuietTactic
import Derived.BigQuiet
import Derived.RegionTactic
namespace Go.Proofs.YtoanekgphcijfaaDoor
open Go.RowKit
open Sha

theorem ret_int {k : IntKind} {a b : Int} (h : a = b) : Ending.returned (.int k a) = .returned (.int k b) := by rw [h]

theorem not_any (e : Nat) (w : World) (he : e < 4294967296) :
    Calls Tryd.prog 104 #[.int .i64 (e : Int)] w fun r w' => r = .returned (.int .i64 ((4294967295 - e : Nat) : Int)) ∧ w' = w := by
  go_enter Tryd.func104, Tryd.ntmps104
  go_wp2
  go_ret
  exact ⟨ret_int (by omega), rfl⟩

theorem mask31 (k : Nat) (h0 : 0 < k) (h1 : k < 32) : bits .and .u64 (IntKind.u64.wrap (-(k : Int))) 31 = ((32 - k : Nat) : Int) := by
  have : ∀ k : Fin 32, 0 < k.val → bits .and .u64 (IntKind.u64.wrap (-(k.val : Int))) 31 = ((32 - k.val : Nat) : Int) := by decide
  exact this ⟨k, h1⟩ h0
theorem rot_close (x k : Nat) (h0 : 0 < k) (h1 : k < 32) (hx : x < 4294967296) : bits .or .u32 ((x : Int) * 2 ^ (32 - k) % 4294967296) ((x : Int) / 2 ^ (32 - (32 - k))) = ((rotr k x : Nat) : Int) := by
  have e1 : ((x : Int) * 2 ^ (32 - k) % 4294967296) = ((x * 2 ^ (32 - k) % 4294967296 : Nat) : Int) := by simp
  have e2 : ((x : Int) / 2 ^ (32 - (32 - k))) = ((x / 2 ^ k : Nat) : Int) := by rw [show 32 - (32 - k) = k by omega]; simp
  have h2 : x / 2 ^ k < 4294967296 := Nat.lt_of_le_of_lt (Nat.div_le_self _ _) hx
  rw [e1, e2, or_u32 _ _ (Nat.mod_lt _ (by decide)) h2, rotl_eq k x h0 h1 hx]
theorem rot_any (x k : Nat) (m : Int) (hm : m = -(k : Int)) (w : World) (hx : x < 4294967296) (h0 : 0 < k) (h1 : k < 32) :
    Calls Tryd.prog 126 #[.int .u32 (x : Int), .int .i64 m] w fun r w' => r = .returned (.int .u32 (rotr k x : Nat)) ∧ w' = w := by
  subst hm
  have hb := mask31 k h0 h1
  go_enter Tryd.func126, Tryd.ntmps126
  go_wp2
  go_ret
  exact ⟨ret_int (rot_close x k h0 h1 hx), rfl⟩
theorem rturn_any (x : Nat) (k : Nat) (m : Int) (hm : m = (k : Int)) (w : World) (hx : x < 4294967296) (h : k = 2 ∨ k = 6 ∨ k = 7 ∨ k = 11 ∨ k = 13 ∨ k = 17 ∨ k = 18 ∨ k = 19 ∨ k = 22 ∨ k = 25) :
    Calls Tryd.prog 103 #[.int .i64 (x : Int), .int .i64 m] w fun r w' => r = .returned (.int .i64 (rotr k x : Nat)) ∧ ∃ n, w' = w.drewN n := by
  subst hm
  rcases h with rfl | rfl | rfl | rfl | rfl | rfl | rfl | rfl | rfl | rfl
  all_goals
    go_enter Tryd.func103, Tryd.ntmps103
    go_wp2
    go_quiet (fail)
    go_wp2
    go_ret
    exact ⟨ret_int (by simp [rotr]), _, rfl⟩
theorem turn_any (x a b c : Nat) (p q r : Int) (hp : p = a) (hq : q = b) (hr : r = c) (w : World) (hx : x < 4294967296) (ha : 0 < a) (ha' : a < 32) (hb : 0 < b) (hb' : b < 32) (hc : 0 < c) (hc' : c < 32) :
    Calls Tryd.prog 121 #[.int .u32 (x : Int), .int .i64 p, .int .i64 q, .int .i64 r] w fun r w' => r = .returned (.int .u32 ((rotr a x ^^^ rotr b x ^^^ rotr c x : Nat) : Int)) ∧ w' = w := by
  subst hp hq hr
  have e1 := rotr_lt (k := a) (by omega) hx
  have e2 := rotr_lt (k := b) (by omega) hx
  have e3 := rotr_lt (k := c) (by omega) hx
  go_enter Tryd.func121, Tryd.ntmps121
  go_wp2_with fail
  refine (rot_any x a _ rfl _ hx ha ha').mono ?_
  rintro e w' ⟨rfl, rfl⟩
  go_wp2_with fail
  refine (rot_any x b _ rfl _ hx hb hb').mono ?_
  rintro e w' ⟨rfl, rfl⟩
  go_wp2_with fail
  refine (rot_any x c _ rfl _ hx hc hc').mono ?_
  rintro e w' ⟨rfl, rfl⟩
  go_wp2
  go_ret
  exact ⟨ret_int (by rw [xor_u32 _ _ e1 e2, xor_u32 _ _ (xor_lt e1 e2) e3]), rfl⟩
end Go.Proofs.YtoanekgphcijfaaDoor
