/-
  PLAIN MATHEMATICS: SHA-256 on natural numbers (words below 2 to the 32nd) and lists of bytes; the laws by which two programs' ways of reckoning it meet. Own work.
-/
import Derived.Laws.BitsAllLaws
import Derived.Laws.Bits64
namespace Go.Proofs.YtoanekgphcijfaaDoor.Sha

abbrev M : Nat := 4294967296

def rotr (k x : Nat) : Nat := x / 2 ^ k + x % 2 ^ k * 2 ^ (32 - k)
def sig0 (x : Nat) : Nat := rotr 7 x ^^^ rotr 18 x ^^^ (x / 8)
def sig1 (x : Nat) : Nat := rotr 17 x ^^^ rotr 19 x ^^^ (x / 1024)
def big0 (x : Nat) : Nat := rotr 2 x ^^^ rotr 13 x ^^^ rotr 22 x
def big1 (x : Nat) : Nat := rotr 6 x ^^^ rotr 11 x ^^^ rotr 25 x
def ch (e f g : Nat) : Nat := (e &&& f) ^^^ ((4294967295 - e) &&& g)
def maj (a b c : Nat) : Nat := (a &&& b) ^^^ (a &&& c) ^^^ (b &&& c)

theorem xor_lt {a b : Nat} (ha : a < 4294967296) (hb : b < 4294967296) : a ^^^ b < 4294967296 := Nat.xor_lt_two_pow (n := 32) ha hb
theorem and_lt {a b : Nat} (ha : a < 4294967296) : a &&& b < 4294967296 := Nat.lt_of_le_of_lt Nat.and_le_left ha
theorem rotr_lt {k x : Nat} (hk : k ≤ 32) (hx : x < 4294967296) : rotr k x < 4294967296 := by
  unfold rotr
  have e : (2 : Nat) ^ k * 2 ^ (32 - k) = 4294967296 := by rw [← Nat.pow_add]; rw [show k + (32 - k) = 32 by omega]
  have h1 : x / 2 ^ k < 2 ^ (32 - k) := by
    rw [Nat.div_lt_iff_lt_mul (Nat.two_pow_pos k)]; rw [Nat.mul_comm]; omega
  have h2 : x % 2 ^ k + 1 ≤ 2 ^ k := Nat.mod_lt _ (Nat.two_pow_pos k)
  have h3 : (x % 2 ^ k + 1) * 2 ^ (32 - k) ≤ 2 ^ k * 2 ^ (32 - k) := Nat.mul_le_mul_right _ h2
  rw [Nat.add_mul] at h3
  omega
theorem sig0_lt {x : Nat} (h : x < 4294967296) : sig0 x < 4294967296 := xor_lt (xor_lt (rotr_lt (by omega) h) (rotr_lt (by omega) h)) (by omega)
theorem sig1_lt {x : Nat} (h : x < 4294967296) : sig1 x < 4294967296 := xor_lt (xor_lt (rotr_lt (by omega) h) (rotr_lt (by omega) h)) (by omega)
theorem big0_lt {x : Nat} (h : x < 4294967296) : big0 x < 4294967296 := xor_lt (xor_lt (rotr_lt (by omega) h) (rotr_lt (by omega) h)) (rotr_lt (by omega) h)
theorem big1_lt {x : Nat} (h : x < 4294967296) : big1 x < 4294967296 := xor_lt (xor_lt (rotr_lt (by omega) h) (rotr_lt (by omega) h)) (rotr_lt (by omega) h)
theorem ch_lt {e f g : Nat} (h : e < 4294967296) : ch e f g < 4294967296 := xor_lt (and_lt h) (and_lt (by omega))
theorem maj_lt {a b c : Nat} (ha : a < 4294967296) (hb : b < 4294967296) : maj a b c < 4294967296 := xor_lt (xor_lt (and_lt ha) (and_lt ha)) (and_lt hb)

/-! ### the machine's operations, on numbers that are natural -/
theorem ofInt32 (a : Nat) (h : a < 4294967296) : (BitVec.ofInt 32 (a : Int)).toNat = a := by
  rw [BitVec.ofInt_natCast, BitVec.toNat_ofNat]; exact Nat.mod_eq_of_lt (by omega)
theorem ofInt64 (a : Nat) (h : a < 18446744073709551616) : (BitVec.ofInt 64 (a : Int)).toNat = a := by
  rw [BitVec.ofInt_natCast, BitVec.toNat_ofNat]; exact Nat.mod_eq_of_lt (by omega)
theorem wrap_u32 (n : Int) : IntKind.u32.wrap n = n % 4294967296 := by simp [IntKind.wrap, IntKind.bits, IntKind.signed]
theorem wrap_u32_nat (n : Nat) : IntKind.u32.wrap (n : Int) = ((n % 4294967296 : Nat) : Int) := by rw [wrap_u32]; omega
theorem wrap_i64_small (n : Nat) (h : n < 9223372036854775808) : IntKind.i64.wrap (n : Int) = (n : Int) := by
  simp [IntKind.wrap, IntKind.bits, IntKind.signed]
  split <;> omega
theorem xor_u32 (a b : Nat) (ha : a < 4294967296) (hb : b < 4294967296) : bits .xor .u32 (a : Int) (b : Int) = ((a ^^^ b : Nat) : Int) := by
  show IntKind.u32.wrap ((BitVec.ofInt 32 (a : Int) ^^^ BitVec.ofInt 32 (b : Int)).toNat : Int) = _
  rw [BitVec.toNat_xor, ofInt32 a ha, ofInt32 b hb, wrap_u32_nat, Nat.mod_eq_of_lt (xor_lt ha hb)]
theorem and_u32 (a b : Nat) (ha : a < 4294967296) (hb : b < 4294967296) : bits .and .u32 (a : Int) (b : Int) = ((a &&& b : Nat) : Int) := by
  show IntKind.u32.wrap ((BitVec.ofInt 32 (a : Int) &&& BitVec.ofInt 32 (b : Int)).toNat : Int) = _
  rw [BitVec.toNat_and, ofInt32 a ha, ofInt32 b hb, wrap_u32_nat, Nat.mod_eq_of_lt (and_lt ha)]
theorem or_lt {a b : Nat} (ha : a < 4294967296) (hb : b < 4294967296) : a ||| b < 4294967296 := Nat.or_lt_two_pow (n := 32) ha hb
theorem or_u32 (a b : Nat) (ha : a < 4294967296) (hb : b < 4294967296) : bits .or .u32 (a : Int) (b : Int) = ((a ||| b : Nat) : Int) := by
  show IntKind.u32.wrap ((BitVec.ofInt 32 (a : Int) ||| BitVec.ofInt 32 (b : Int)).toNat : Int) = _
  rw [BitVec.toNat_or, ofInt32 a ha, ofInt32 b hb, wrap_u32_nat, Nat.mod_eq_of_lt (or_lt ha hb)]
theorem xor_i64 (a b : Nat) (ha : a < 4294967296) (hb : b < 4294967296) : bits .xor .i64 (a : Int) (b : Int) = ((a ^^^ b : Nat) : Int) := by
  have := xor_lt ha hb
  show IntKind.i64.wrap ((BitVec.ofInt 64 (a : Int) ^^^ BitVec.ofInt 64 (b : Int)).toNat : Int) = _
  rw [BitVec.toNat_xor, ofInt64 a (by omega), ofInt64 b (by omega), wrap_i64_small _ (by omega)]
theorem and_i64 (a b : Nat) (ha : a < 4294967296) (hb : b < 4294967296) : bits .and .i64 (a : Int) (b : Int) = ((a &&& b : Nat) : Int) := by
  have := and_lt (b := b) ha
  show IntKind.i64.wrap ((BitVec.ofInt 64 (a : Int) &&& BitVec.ofInt 64 (b : Int)).toNat : Int) = _
  rw [BitVec.toNat_and, ofInt64 a (by omega), ofInt64 b (by omega), wrap_i64_small _ (by omega)]

/-- A turn to the left by 32 - k, as RotateLeft32 reckons it. -/
theorem rotl_eq (k x : Nat) (hk : 0 < k) (hk' : k < 32) (hx : x < 4294967296) : (x * 2 ^ (32 - k) % 4294967296) ||| (x / 2 ^ k) = rotr k x := by
  have e : (2 : Nat) ^ k * 2 ^ (32 - k) = 4294967296 := by rw [← Nat.pow_add]; rw [show k + (32 - k) = 32 by omega]
  have h1 : x / 2 ^ k < 2 ^ (32 - k) := by
    rw [Nat.div_lt_iff_lt_mul (Nat.two_pow_pos k)]; rw [Nat.mul_comm]; omega
  have h0 : x * 2 ^ (32 - k) % 4294967296 = x % 2 ^ k * 2 ^ (32 - k) := by
    rw [← e, Nat.mul_mod_mul_right]
  rw [h0]
  have := Nat.shiftLeft_add_eq_or_of_lt h1 (x % 2 ^ k)
  rw [Nat.shiftLeft_eq] at this
  rw [← this]
  unfold rotr
  omega

/-! ### the schedule -/
def word (bl : Nat → Nat) (i : Nat) : Nat := ((bl (4 * i) * 256 + bl (4 * i + 1)) * 256 + bl (4 * i + 2)) * 256 + bl (4 * i + 3)
def wnext (bl : Nat → Nat) (l : List Nat) : Nat :=
  if l.length < 16 then word bl l.length
  else (l.getD (l.length - 16) 0 + sig0 (l.getD (l.length - 15) 0) + l.getD (l.length - 7) 0 + sig1 (l.getD (l.length - 2) 0)) % 4294967296
def wl (bl : Nat → Nat) : Nat → List Nat
  | 0 => []
  | n + 1 => wl bl n ++ [wnext bl (wl bl n)]
def W (bl : Nat → Nat) (i : Nat) : Nat := wnext bl (wl bl i)
theorem wl_length (bl : Nat → Nat) (n : Nat) : (wl bl n).length = n := by
  induction n with
  | zero => rfl
  | succ n ih => simp [wl, ih]
theorem wl_getD (bl : Nat → Nat) (n j : Nat) (h : j < n) : (wl bl n).getD j 0 = W bl j := by
  induction n with
  | zero => omega
  | succ n ih =>
    simp only [wl]
    by_cases hj : j < n
    · rw [List.getD_eq_getElem?_getD, List.getElem?_append_left (by rw [wl_length]; exact hj), ← List.getD_eq_getElem?_getD]; exact ih hj
    · obtain rfl : j = n := by omega
      rw [List.getD_eq_getElem?_getD, List.getElem?_append_right (by rw [wl_length]; omega), wl_length]
      simp [W]
theorem W_small (bl : Nat → Nat) (i : Nat) (h : i < 16) : W bl i = word bl i := by simp [W, wnext, wl_length, h]
theorem W_big (bl : Nat → Nat) (i : Nat) (h : 16 ≤ i) : W bl i = (W bl (i - 16) + sig0 (W bl (i - 15)) + W bl (i - 7) + sig1 (W bl (i - 2))) % 4294967296 := by
  conv => lhs; unfold W wnext
  rw [wl_length, if_neg (by omega), wl_getD _ _ _ (by omega), wl_getD _ _ _ (by omega), wl_getD _ _ _ (by omega), wl_getD _ _ _ (by omega)]
theorem W_lt (bl : Nat → Nat) (hbl : ∀ j, bl j < 256) (i : Nat) : W bl i < 4294967296 := by
  by_cases h : i < 16
  · rw [W_small _ _ h]; unfold word
    have := hbl (4 * i); have := hbl (4 * i + 1); have := hbl (4 * i + 2); have := hbl (4 * i + 3); omega
  · rw [W_big _ _ (by omega)]; exact Nat.mod_lt _ (by decide)
theorem or_add (a b n : Nat) (h : b < 2 ^ n) : a * 2 ^ n ||| b = a * 2 ^ n + b := by
  have := Nat.shiftLeft_add_eq_or_of_lt h a
  rw [Nat.shiftLeft_eq] at this
  exact this.symm
theorem word_or (a b c d : Nat) (ha : a < 256) (hb : b < 256) (hc : c < 256) (hd : d < 256) :
    bits .or .u32 (bits .or .u32 (bits .or .u32 ((a : Int) * 16777216) ((b : Int) * 65536)) ((c : Int) * 256)) (d : Int) = ((((a * 256 + b) * 256 + c) * 256 + d : Nat) : Int) := by
  have e1 : ((a : Int) * 16777216) = ((a * 16777216 : Nat) : Int) := by simp
  have e2 : ((b : Int) * 65536) = ((b * 65536 : Nat) : Int) := by simp
  have e3 : ((c : Int) * 256) = ((c * 256 : Nat) : Int) := by simp
  have h1 : a * 16777216 ||| b * 65536 = (a * 256 + b) * 65536 := by
    have := or_add (a) (b * 65536) 24 (by simp; omega)
    simp at this; rw [this]; omega
  have h2 : (a * 256 + b) * 65536 ||| c * 256 = ((a * 256 + b) * 256 + c) * 256 := by
    have := or_add (a * 256 + b) (c * 256) 16 (by simp; omega)
    simp at this; rw [this]; omega
  have h3 : ((a * 256 + b) * 256 + c) * 256 ||| d = ((a * 256 + b) * 256 + c) * 256 + d := by
    have := or_add ((a * 256 + b) * 256 + c) d 8 (by simp; omega)
    simpa using this
  rw [e1, e2, or_u32 _ _ (by omega) (by omega), h1, e3, or_u32 _ _ (by omega) (by omega), h2, or_u32 _ _ (by omega) (by omega), h3]
theorem sig0_u32 (x : Nat) (h : x < 4294967296) : bits .xor .u32 (bits .xor .u32 (rotr 7 x : Int) (rotr 18 x : Int)) ((x : Int) / 8) = ((sig0 x : Nat) : Int) := by
  have e : ((x : Int) / 8) = ((x / 8 : Nat) : Int) := by simp
  rw [e, xor_u32 _ _ (rotr_lt (by omega) h) (rotr_lt (by omega) h), xor_u32 _ _ (xor_lt (rotr_lt (by omega) h) (rotr_lt (by omega) h)) (by omega)]; rfl
theorem sig1_u32 (x : Nat) (h : x < 4294967296) : bits .xor .u32 (bits .xor .u32 (rotr 17 x : Int) (rotr 19 x : Int)) ((x : Int) / 1024) = ((sig1 x : Nat) : Int) := by
  have e : ((x : Int) / 1024) = ((x / 1024 : Nat) : Int) := by simp
  rw [e, xor_u32 _ _ (rotr_lt (by omega) h) (rotr_lt (by omega) h), xor_u32 _ _ (xor_lt (rotr_lt (by omega) h) (rotr_lt (by omega) h)) (by omega)]; rfl
theorem sig0_i64 (x : Nat) (h : x < 4294967296) : bits .xor .i64 (bits .xor .i64 (rotr 7 x : Int) (rotr 18 x : Int)) ((x : Int) / 8) = ((sig0 x : Nat) : Int) := by
  have e : ((x : Int) / 8) = ((x / 8 : Nat) : Int) := by simp
  rw [e, xor_i64 _ _ (rotr_lt (by omega) h) (rotr_lt (by omega) h), xor_i64 _ _ (xor_lt (rotr_lt (by omega) h) (rotr_lt (by omega) h)) (by omega)]; rfl
theorem sig1_i64 (x : Nat) (h : x < 4294967296) : bits .xor .i64 (bits .xor .i64 (rotr 17 x : Int) (rotr 19 x : Int)) ((x : Int) / 1024) = ((sig1 x : Nat) : Int) := by
  have e : ((x : Int) / 1024) = ((x / 1024 : Nat) : Int) := by simp
  rw [e, xor_i64 _ _ (rotr_lt (by omega) h) (rotr_lt (by omega) h), xor_i64 _ _ (xor_lt (rotr_lt (by omega) h) (rotr_lt (by omega) h)) (by omega)]; rfl
/-- A word of the schedule as the program reckons it, over uint32. -/
theorem W_u32 (bl : Nat → Nat) (hbl : ∀ j, bl j < 256) (k : Nat) (h : 16 ≤ k) :
    ((W bl (k - 16) : Int) + bits .xor .u32 (bits .xor .u32 (rotr 7 (W bl (k - 15)) : Int) (rotr 18 (W bl (k - 15)) : Int)) ((W bl (k - 15) : Int) / 8) + (W bl (k - 7) : Int)
      + bits .xor .u32 (bits .xor .u32 (rotr 17 (W bl (k - 2)) : Int) (rotr 19 (W bl (k - 2)) : Int)) ((W bl (k - 2) : Int) / 1024)) % 4294967296 = ((W bl k : Nat) : Int) := by
  rw [sig0_u32 _ (W_lt bl hbl _), sig1_u32 _ (W_lt bl hbl _), W_big bl k h]; omega

/-! ### the rounds -/
def Ks : List Nat := [1116352408, 1899447441, 3049323471, 3921009573, 961987163, 1508970993, 2453635748, 2870763221, 3624381080, 310598401, 607225278, 1426881987, 1925078388, 2162078206, 2614888103, 3248222580, 3835390401, 4022224774, 264347078, 604807628, 770255983, 1249150122, 1555081692, 1996064986, 2554220882, 2821834349, 2952996808, 3210313671, 3336571891, 3584528711, 113926993, 338241895, 666307205, 773529912, 1294757372, 1396182291, 1695183700, 1986661051, 2177026350, 2456956037, 2730485921, 2820302411, 3259730800, 3345764771, 3516065817, 3600352804, 4094571909, 275423344, 430227734, 506948616, 659060556, 883997877, 958139571, 1322822218, 1537002063, 1747873779, 1955562222, 2024104815, 2227730452, 2361852424, 2428436474, 2756734187, 3204031479, 3329325298]
def K (i : Nat) : Nat := Ks.getD i 0
theorem K_lt (i : Nat) : K i < 4294967296 := by
  by_cases h : i < 64
  · have : ∀ i : Fin 64, K i.val < 4294967296 := by decide
    exact this ⟨i, h⟩
  · unfold K; rw [List.getD_eq_getElem?_getD, List.getElem?_eq_none (by show 64 ≤ i; omega)]; decide
structure S8 where
  a : Nat
  b : Nat
  c : Nat
  d : Nat
  e : Nat
  f : Nat
  g : Nat
  h : Nat
def S8.ok (s : S8) : Prop := s.a < 4294967296 ∧ s.b < 4294967296 ∧ s.c < 4294967296 ∧ s.d < 4294967296 ∧ s.e < 4294967296 ∧ s.f < 4294967296 ∧ s.g < 4294967296 ∧ s.h < 4294967296
def S8.nth (s : S8) : Nat → Nat
  | 0 => s.a
  | 1 => s.b
  | 2 => s.c
  | 3 => s.d
  | 4 => s.e
  | 5 => s.f
  | 6 => s.g
  | _ => s.h
theorem S8.nth_lt {s : S8} (h : s.ok) (j : Nat) : s.nth j < 4294967296 := by
  obtain ⟨h0, h1, h2, h3, h4, h5, h6, h7⟩ := h
  unfold S8.nth; split <;> assumption
def t1 (s : S8) (k w : Nat) : Nat := s.h + big1 s.e + ch s.e s.f s.g + k + w
def t2 (s : S8) : Nat := big0 s.a + maj s.a s.b s.c
def rnd (s : S8) (k w : Nat) : S8 := ⟨(t1 s k w + t2 s) % 4294967296, s.a, s.b, s.c, (s.d + t1 s k w) % 4294967296, s.e, s.f, s.g⟩
theorem rnd_ok {s : S8} (h : s.ok) (k w : Nat) : (rnd s k w).ok := by
  obtain ⟨h0, h1, h2, h3, h4, h5, h6, h7⟩ := h
  exact ⟨Nat.mod_lt _ (by decide), h0, h1, h2, Nat.mod_lt _ (by decide), h4, h5, h6⟩
def rnds (w : Nat → Nat) (s : S8) : Nat → S8
  | 0 => s
  | n + 1 => rnd (rnds w s n) (K n) (w n)
theorem rnds_ok (w : Nat → Nat) {s : S8} (h : s.ok) (n : Nat) : (rnds w s n).ok := by
  induction n with
  | zero => exact h
  | succ n ih => exact rnd_ok ih _ _
def add8 (s t : S8) : S8 := ⟨(s.a + t.a) % 4294967296, (s.b + t.b) % 4294967296, (s.c + t.c) % 4294967296, (s.d + t.d) % 4294967296, (s.e + t.e) % 4294967296, (s.f + t.f) % 4294967296, (s.g + t.g) % 4294967296, (s.h + t.h) % 4294967296⟩
theorem add8_nth (s t : S8) (j : Nat) : (add8 s t).nth j = (s.nth j + t.nth j) % 4294967296 := by
  match j with
  | 0 | 1 | 2 | 3 | 4 | 5 | 6 => rfl
  | _ + 7 => rfl
theorem add8_ok (s t : S8) : (add8 s t).ok := ⟨Nat.mod_lt _ (by decide), Nat.mod_lt _ (by decide), Nat.mod_lt _ (by decide), Nat.mod_lt _ (by decide), Nat.mod_lt _ (by decide), Nat.mod_lt _ (by decide), Nat.mod_lt _ (by decide), Nat.mod_lt _ (by decide)⟩
/-- One block of 64 bytes. -/
def compress (s : S8) (bl : Nat → Nat) : S8 := add8 s (rnds (W bl) s 64)
theorem compress_ok (s : S8) (bl : Nat → Nat) : (compress s bl).ok := add8_ok _ _
theorem xor_ones (e : Nat) (h : e < 4294967296) : 4294967295 ^^^ e = 4294967295 - e := by
  apply Nat.eq_of_testBit_eq
  intro i
  have h1 : Nat.testBit 4294967295 i = decide (i < 32) := by rw [show 4294967295 = 2 ^ 32 - 1 by decide, Nat.testBit_two_pow_sub_one]
  have h2 : (4294967295 - e).testBit i = (decide (i < 32) && !e.testBit i) := by
    rw [show 4294967295 - e = 2 ^ 32 - (e + 1) by omega, Nat.testBit_two_pow_sub_succ (by omega)]
  rw [Nat.testBit_xor, h1, h2]
  by_cases hi : i < 32
  · simp [hi]
  · have : e.testBit i = false := Nat.testBit_lt_two_pow (Nat.lt_of_lt_of_le h (by
      have : 2 ^ 32 ≤ 2 ^ i := Nat.pow_le_pow_right (by omega) (by omega)
      simpa using this))
    simp [hi, this]
theorem not_u32 (e : Nat) (h : e < 4294967296) : bits .xor .u32 (if IntKind.u32.signed = true then -1 else IntKind.u32.max) (e : Int) = ((4294967295 - e : Nat) : Int) := by
  have e1 : (if IntKind.u32.signed = true then (-1 : Int) else IntKind.u32.max) = ((4294967295 : Nat) : Int) := by decide
  rw [e1, xor_u32 _ _ (by omega) h, xor_ones e h]
theorem ch_u32 (e f g : Nat) (he : e < 4294967296) (hf : f < 4294967296) (hg : g < 4294967296) :
    bits .xor .u32 (bits .and .u32 (e : Int) (f : Int)) (bits .and .u32 (bits .xor .u32 (if IntKind.u32.signed = true then -1 else IntKind.u32.max) (e : Int)) (g : Int)) = ((ch e f g : Nat) : Int) := by
  rw [not_u32 e he, and_u32 _ _ he hf, and_u32 _ _ (by omega) hg, xor_u32 _ _ (and_lt he) (and_lt (by omega))]; rfl
theorem maj_u32 (a b c : Nat) (ha : a < 4294967296) (hb : b < 4294967296) (hc : c < 4294967296) :
    bits .xor .u32 (bits .xor .u32 (bits .and .u32 (a : Int) (b : Int)) (bits .and .u32 (a : Int) (c : Int))) (bits .and .u32 (b : Int) (c : Int)) = ((maj a b c : Nat) : Int) := by
  rw [and_u32 _ _ ha hb, and_u32 _ _ ha hc, and_u32 _ _ hb hc, xor_u32 _ _ (and_lt ha) (and_lt ha), xor_u32 _ _ (xor_lt (and_lt ha) (and_lt ha)) (and_lt hb)]; rfl
theorem ch_i64 (e f g : Nat) (he : e < 4294967296) (hf : f < 4294967296) (hg : g < 4294967296) :
    bits .xor .i64 (bits .and .i64 (e : Int) (f : Int)) (bits .and .i64 ((4294967295 - e : Nat) : Int) (g : Int)) = ((ch e f g : Nat) : Int) := by
  rw [and_i64 _ _ he hf, and_i64 _ _ (by omega) hg, xor_i64 _ _ (and_lt he) (and_lt (by omega))]; rfl
theorem maj_i64 (a b c : Nat) (ha : a < 4294967296) (hb : b < 4294967296) (hc : c < 4294967296) :
    bits .xor .i64 (bits .xor .i64 (bits .and .i64 (a : Int) (b : Int)) (bits .and .i64 (a : Int) (c : Int))) (bits .and .i64 (b : Int) (c : Int)) = ((maj a b c : Nat) : Int) := by
  rw [and_i64 _ _ ha hb, and_i64 _ _ ha hc, and_i64 _ _ hb hc, xor_i64 _ _ (and_lt ha) (and_lt ha), xor_i64 _ _ (xor_lt (and_lt ha) (and_lt ha)) (and_lt hb)]; rfl
theorem xor3_i64 (x a b c : Nat) (h : x < 4294967296) (ha : a ≤ 32) (hb : b ≤ 32) (hc : c ≤ 32) : bits .xor .i64 (bits .xor .i64 (rotr a x : Int) (rotr b x : Int)) (rotr c x : Int) = ((rotr a x ^^^ rotr b x ^^^ rotr c x : Nat) : Int) := by
  rw [xor_i64 _ _ (rotr_lt ha h) (rotr_lt hb h), xor_i64 _ _ (xor_lt (rotr_lt ha h) (rotr_lt hb h)) (rotr_lt hc h)]
theorem big1_eq (x : Nat) : rotr 6 x ^^^ rotr 11 x ^^^ rotr 25 x = big1 x := rfl
theorem big0_eq (x : Nat) : rotr 2 x ^^^ rotr 13 x ^^^ rotr 22 x = big0 x := rfl
/-- A round's two new words, as the program reckons them over uint32. -/
theorem rnd_a (t : S8) (k w : Nat) : ((((t.h : Int) + (big1 t.e : Int) + (ch t.e t.f t.g : Int) + (k : Int) + (w : Int)) % 4294967296 + ((big0 t.a : Int) + (maj t.a t.b t.c : Int)) % 4294967296) % 4294967296) = ((rnd t k w).a : Int) := by
  simp only [rnd, t1, t2]; omega
theorem rnd_e (t : S8) (k w : Nat) : ((t.d : Int) + ((t.h : Int) + (big1 t.e : Int) + (ch t.e t.f t.g : Int) + (k : Int) + (w : Int)) % 4294967296) % 4294967296 = ((rnd t k w).e : Int) := by
  simp only [rnd, t1]; omega

/-! ### blocks, one behind the other -/
def init : S8 := ⟨1779033703, 3144134277, 1013904242, 2773480762, 1359893119, 2600822924, 528734635, 1541459225⟩
theorem init_ok : init.ok := by unfold init S8.ok; decide
/-- Byte j of block i. -/
def blk (l : List UInt8) (i j : Nat) : Nat := if j < 64 then (l.getD (64 * i + j) 0).toNat else 0
theorem blk_lt (l : List UInt8) (i j : Nat) : blk l i j < 256 := by
  unfold blk; split
  · exact UInt8.toNat_lt _
  · omega
def absorb (l : List UInt8) : Nat → S8
  | 0 => init
  | n + 1 => compress (absorb l n) (blk l n)
theorem absorb_ok (l : List UInt8) (n : Nat) : (absorb l n).ok := by
  cases n with
  | zero => exact init_ok
  | succ n => exact compress_ok _ _
theorem blk_append (l t : List UInt8) (i : Nat) (h : 64 * (i + 1) ≤ l.length) : blk (l ++ t) i = blk l i := by
  funext j
  unfold blk
  by_cases hj : j < 64
  · rw [if_pos hj, if_pos hj, List.getD_eq_getElem?_getD, List.getElem?_append_left (by omega), ← List.getD_eq_getElem?_getD]
  · rw [if_neg hj, if_neg hj]
theorem absorb_append (l t : List UInt8) (n : Nat) (h : 64 * n ≤ l.length) : absorb (l ++ t) n = absorb l n := by
  induction n with
  | zero => rfl
  | succ n ih => simp only [absorb]; rw [ih (by omega), blk_append _ _ _ h]

/-! ### the padding -/
def len8 (n : Nat) : List UInt8 := (List.range 8).map fun i => UInt8.ofNat (n / 2 ^ (56 - 8 * i))
def pad (n : Nat) : List UInt8 := 128 :: (List.replicate ((119 - n % 64) % 64) 0 ++ len8 (8 * n))
def be4 (x : Nat) : List UInt8 := [UInt8.ofNat (x / 16777216), UInt8.ofNat (x / 65536), UInt8.ofNat (x / 256), UInt8.ofNat x]
def outTo (s : S8) : Nat → List UInt8
  | 0 => []
  | n + 1 => outTo s n ++ be4 (s.nth n)
theorem outTo_length (s : S8) (n : Nat) : (outTo s n).length = 4 * n := by
  induction n with
  | zero => rfl
  | succ n ih => rw [outTo, List.length_append, ih]; simp [be4]; omega
def padded (m : List UInt8) : List UInt8 := m ++ pad m.length
/-- SHA-256. -/
def sha (m : List UInt8) : List UInt8 := outTo (absorb (padded m) ((padded m).length / 64)) 8
theorem sha_length (m : List UInt8) : (sha m).length = 32 := outTo_length _ _
theorem pad_length (n : Nat) : (pad n).length = 9 + (119 - n % 64) % 64 := by simp [pad, len8]; omega
theorem padded_length (m : List UInt8) : (padded m).length = m.length + 9 + (119 - m.length % 64) % 64 := by rw [padded, List.length_append, pad_length]; omega
theorem padded_mod (m : List UInt8) : (padded m).length % 64 = 0 := by rw [padded_length]; omega
end Go.Proofs.YtoanekgphcijfaaDoor.Sha
