import Derived.Test.YtoanekgphcijfaaDoorR3
import Derived.Test.YtoanekgphcijfaaDoorW9
namespace Go.Proofs.YtoanekgphcijfaaDoor
open Go.RowKit
open Sha

theorem app_toList (a b : ByteArray) : (a ++ b).data.toList = a.data.toList ++ b.data.toList := by
  rw [ByteArray.data_append]; simp
theorem app_size (a b : ByteArray) : (a ++ b).size = a.size + b.size := by rw [← size_toList, app_toList, List.length_append, size_toList, size_toList]
theorem rleaf_any (s : ByteArray) (w : World) (hs : s.size ≤ 140737488355190) :
    Calls Tryd.prog 14 #[.string s] w fun r w' => r = .returned (.string (str (leafH s.data.toList))) ∧ Below w.heap.size w w' := by
  have HE : Hid ((⟨#[0]⟩ ++ s : ByteArray).data.toList = 0 :: s.data.toList) := by show _ = _; rw [app_toList]; rfl
  go_enter Tryd.func14, Tryd.ntmps14
  go_wp2_with fail
  refine (rhash_any _ w (by rw [app_size]; show 1 + s.size ≤ _; omega)).mono ?_
  rintro e w1 ⟨rfl, hb⟩
  rw [HE.out]
  go_wp2
  go_ret
  exact ⟨rfl, hb⟩
theorem rnode_any (a b : ByteArray) (w : World) (hs : a.size + b.size ≤ 140737488355190) :
    Calls Tryd.prog 22 #[.string a, .string b] w fun r w' => r = .returned (.string (str (nodeH a.data.toList b.data.toList))) ∧ Below w.heap.size w w' := by
  have HE : Hid ((⟨#[1]⟩ ++ a ++ b : ByteArray).data.toList = 1 :: (a.data.toList ++ b.data.toList)) := by show _ = _; rw [app_toList, app_toList]; rfl
  go_enter Tryd.func22, Tryd.ntmps22
  go_wp2_with fail
  refine (rhash_any _ w (by rw [app_size, app_size]; show 1 + a.size + b.size ≤ _; omega)).mono ?_
  rintro e w1 ⟨rfl, hb⟩
  rw [HE.out]
  go_wp2
  go_ret
  exact ⟨rfl, hb⟩
def padTo (key : List UInt8) (p : UInt8) (j : Nat) : List UInt8 := (List.range j).map fun i => key.getD i 0 ^^^ p
theorem padTo_succ (key : List UInt8) (p : UInt8) (j : Nat) : padTo key p (j + 1) = padTo key p j ++ [key.getD j 0 ^^^ p] := by simp [padTo, List.range_succ]
theorem padTo_length (key : List UInt8) (p : UInt8) (j : Nat) : (padTo key p j).length = j := by simp [padTo]
theorem ownB_lit1 (w : World) (base : Nat) (hb : base ≤ w.heap.size) (u : Value) (x : UInt8) (hu : u = bcell x) : OwnB (w.alloc (.cells #[u] 5)) base (.slice (some ⟨w.heap.size, 0, none⟩) 1 1) [x] := by
  subst hu
  exact ⟨rfl, Or.inr ⟨w.heap.size, 1, #[bcell x], rfl, hb, heap_alloc_new _ _, Nat.le_refl _, by unfold maxLen; omega, rfl, rfl⟩⟩
theorem xor_val (c : UInt8) (p : UInt8) (P : Int) (hP : P = (p.toNat : Int)) : Value.int .i64 (bits .xor .i64 (c.toNat : Int) P) = .int .i64 ((c ^^^ p).toNat : Int) := by
  have h1 := UInt8.toNat_lt c
  have h2 := UInt8.toNat_lt p
  rw [hP, xor_i64 _ _ (by omega) (by omega), UInt8.toNat_xor]
theorem str_app (a : List UInt8) (x : UInt8) : str a ++ (⟨#[x]⟩ : ByteArray) = str (a ++ [x]) := by
  rw [← str_of (str a ++ (⟨#[x]⟩ : ByteArray)), app_toList, str_toList]
set_option maxHeartbeats 1000000 in
set_option maxRecDepth 100000 in
theorem rtag_short (key text : ByteArray) (w : World) (hk : key.size ≤ 64) (ht : text.size ≤ 140737488355100) :
    Calls Tryd.prog 15 #[.string key, .string text] w fun r w' => r = .returned (.string (str (sha (padKey key.data.toList 92 ++ sha (padKey key.data.toList 54 ++ text.data.toList))))) ∧ Below w.heap.size w w' := by
  go_enter Tryd.func15, Tryd.ntmps15
  go_wp2_with fail
  go_loopw [5, 6, 7] (fun a b i wr => ∃ j : Nat, j ≤ 64 ∧ i = .int .i64 (j : Int) ∧ a = .string (str (padTo key.data.toList 54 j)) ∧ b = .string (str (padTo key.data.toList 92 j)) ∧ Below w.heap.size w wr) (fun _ _ i _ => 64 - (intOf i).toNat)
  case atStart => exact ⟨0, by omega, rfl, rfl, rfl, Below.refl _ _⟩
  case round =>
    obtain ⟨j, hj, rfl, rfl, rfl, hbe⟩ := hrel
    have hsz := hbe.size
    by_cases hlt : j < 64
    · obtain ⟨c, hc⟩ : ∃ c, c = key.data.toList.getD j 0 := ⟨_, rfl⟩
      have hcb := UInt8.toNat_lt c
      have s1 : Hid (padTo key.data.toList 54 (j + 1) = padTo key.data.toList 54 j ++ [c ^^^ 54]) := by show _ = _; rw [padTo_succ, ← hc]
      have s2 : Hid (padTo key.data.toList 92 (j + 1) = padTo key.data.toList 92 j ++ [c ^^^ 92]) := by show _ = _; rw [padTo_succ, ← hc]
      have l1 : (str (padTo key.data.toList 54 j)).size ≤ 64 := by rw [str_size, padTo_length]; omega
      have l2 : (str (padTo key.data.toList 92 j)).size ≤ 64 := by rw [str_size, padTo_length]; omega
      have q1 := xor_val c 54 54 rfl
      have q2 := xor_val c 92 92 rfl
      have z1 : (c ^^^ 54).toNat < 256 := UInt8.toNat_lt (c ^^^ 54)
      have z2 : (c ^^^ 92).toNat < 256 := UInt8.toNat_lt (c ^^^ 92)
      have zc : c.toNat < 256 := UInt8.toNat_lt c
      have u1 : Hid (Value.int .u8 ((c ^^^ 54).toNat : Int) = bcell (c ^^^ 54)) := rfl
      have u2 : Hid (Value.int .u8 ((c ^^^ 92).toNat : Int) = bcell (c ^^^ 92)) := rfl
      have a1 := str_app (padTo key.data.toList 54 j) (c ^^^ 54)
      have a2 := str_app (padTo key.data.toList 92 j) (c ^^^ 92)
      rw [← s1.out] at a1
      rw [← s2.out] at a2
      have hc0 : key.size ≤ j → c.toNat = 0 := fun h => by rw [hc, List.getD_eq_getElem?_getD, List.getElem?_eq_none (by rw [size_toList]; exact h)]; rfl
      have hcx : ∀ hin : j < key.size, (key[j]'hin).toNat = c.toNat := fun hin => by have := byteAt_eq key j hin; unfold byteAt at this; rw [← hc] at this; omega
      generalize (c ^^^ 54).toNat = e1 at *
      generalize (c ^^^ 92).toNat = e2 at *
      generalize c.toNat = cn at *
      generalize hd1 : c ^^^ 54 = d1 at *
      generalize hd2 : c ^^^ 92 = d2 at *
      clear hd1 hd2 hc s1 s2
      generalize hn1 : padTo key.data.toList 54 (j + 1) = n1 at *
      generalize hn2 : padTo key.data.toList 92 (j + 1) = n2 at *
      have HN1 : Hid (padTo key.data.toList 54 (j + 1) = n1) := hn1
      have HN2 : Hid (padTo key.data.toList 92 (j + 1) = n2) := hn2
      clear hn1 hn2
      have o1 := ownB_lit1 wr w.heap.size hsz (.int .u8 (e1 : Int)) d1 u1.out
      have o2 : OwnB ((wr.alloc (.cells #[Value.int .u8 (e1 : Int)] 5)).alloc (.cells #[Value.int .u8 (e2 : Int)] 5)) w.heap.size (.slice (some ⟨wr.heap.size + 1, 0, none⟩) 1 1) [d2] := by
        have := ownB_lit1 (wr.alloc (.cells #[Value.int .u8 (e1 : Int)] 5)) w.heap.size (by simp; omega) (.int .u8 (e2 : Int)) d2 u2.out
        rwa [show (wr.alloc (.cells #[Value.int .u8 (e1 : Int)] 5)).heap.size = wr.heap.size + 1 by simp] at this
      have hb2 : Below w.heap.size w ((wr.alloc (.cells #[Value.int .u8 (e1 : Int)] 5)).alloc (.cells #[Value.int .u8 (e2 : Int)] 5)) := (hbe.alloc hsz _).alloc (by simp; omega) _
      by_cases hin : j < key.size
      · have hix := index_str key j hin (j : Int) rfl cn (hcx hin)
        clear hcx hc0
        go_wp2_with (first | (refine wpList_strB rfl (.tmp 30) rfl w.heap.size _ _ rfl o1 ?_) | (refine wpList_strB rfl (.tmp 37) rfl w.heap.size _ _ rfl o2 ?_) | fail)
        go_roundw
        case rel => exact ⟨j + 1, by omega, by go_num, by rw [HN1.out], by rw [HN2.out], hb2⟩
        case measure => simp [intOf]; omega
      · have hcz : cn = 0 := hc0 (by omega)
        rw [hcz] at q1 q2
        clear hcx hc0 zc hcz
        go_wp2_with (first | (refine wpList_strB rfl (.tmp 30) rfl w.heap.size _ _ rfl o1 ?_) | (refine wpList_strB rfl (.tmp 37) rfl w.heap.size _ _ rfl o2 ?_) | fail)
        go_roundw
        case rel => exact ⟨j + 1, by omega, by go_num, by rw [HN1.out], by rw [HN2.out], (hbe.alloc hsz _).alloc (by simp; omega) _⟩
        case measure => simp [intOf]; omega
    · obtain rfl : j = 64 := by omega
      have p1 : Hid (padTo key.data.toList 54 64 = padKey key.data.toList 54) := rfl
      have p2 : Hid (padTo key.data.toList 92 64 = padKey key.data.toList 92) := rfl
      have l1 : (str (padTo key.data.toList 54 64)).size ≤ 64 := by rw [str_size, padTo_length]; omega
      have l2 : (str (padTo key.data.toList 92 64)).size ≤ 64 := by rw [str_size, padTo_length]; omega
      go_wp2_with fail
      refine (rhash_any _ wr (by rw [app_size]; omega)).mono ?_
      rintro e w1 ⟨rfl, hb1⟩
      have hb2 := hbe.trans (hb1.mono hsz)
      have hs2 := hb2.size
      rw [app_toList, str_toList, p1.out]
      have l3 : (⟨(sha (padKey key.data.toList 54 ++ text.data.toList)).toArray⟩ : ByteArray).size ≤ 64 := by show (str _).size ≤ 64; rw [str_size, sha_length]; omega
      have HE : Hid ((str (padTo key.data.toList 92 64) ++ (⟨(sha (padKey key.data.toList 54 ++ text.data.toList)).toArray⟩ : ByteArray)).data.toList = padKey key.data.toList 92 ++ sha (padKey key.data.toList 54 ++ text.data.toList)) := by
        show _ = _
        rw [app_toList, str_toList, p2.out]
      generalize (⟨(sha (padKey key.data.toList 54 ++ text.data.toList)).toArray⟩ : ByteArray) = in1 at *
      go_wp2_with fail
      refine (rhash_any _ w1 (by rw [app_size]; omega)).mono ?_
      rintro e w2 ⟨rfl, hb3⟩
      rw [HE.out]
      have hb4 := hb2.trans (hb3.mono hs2)
      go_wp2
      go_ret
      exact ⟨rfl, hb4⟩
set_option maxHeartbeats 1000000 in
set_option maxRecDepth 100000 in
theorem rtag_long (key text : ByteArray) (w : World) (hkl : 64 < key.size) (hku : key.size ≤ 140737488355100) (ht : text.size ≤ 140737488355100) :
    Calls Tryd.prog 15 #[.string key, .string text] w fun r w' => r = .returned (.string (str (sha (padKey (sha key.data.toList) 92 ++ sha (padKey (sha key.data.toList) 54 ++ text.data.toList))))) ∧ Below w.heap.size w w' := by
  go_enter Tryd.func15, Tryd.ntmps15
  go_wp2_with fail
  refine (rhash_any key w (by omega)).mono ?_
  rintro e w0 ⟨rfl, hb0⟩
  have hk : (⟨(sha key.data.toList).toArray⟩ : ByteArray).size ≤ 64 := by show (str _).size ≤ 64; rw [str_size, sha_length]; omega
  have HK2 : Hid ((⟨(sha key.data.toList).toArray⟩ : ByteArray).data.toList = sha key.data.toList) := str_toList _
  generalize (⟨(sha key.data.toList).toArray⟩ : ByteArray) = k2 at *
  go_wp2_with fail
  go_loopw [5, 6, 7] (fun a b i wr => ∃ j : Nat, j ≤ 64 ∧ i = .int .i64 (j : Int) ∧ a = .string (str (padTo k2.data.toList 54 j)) ∧ b = .string (str (padTo k2.data.toList 92 j)) ∧ Below w.heap.size w wr) (fun _ _ i _ => 64 - (intOf i).toNat)
  case atStart => exact ⟨0, by omega, rfl, rfl, rfl, hb0⟩
  case round =>
    clear hb0
    obtain ⟨j, hj, rfl, rfl, rfl, hbe⟩ := hrel
    have hsz := hbe.size
    by_cases hlt : j < 64
    · obtain ⟨c, hc⟩ : ∃ c, c = k2.data.toList.getD j 0 := ⟨_, rfl⟩
      have hcb := UInt8.toNat_lt c
      have s1 : Hid (padTo k2.data.toList 54 (j + 1) = padTo k2.data.toList 54 j ++ [c ^^^ 54]) := by show _ = _; rw [padTo_succ, ← hc]
      have s2 : Hid (padTo k2.data.toList 92 (j + 1) = padTo k2.data.toList 92 j ++ [c ^^^ 92]) := by show _ = _; rw [padTo_succ, ← hc]
      have l1 : (str (padTo k2.data.toList 54 j)).size ≤ 64 := by rw [str_size, padTo_length]; omega
      have l2 : (str (padTo k2.data.toList 92 j)).size ≤ 64 := by rw [str_size, padTo_length]; omega
      have q1 := xor_val c 54 54 rfl
      have q2 := xor_val c 92 92 rfl
      have z1 : (c ^^^ 54).toNat < 256 := UInt8.toNat_lt (c ^^^ 54)
      have z2 : (c ^^^ 92).toNat < 256 := UInt8.toNat_lt (c ^^^ 92)
      have zc : c.toNat < 256 := UInt8.toNat_lt c
      have u1 : Hid (Value.int .u8 ((c ^^^ 54).toNat : Int) = bcell (c ^^^ 54)) := rfl
      have u2 : Hid (Value.int .u8 ((c ^^^ 92).toNat : Int) = bcell (c ^^^ 92)) := rfl
      have a1 := str_app (padTo k2.data.toList 54 j) (c ^^^ 54)
      have a2 := str_app (padTo k2.data.toList 92 j) (c ^^^ 92)
      rw [← s1.out] at a1
      rw [← s2.out] at a2
      have hc0 : k2.size ≤ j → c.toNat = 0 := fun h => by rw [hc, List.getD_eq_getElem?_getD, List.getElem?_eq_none (by rw [size_toList]; exact h)]; rfl
      have hcx : ∀ hin : j < k2.size, (k2[j]'hin).toNat = c.toNat := fun hin => by have := byteAt_eq k2 j hin; unfold byteAt at this; rw [← hc] at this; omega
      generalize (c ^^^ 54).toNat = e1 at *
      generalize (c ^^^ 92).toNat = e2 at *
      generalize c.toNat = cn at *
      generalize hd1 : c ^^^ 54 = d1 at *
      generalize hd2 : c ^^^ 92 = d2 at *
      clear hd1 hd2 hc s1 s2
      generalize hn1 : padTo k2.data.toList 54 (j + 1) = n1 at *
      generalize hn2 : padTo k2.data.toList 92 (j + 1) = n2 at *
      have HN1 : Hid (padTo k2.data.toList 54 (j + 1) = n1) := hn1
      have HN2 : Hid (padTo k2.data.toList 92 (j + 1) = n2) := hn2
      clear hn1 hn2
      have o1 := ownB_lit1 wr w.heap.size hsz (.int .u8 (e1 : Int)) d1 u1.out
      have o2 : OwnB ((wr.alloc (.cells #[Value.int .u8 (e1 : Int)] 5)).alloc (.cells #[Value.int .u8 (e2 : Int)] 5)) w.heap.size (.slice (some ⟨wr.heap.size + 1, 0, none⟩) 1 1) [d2] := by
        have := ownB_lit1 (wr.alloc (.cells #[Value.int .u8 (e1 : Int)] 5)) w.heap.size (by simp; omega) (.int .u8 (e2 : Int)) d2 u2.out
        rwa [show (wr.alloc (.cells #[Value.int .u8 (e1 : Int)] 5)).heap.size = wr.heap.size + 1 by simp] at this
      have hb2 : Below w.heap.size w ((wr.alloc (.cells #[Value.int .u8 (e1 : Int)] 5)).alloc (.cells #[Value.int .u8 (e2 : Int)] 5)) := (hbe.alloc hsz _).alloc (by simp; omega) _
      by_cases hin : j < k2.size
      · have hix := index_str k2 j hin (j : Int) rfl cn (hcx hin)
        clear hcx hc0
        go_wp2_with (first | (refine wpList_strB rfl (.tmp 30) rfl w.heap.size _ _ rfl o1 ?_) | (refine wpList_strB rfl (.tmp 37) rfl w.heap.size _ _ rfl o2 ?_) | fail)
        go_roundw
        case rel => exact ⟨j + 1, by omega, by go_num, by rw [HN1.out], by rw [HN2.out], hb2⟩
        case measure => simp [intOf]; omega
      · have hcz : cn = 0 := hc0 (by omega)
        rw [hcz] at q1 q2
        clear hcx hc0 zc hcz
        go_wp2_with (first | (refine wpList_strB rfl (.tmp 30) rfl w.heap.size _ _ rfl o1 ?_) | (refine wpList_strB rfl (.tmp 37) rfl w.heap.size _ _ rfl o2 ?_) | fail)
        go_roundw
        case rel => exact ⟨j + 1, by omega, by go_num, by rw [HN1.out], by rw [HN2.out], (hbe.alloc hsz _).alloc (by simp; omega) _⟩
        case measure => simp [intOf]; omega
    · obtain rfl : j = 64 := by omega
      have p1 : Hid (padTo k2.data.toList 54 64 = padKey k2.data.toList 54) := rfl
      have p2 : Hid (padTo k2.data.toList 92 64 = padKey k2.data.toList 92) := rfl
      have l1 : (str (padTo k2.data.toList 54 64)).size ≤ 64 := by rw [str_size, padTo_length]; omega
      have l2 : (str (padTo k2.data.toList 92 64)).size ≤ 64 := by rw [str_size, padTo_length]; omega
      go_wp2_with fail
      refine (rhash_any _ wr (by rw [app_size]; omega)).mono ?_
      rintro e w1 ⟨rfl, hb1⟩
      have hb2 := hbe.trans (hb1.mono hsz)
      have hs2 := hb2.size
      rw [app_toList, str_toList, p1.out]
      have l3 : (⟨(sha (padKey k2.data.toList 54 ++ text.data.toList)).toArray⟩ : ByteArray).size ≤ 64 := by show (str _).size ≤ 64; rw [str_size, sha_length]; omega
      have HE : Hid ((str (padTo k2.data.toList 92 64) ++ (⟨(sha (padKey k2.data.toList 54 ++ text.data.toList)).toArray⟩ : ByteArray)).data.toList = padKey k2.data.toList 92 ++ sha (padKey k2.data.toList 54 ++ text.data.toList)) := by
        show _ = _
        rw [app_toList, str_toList, p2.out]
      generalize (⟨(sha (padKey k2.data.toList 54 ++ text.data.toList)).toArray⟩ : ByteArray) = in1 at *
      go_wp2_with fail
      refine (rhash_any _ w1 (by rw [app_size]; omega)).mono ?_
      rintro e w2 ⟨rfl, hb3⟩
      rw [HE.out]
      have hb4 := hb2.trans (hb3.mono hs2)
      go_wp2
      go_ret
      exact ⟨by rw [← HK2.out]; rfl, hb4⟩
theorem rtag_any (key text : ByteArray) (w : World) (hk : key.size ≤ 140737488355100) (ht : text.size ≤ 140737488355100) :
    Calls Tryd.prog 15 #[.string key, .string text] w fun r w' => r = .returned (.string (str (hmac key.data.toList text.data.toList))) ∧ Below w.heap.size w w' := by
  unfold hmac shortKey
  by_cases h : 64 < key.size
  · rw [if_pos (by rw [size_toList]; exact h)]; exact rtag_long key text w h hk ht
  · rw [if_neg (by rw [size_toList]; exact h)]; exact rtag_short key text w (by omega) ht
end Go.Proofs.YtoanekgphcijfaaDoor
