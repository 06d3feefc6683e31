import Derived.Test.YtoanekgphcijfaaDoorR2
import Derived.Test.YtoanekgphcijfaaDoorLoose
import Derived.Test.YtoanekgphcijfaaDoorHasher
namespace Go.Proofs.YtoanekgphcijfaaDoor
open Go.RowKit
open Sha

theorem wpList_appI {w : World} {ops : Array Oper} {rest : List Oper} {o : Oper} {a : Act} {Q : Exit → Act → World → Prop} (hgd : o.guard = none) (s x : Operand)
    (ho : o.op = .call { callee := .builtin .append, args := #[s, x], argTypes := #[39, 39] })
    (base : Nat) (v : Value) (l : List Nat) (hs : a.eval s = v) (hown : OwnI w base v l)
    (vals : Array Value) (te : TypeId) (m c : Nat) (news : List Nat) (hx : a.eval x = .slice (some ⟨w.heap.size, 0, none⟩) m c) (hm : news.length = m) (hv : vals.toList = news.map intv)
    (hbytes : l.length + m ≤ 1000000) (hbase : base ≤ w.heap.size)
    (h : ∀ v' w', OwnI w' base v' (l ++ news) → w.grownBy w' v.ownBlock → wpList Tryd.prog ops Q rest (a.put o.dst v') w') : wpList Tryd.prog ops Q (o :: rest) a (w.alloc (.cells vals te)) := by
  refine wpList_app hgd s x _ ho base 3 (.int .i64 0) 8 und39 info3' rfl v _ hs hown vals te m c (news.map intv) hx (by simpa using hm) hv (intv_one _) (by rw [List.length_map]; omega) (by rw [List.length_map]; omega) hbase ?_
  intro v' w' h1 h2
  exact h v' w' (by unfold OwnI; rw [List.map_append]; exact h1) h2
theorem take_len8' (n j : Nat) (h : j < 8) : (len8 n).take (j + 1) = (len8 n).take j ++ [UInt8.ofNat (n / 2 ^ (56 - 8 * j))] := by
  rw [List.take_succ_eq_append_getElem (by simp [len8]; omega)]
  simp [len8]
theorem byte_lit (n P : Nat) (I : Int) (hI : I = ((n / P % 256 : Nat) : Int)) : #[Value.int .u8 I].toList = [UInt8.ofNat (n / P)].map bcell := by
  rw [hI]; simp only [List.map_cons, List.map_nil]; unfold bcell; rw [UInt8.toNat_ofNat']
/-- A string cut out of a text: its bytes. -/
theorem ext_size (t : ByteArray) (a b : Nat) (h : a ≤ b) (hb : b ≤ t.size) : (t.extract a b).size = b - a := by
  rw [← size_toList, Lib.extract_data, List.length_take, List.length_drop, size_toList]; omega
theorem ext_byte (T : List UInt8) (k j : Nat) (hj : j < 64) (hx : j < ((⟨T.toArray⟩ : ByteArray).extract (64 * k) (64 * k + 64)).size) :
    (((⟨T.toArray⟩ : ByteArray).extract (64 * k) (64 * k + 64))[j]'hx).toNat = blk T k j := by
  have e : ((⟨T.toArray⟩ : ByteArray).extract (64 * k) (64 * k + 64)).data.toList = (T.drop (64 * k)).take 64 := by
    rw [Lib.extract_data]; simp
  have h1 := byteAt_eq _ j hx
  unfold byteAt at h1
  rw [e] at h1
  have h2 : ((T.drop (64 * k)).take 64).getD j 0 = T.getD (64 * k + j) 0 := by
    rw [List.getD_eq_getElem?_getD, List.getElem?_take, if_pos hj, List.getElem?_drop, ← List.getD_eq_getElem?_getD]
  rw [h2] at h1
  unfold blk
  rw [if_pos hj]
  omega
theorem run_appB {w : World} (base : Nat) (v : Value) (l : List UInt8) (hown : OwnB w base v l) (g o m c : Nat) (news : List UInt8) (hc : ∀ j u, (news.map bcell)[j]? = some u → w.cell? ⟨g, o + j, none⟩ = some u) (hm : news.length = m) (hb : l.length + m ≤ 1000000) (hbase : base ≤ w.heap.size) :
    ∃ v' w', (heldApp #[64, 64] 64 #[v, .slice (some ⟨g, o, none⟩) m c]).run Tryd.prog w = .ok v' w' ∧ OwnB w' base v' (l ++ news) ∧ w.grownBy w' v.ownBlock := by
  obtain ⟨v', w', h1, h2, h3⟩ := run_heldApp (P := Tryd.prog) (w := w) 64 64 base 5 (.int .u8 0) 1 und44 info5' rfl v _ hown g o m c (news.map bcell) hc (by simpa using hm) (bcell_one _) (by rw [List.length_map]; omega) (by rw [List.length_map]; omega) hbase
  exact ⟨v', w', h1, by unfold OwnB; rw [List.map_append]; exact h2, h3⟩
theorem u8_val' (x : Nat) (I : Int) (h : I = ((x % 256 : Nat) : Int)) : Value.int .u8 I = bcell (UInt8.ofNat x) := by
  rw [h]; unfold bcell; rw [UInt8.toNat_ofNat']
theorem be4_val' (x : Nat) (hx : x < 4294967296) : #[Value.int .u8 ((x : Int) / 16777216), Value.int .u8 ((x : Int) / 65536 % 256), Value.int .u8 ((x : Int) / 256 % 256), Value.int .u8 ((x : Int) % 256)].toList = (be4 x).map bcell := by
  rw [u8_val' (x / 16777216) _ (by omega), u8_val' (x / 65536) _ (by omega), u8_val' (x / 256) _ (by omega), u8_val' x _ (by omega)]; rfl
theorem block_T (gh caph k N : Nat) (T : List UInt8) (w : World) (hT : T.length = 64 * N) (hk : k < N) (hc : ∀ j, j < 8 → w.cell? ⟨gh, 0 + j, none⟩ = some (.int .i64 ((absorb T k).nth j : Int))) (hg : gh < w.heap.size) :
    Calls Tryd.prog 76 #[.slice (some ⟨gh, 0, none⟩) 8 caph, .string ((⟨T.toArray⟩ : ByteArray).extract (64 * k) (64 * k + 64))] w fun r w' => ∃ v, r = .returned v ∧ OwnI w' w.heap.size v (st8 (absorb T (k + 1))) ∧ Below w.heap.size w w' := by
  have hTs : (⟨T.toArray⟩ : ByteArray).size = 64 * N := by rw [← size_toList]; simpa using hT
  have hxs := ext_size ⟨T.toArray⟩ (64 * k) (64 * k + 64) (by omega) (by omega)
  exact block_any gh 0 caph (absorb T k) _ (blk T k) w (absorb_ok T k) (by omega) (fun j h => ext_byte T k j h (by omega)) (blk_lt T k) hc hg
attribute [local go_sem ↓] heldApp_eq
def lenOfS : Value → Nat | .slice _ n _ => n | _ => 0
theorem Loose.len {w : World} {base : Nat} {v : Value} {l : List UInt8} (h : Loose w base v l) : lenOfS v = l.length := by
  obtain ⟨g, cap, rfl, _⟩ := h; rfl
set_option maxHeartbeats 2000000 in
set_option maxRecDepth 100000 in
theorem rhash_any (s : ByteArray) (w : World) (hs : s.size ≤ 140737488355200) :
    Calls Tryd.prog 39 #[.string s] w fun r w' => r = .returned (.string ⟨(sha s.data.toList).toArray⟩) ∧ Below w.heap.size w w' := by
  obtain ⟨Z, hZ⟩ : ∃ Z, Z = (119 - s.size % 64) % 64 := ⟨_, rfl⟩
  have hZ64 : Z < 64 := by omega
  have HZ : Hid (Z = (119 - s.size % 64) % 64) := hZ
  go_enter Tryd.func39, Tryd.ntmps39
  go_wp2_with (first | (refine wpList_bytesL rfl _ rfl s rfl ?_; intro vb wb hL hB) | (at_builtin; refine wpList_appL rfl (.tmp 17) (.tmp 18) rfl rfl w.heap.size _ _ rfl hL _ _ 1 1 [128] rfl rfl rfl (by decide) (by rw [size_toList]; omega) hB.size ?_; intro vc wc hLc hBc) | fail)
  have hbe := hB.trans (hBc.mono (Nat.le_refl _))
  clear hL hB hBc
  have hZ0 : (s.size + 1 + Z) % 64 = 56 := by omega
  have hZk : ∀ k, k < Z → (s.size + 1 + k) % 64 ≠ 56 := fun k hk => by omega
  have HZ0 : Hid ((s.size + 1 + Z) % 64 = 56) := hZ0
  have HZk : Hid (∀ k, k < Z → (s.size + 1 + k) % 64 ≠ 56) := hZk
  clear hZ hZ0 hZk
  go_loopw [4] (fun v wr => ∃ k : Nat, k ≤ Z ∧ Loose wr w.heap.size v (s.data.toList ++ 128 :: List.replicate k 0) ∧ Below w.heap.size w wr) (fun v _ => 140737488355328 - lenOfS v)
  case atStart => exact ⟨0, by omega, hLc, hbe⟩
  case round =>
    clear hbe hLc
    obtain ⟨k, hk, hL, hbe⟩ := hrel
    have hsz := hbe.size
    have hlen : (s.data.toList ++ 128 :: List.replicate k 0).length = s.size + 1 + k := by rw [List.length_append, size_toList]; simp; omega
    have hL0 := hL
    obtain ⟨g, cap, rfl, hgb, hg, hcap, hc1, hc2⟩ := hL0
    rw [hlen] at hcap ⊢
    rw [hlen] at hL
    by_cases hlt : k < Z
    · have hne : (((s.size : Int) + 1 + (k : Int)) % 64 != 56) = true := by rw [bne_iff_ne]; have := HZk.out k hlt; omega
      have HL : Hid (((s.data.toList ++ 128 :: List.replicate k 0).length) = s.size + 1 + k) := hlen
      have HR : Hid (s.data.toList ++ 128 :: List.replicate (k + 1) 0 = (s.data.toList ++ 128 :: List.replicate k 0) ++ [0]) := by show _ = _; rw [List.replicate_succ']; simp
      clear hc1 hc2 hlen
      go_wp2_with (first | (at_builtin; refine wpList_appL rfl (.tmp 24) (.tmp 25) rfl rfl w.heap.size _ _ rfl hL _ _ 1 1 [0] rfl rfl rfl (by decide) (by rw [HL.out]; omega) hsz ?_; intro vc wc hLc hBc) | fail)
      have hbe2 := hbe.trans hBc
      have hl2 := hLc.len
      refine ⟨⟨k + 1, by omega, by rw [HR.out]; exact hLc, hbe2⟩, ?_⟩
      rw [hl2, List.length_append, HL.out]
      show 140737488355328 - (s.size + 1 + k + 1) < 140737488355328 - (s.size + 1 + k)
      omega
    · obtain rfl : k = Z := by omega
      have hne : (((s.size : Int) + 1 + (k : Int)) % 64 != 56) = false := by rw [bne_eq_false_iff_eq]; have := HZ0.out; omega
      clear hc1 hc2
      go_wp2
      have hl8 : (len8 (8 * s.size)).length = 8 := by simp [len8]
      go_loopw [4, 5] (fun v i wr => ∃ j : Nat, j ≤ 8 ∧ i = .int .i64 (j : Int) ∧ Loose wr w.heap.size v ((s.data.toList ++ 128 :: List.replicate k 0) ++ (len8 (8 * s.size)).take j) ∧ Below w.heap.size w wr) (fun _ i _ => 8 - (intOf i).toNat)
      case atStart => exact ⟨0, by omega, rfl, by simpa using hL, hbe⟩
      case round =>
        clear hL hbe hsz hcap hg hgb
        obtain ⟨j, hj, rfl, hL, hbe⟩ := hrel
        have hsz := hbe.size
        have hlen2 : ((s.data.toList ++ 128 :: List.replicate k 0) ++ (len8 (8 * s.size)).take j).length = s.size + 1 + k + j := by rw [List.length_append, hlen, List.length_take, hl8]; omega
        by_cases hlt8 : j < 8
        · have HL : Hid (((s.data.toList ++ 128 :: List.replicate k 0) ++ (len8 (8 * s.size)).take j).length = s.size + 1 + k + j) := hlen2
          have HT := take_len8' (8 * s.size) j hlt8
          have HT : Hid ((len8 (8 * s.size)).take (j + 1) = (len8 (8 * s.size)).take j ++ [UInt8.ofNat (8 * s.size / 2 ^ (56 - 8 * j))]) := HT
          clear hlen2 hlen
          rcases (show j = 0 ∨ j = 1 ∨ j = 2 ∨ j = 3 ∨ j = 4 ∨ j = 5 ∨ j = 6 ∨ j = 7 by omega) with rfl | rfl | rfl | rfl | rfl | rfl | rfl | rfl
          · have HV : Hid (#[Value.int .u8 (8 * (s.size : Int) / 72057594037927936 % 256)].toList = [UInt8.ofNat (8 * s.size / 2 ^ (56 - 8 * 0))].map bcell) := byte_lit (8 * s.size) (2 ^ (56 - 8 * 0)) _ (by show _ = ((8 * s.size / 72057594037927936 % 256 : Nat) : Int); omega)
            go_wp2_with (first | (at_builtin; refine wpList_appL rfl (.tmp 35) (.tmp 41) rfl rfl w.heap.size _ _ rfl hL _ _ 1 1 _ rfl rfl HV.out (by decide) (by rw [HL.out]; omega) hsz ?_; intro vd wd hLd hBd) | fail)
            have hb2 := hbe.trans hBd
            go_roundw
            case rel => exact ⟨1, by omega, by go_num, by rw [HT.out, ← List.append_assoc]; exact hLd, hb2⟩
            case measure => simp [intOf]
          · have HV : Hid (#[Value.int .u8 (8 * (s.size : Int) / 281474976710656 % 256)].toList = [UInt8.ofNat (8 * s.size / 2 ^ (56 - 8 * 1))].map bcell) := byte_lit (8 * s.size) (2 ^ (56 - 8 * 1)) _ (by show _ = ((8 * s.size / 281474976710656 % 256 : Nat) : Int); omega)
            go_wp2_with (first | (at_builtin; refine wpList_appL rfl (.tmp 35) (.tmp 41) rfl rfl w.heap.size _ _ rfl hL _ _ 1 1 _ rfl rfl HV.out (by decide) (by rw [HL.out]; omega) hsz ?_; intro vd wd hLd hBd) | fail)
            have hb2 := hbe.trans hBd
            go_roundw
            case rel => exact ⟨2, by omega, by go_num, by rw [HT.out, ← List.append_assoc]; exact hLd, hb2⟩
            case measure => simp [intOf]
          · have HV : Hid (#[Value.int .u8 (8 * (s.size : Int) / 1099511627776 % 256)].toList = [UInt8.ofNat (8 * s.size / 2 ^ (56 - 8 * 2))].map bcell) := byte_lit (8 * s.size) (2 ^ (56 - 8 * 2)) _ (by show _ = ((8 * s.size / 1099511627776 % 256 : Nat) : Int); omega)
            go_wp2_with (first | (at_builtin; refine wpList_appL rfl (.tmp 35) (.tmp 41) rfl rfl w.heap.size _ _ rfl hL _ _ 1 1 _ rfl rfl HV.out (by decide) (by rw [HL.out]; omega) hsz ?_; intro vd wd hLd hBd) | fail)
            have hb2 := hbe.trans hBd
            go_roundw
            case rel => exact ⟨3, by omega, by go_num, by rw [HT.out, ← List.append_assoc]; exact hLd, hb2⟩
            case measure => simp [intOf]
          · have HV : Hid (#[Value.int .u8 (8 * (s.size : Int) / 4294967296 % 256)].toList = [UInt8.ofNat (8 * s.size / 2 ^ (56 - 8 * 3))].map bcell) := byte_lit (8 * s.size) (2 ^ (56 - 8 * 3)) _ (by show _ = ((8 * s.size / 4294967296 % 256 : Nat) : Int); omega)
            go_wp2_with (first | (at_builtin; refine wpList_appL rfl (.tmp 35) (.tmp 41) rfl rfl w.heap.size _ _ rfl hL _ _ 1 1 _ rfl rfl HV.out (by decide) (by rw [HL.out]; omega) hsz ?_; intro vd wd hLd hBd) | fail)
            have hb2 := hbe.trans hBd
            go_roundw
            case rel => exact ⟨4, by omega, by go_num, by rw [HT.out, ← List.append_assoc]; exact hLd, hb2⟩
            case measure => simp [intOf]
          · have HV : Hid (#[Value.int .u8 (8 * (s.size : Int) / 16777216 % 256)].toList = [UInt8.ofNat (8 * s.size / 2 ^ (56 - 8 * 4))].map bcell) := byte_lit (8 * s.size) (2 ^ (56 - 8 * 4)) _ (by show _ = ((8 * s.size / 16777216 % 256 : Nat) : Int); omega)
            go_wp2_with (first | (at_builtin; refine wpList_appL rfl (.tmp 35) (.tmp 41) rfl rfl w.heap.size _ _ rfl hL _ _ 1 1 _ rfl rfl HV.out (by decide) (by rw [HL.out]; omega) hsz ?_; intro vd wd hLd hBd) | fail)
            have hb2 := hbe.trans hBd
            go_roundw
            case rel => exact ⟨5, by omega, by go_num, by rw [HT.out, ← List.append_assoc]; exact hLd, hb2⟩
            case measure => simp [intOf]
          · have HV : Hid (#[Value.int .u8 (8 * (s.size : Int) / 65536 % 256)].toList = [UInt8.ofNat (8 * s.size / 2 ^ (56 - 8 * 5))].map bcell) := byte_lit (8 * s.size) (2 ^ (56 - 8 * 5)) _ (by show _ = ((8 * s.size / 65536 % 256 : Nat) : Int); omega)
            go_wp2_with (first | (at_builtin; refine wpList_appL rfl (.tmp 35) (.tmp 41) rfl rfl w.heap.size _ _ rfl hL _ _ 1 1 _ rfl rfl HV.out (by decide) (by rw [HL.out]; omega) hsz ?_; intro vd wd hLd hBd) | fail)
            have hb2 := hbe.trans hBd
            go_roundw
            case rel => exact ⟨6, by omega, by go_num, by rw [HT.out, ← List.append_assoc]; exact hLd, hb2⟩
            case measure => simp [intOf]
          · have HV : Hid (#[Value.int .u8 (8 * (s.size : Int) / 256 % 256)].toList = [UInt8.ofNat (8 * s.size / 2 ^ (56 - 8 * 6))].map bcell) := byte_lit (8 * s.size) (2 ^ (56 - 8 * 6)) _ (by show _ = ((8 * s.size / 256 % 256 : Nat) : Int); omega)
            go_wp2_with (first | (at_builtin; refine wpList_appL rfl (.tmp 35) (.tmp 41) rfl rfl w.heap.size _ _ rfl hL _ _ 1 1 _ rfl rfl HV.out (by decide) (by rw [HL.out]; omega) hsz ?_; intro vd wd hLd hBd) | fail)
            have hb2 := hbe.trans hBd
            go_roundw
            case rel => exact ⟨7, by omega, by go_num, by rw [HT.out, ← List.append_assoc]; exact hLd, hb2⟩
            case measure => simp [intOf]
          · have HV : Hid (#[Value.int .u8 (8 * (s.size : Int) % 256)].toList = [UInt8.ofNat (8 * s.size / 2 ^ (56 - 8 * 7))].map bcell) := byte_lit (8 * s.size) (2 ^ (56 - 8 * 7)) _ (by show _ = ((8 * s.size / 1 % 256 : Nat) : Int); omega)
            go_wp2_with (first | (at_builtin; refine wpList_appL rfl (.tmp 35) (.tmp 41) rfl rfl w.heap.size _ _ rfl hL _ _ 1 1 _ rfl rfl HV.out (by decide) (by rw [HL.out]; omega) hsz ?_; intro vd wd hLd hBd) | fail)
            have hb2 := hbe.trans hBd
            go_roundw
            case rel => exact ⟨8, by omega, by go_num, by rw [HT.out, ← List.append_assoc]; exact hLd, hb2⟩
            case measure => simp [intOf]
        · obtain rfl : j = 8 := by omega
          have HP : Hid ((s.data.toList ++ 128 :: List.replicate k 0) ++ (len8 (8 * s.size)).take 8 = padded s.data.toList) := by
            show _ = _
            rw [List.take_of_length_le (by rw [hl8]; omega)]
            unfold padded pad; rw [size_toList, ← HZ.out, List.append_assoc]; rfl
          rw [HP.out] at hL
          clear hlen2
          go_wp2_with (first | (refine wpList_strL rfl _ rfl w.heap.size _ _ rfl hL ?_) | fail)
          have HS : Hid (sha s.data.toList = outTo (absorb (padded s.data.toList) ((padded s.data.toList).length / 64)) 8) := rfl
          obtain ⟨N, hN⟩ : ∃ N, N = (padded s.data.toList).length / 64 := ⟨_, rfl⟩
          have hN64 : (padded s.data.toList).length = 64 * N := by have := padded_mod s.data.toList; omega
          have hNb : 64 * N ≤ 140737488355400 := by rw [← hN64, padded_length, size_toList]; omega
          rw [← hN] at HS
          clear hL hlen hl8 HP hN hne
          generalize padded s.data.toList = T at *
          have hTs : (⟨T.toArray⟩ : ByteArray).size = 64 * N := by rw [← size_toList]; simpa using hN64
          have HN64 : Hid (T.length = 64 * N) := hN64
          clear hN64
          go_loopw [8, 9] (fun v i wr => ∃ j : Nat, j ≤ 8 ∧ i = .int .i64 (j : Int) ∧ OwnI wr w.heap.size v ((st8 init).take j) ∧ Below w.heap.size w wr) (fun _ i _ => 8 - (intOf i).toNat)
          case atStart => exact ⟨0, by omega, rfl, Own.nil _ _ _, hbe⟩
          case round =>
            clear hbe hsz
            obtain ⟨j, hj, rfl, hown, hbe⟩ := hrel
            have hsz := hbe.size
            by_cases hlt8 : j < 8
            · have HS8 : Hid ((st8 init).take (j + 1) = (st8 init).take j ++ [init.nth j]) := by
                show _ = _
                rw [List.take_succ_eq_append_getElem (by rw [st8_length]; exact hlt8)]
                have := st8_getD init j hlt8
                rw [List.getD_eq_getElem?_getD, List.getElem?_eq_getElem (by rw [st8_length]; exact hlt8)] at this
                rw [← this]; rfl
              go_wp2_with fail
              refine (word_first _ (by kernel_rfl) j hlt8 _).mono ?_
              rintro e w1 ⟨rfl, hw1⟩
              subst hw1
              go_wp2_with (first | (at_builtin; refine wpList_appI rfl (.tmp 49) (.tmp 52) rfl w.heap.size _ _ rfl hown _ _ 1 1 [init.nth j] rfl rfl rfl (by rw [List.length_take, st8_length]; omega) hsz ?_; intro vd wd hownd hgd) | fail)
              have hb2 := hown.below hbe hgd (Nat.le_refl _) hsz
              go_roundw
              case rel => exact ⟨j + 1, by omega, by go_num, by rw [HS8.out]; exact hownd, hb2⟩
              case measure => simp [intOf]; omega
            · obtain rfl : j = 8 := by omega
              rw [show ((8 : Nat) : Int) = 8 from rfl]
              replace hown : OwnI wr w.heap.size u8 (st8 init) := hown
              go_wp2
              go_loopw [8, 10] (fun v i wr => ∃ k : Nat, k ≤ N ∧ i = .int .i64 (64 * (k : Int)) ∧ OwnI wr w.heap.size v (st8 (absorb T k)) ∧ Below w.heap.size w wr) (fun _ i _ => 64 * N + 64 - (intOf i).toNat)
              case atStart => exact ⟨0, by omega, rfl, hown, hbe⟩
              case round =>
                clear hbe hsz hown
                obtain ⟨k, hk, rfl, hown, hbe⟩ := hrel
                have hsz := hbe.size
                have hok := absorb_ok T k
                obtain ⟨gh, caph, rfl, hgh, hgh', hcaph, hcell⟩ := hown.opened (by rw [st8_length]; omega)
                rw [st8_length] at hcaph hcell
                rw [st8_length]
                have hch : ∀ j, j < 8 → wr.cell? ⟨gh, 0 + j, none⟩ = some (.int .i64 ((absorb T k).nth j : Int)) := fun j hj => by rw [Nat.zero_add, hcell j hj, st8_getD _ _ hj]
                clear hcell
                by_cases hlt : k < N
                · have HA : Hid (absorb T (k + 1) = compress (absorb T k) (blk T k)) := rfl
                  have HCH := hch
                  have hsl : ∀ wx, (Instr.slice 9 (.string ⟨T.toArray⟩) (some (.int .i64 (64 * (k : Int)))) (some (.int .i64 (64 * (k : Int) + 64))) none).run Tryd.prog wx = .ok (.string ((⟨T.toArray⟩ : ByteArray).extract (64 * k) (64 * k + 64))) wx := fun wx => by
                    rw [run_slice_string wx 9 _ .i64 .i64 _ _ und9 (by omega) (by omega) (by rw [hTs]; omega), show (64 * (k : Int)).toNat = 64 * k by omega, show (64 * (k : Int) + 64).toNat = 64 * k + 64 by omega]
                  clear hch hown HA
                  go_wp2_with fail
                  refine (block_T gh caph k N T wr HN64.out hlt HCH hgh').mono ?_
                  rintro e w1 ⟨v1, rfl, hown1, hb1⟩
                  have hb2 := hbe.trans (hb1.mono hsz)
                  go_wp2
                  go_roundw
                  case rel => exact ⟨k + 1, by omega, by go_num, Own.mono hown1 hsz, hb2⟩
                  case measure => simp [intOf]; omega
                · obtain rfl : k = N := by omega
                  have hch2 : ∀ j, j < 8 → wr.cell? ⟨gh, j, none⟩ = some (.int .i64 ((absorb T k).nth j : Int)) := fun j hj => by have := hch j hj; rwa [Nat.zero_add] at this
                  generalize absorb T k = t at *
                  obtain ⟨wz, hwz⟩ : ∃ wz, wz = wr := ⟨_, rfl⟩
                  subst hwz
                  clear hch hown
                  go_wp2
                  go_loopw [11, 12] (fun v i wr => ∃ j : Nat, j ≤ 8 ∧ i = .int .i64 (j : Int) ∧ OwnB wr wz.heap.size v (outTo t j) ∧ Below wz.heap.size wz wr) (fun _ i _ => 8 - (intOf i).toNat)
                  case atStart => exact ⟨0, by omega, rfl, Own.nil _ _ _, Below.refl _ _⟩
                  case round =>
                    obtain ⟨j, hj, rfl, hown, hbx⟩ := hrel
                    have hszx := hbx.size
                    by_cases hlt8 : j < 8
                    · have c1 : wr.cell? ⟨gh, j, none⟩ = some (.int .i64 (t.nth j : Int)) := by rw [hbx.cell (p := ⟨gh, j, none⟩) hgh']; exact hch2 j hlt8
                      have b1 := S8.nth_lt hok j
                      have HO : Hid (outTo t (j + 1) = outTo t j ++ be4 (t.nth j)) := rfl
                      have HL : Hid ((outTo t j).length = 4 * j) := outTo_length t j
                      generalize t.nth j = y at *
                      have hv4 := be4_val' y b1
                      obtain ⟨v', w1, hrun, hown1, hg1⟩ := run_appB (w := (wr.alloc (.cells #[Value.int .u8 ((y : Int) / 16777216), Value.int .u8 ((y : Int) / 65536 % 256), Value.int .u8 ((y : Int) / 256 % 256), Value.int .u8 ((y : Int) % 256)] 5)).drew) wz.heap.size _ _ (hown.alloc _).drew wr.heap.size 0 4 4 (be4 y) (fun i u hu => by
                        rw [← hv4] at hu
                        show (wr.alloc _).cell? _ = _
                        rw [Row.cell (t := 5) (Row.new wr _ _), Nat.zero_add, ← Array.getElem?_toList]; exact hu) rfl (by rw [HL.out]; omega) (by show wz.heap.size ≤ (wr.alloc _).heap.size; simp; omega)
                      clear hch2 hv4
                      go_wp2
                      go_region
                      go_wp2
                      have hb1 := hown.below hbx (grown_alloc (grown_drew hg1)) (Nat.le_refl _) hszx
                      go_roundw
                      case rel => exact ⟨j + 1, by omega, by go_num, by rw [HO.out]; exact hown1, hb1⟩
                      case measure => simp [intOf]; omega
                    · obtain rfl : j = 8 := by omega
                      clear hch2
                      go_wp2_with (first | (refine wpList_strB rfl _ rfl wz.heap.size _ _ rfl hown ?_) | fail)
                      go_ret
                      exact ⟨by rw [HS.out]; rfl, hbe.trans (hbx.mono hbe.size)⟩
end Go.Proofs.YtoanekgphcijfaaDoor
