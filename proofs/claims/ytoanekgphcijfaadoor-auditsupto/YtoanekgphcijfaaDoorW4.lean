import Derived.Test.YtoanekgphcijfaaDoorW3
import Derived.Test.YtoanekgphcijfaaDoorHasher
import Derived.Deep.RegionLaw
import Derived.Test.YtoanekgphcijfaaDoorBytes
namespace Go.Proofs.YtoanekgphcijfaaDoor
open Go.RowKit
open Sha

theorem slice64l (b o l : Nat) (h0 : l < 64) (L : Int) (hL : L = l) (wx : World) :
    (Instr.sliceAt 139 (.pointer (some ⟨b, o, none⟩)) (some (.int .i64 L)) none none).run Tryd.prog wx = .ok (.slice (some ⟨b, o + l, none⟩) (64 - l) (64 - l)) wx := by
  subst hL
  rw [run_sliceAt_array_l wx _ _ und64 _ _ (by omega) (by rw [arr64]; omega), size5, arr64]
  have : ¬ 64 = l := by omega
  simp [slicedAt, Addr.add, this]

def strSize : Value → Nat | .string x => x.size | _ => 0
theorem splice72 {c : Array Value} {k n : Nat} {l : List UInt8} (hs : c.size = 74) (hl : l.length = n) (hk : k + n ≤ 64) (j : Nat) (hj : 72 ≤ j) : ((splice c.toList (8 + k) (l.map bcell)).toArray)[j]? = c[j]? := by
  rw [List.getElem?_toArray, splice_at _ _ _ (by rw [List.length_map, hl]; simp [hs]; omega), if_neg (by omega), List.length_map, hl, if_neg (by omega), Array.getElem?_toList]
theorem extract_end (x : ByteArray) (n : Nat) : (x.extract n x.size).data.toList = x.data.toList.drop n := Lib.extract_to_end x n
theorem extract_size (x : ByteArray) (n : Nat) : (x.extract n x.size).size = x.size - n := by rw [← size_toList, extract_end, List.length_drop, size_toList]
theorem feed_pre {pre t : List UInt8} {x : ByteArray} {n : Nat} (h : pre ++ x.data.toList = t) : (pre ++ x.data.toList.take n) ++ (x.extract n x.size).data.toList = t := by
  rw [extract_end, List.append_assoc, List.take_append_drop, h]
set_option maxHeartbeats 1000000 in
theorem write_any (b : Nat) (cs : Array Value) (m : List UInt8) (tot : Nat) (s : ByteArray) (w : World) (hr : Row w b 142 cs) (hh : HIs cs m tot) (hs : s.size ≤ maxLen) (ht : tot + s.size < 18446744073709551616)
    (hK : ∀ j, j < 64 → w.cell? ⟨0, j, none⟩ = some (.int .u32 (K j : Int))) (h0 : 0 < b) :
    Calls Tryd.prog 100 #[.pointer (some ⟨b, 0, none⟩), .string s] w fun r w' => r = .returned (.tuple #[]) ∧ But b w w' ∧
      ∃ cs', Row w' b 142 cs' ∧ HIs cs' (m ++ s.data.toList) (tot + s.size) := by
  unfold maxLen at hs
  have hw0 : 0 < w.heap.size := by have := hr.lt; omega
  have ct : w.cell? ⟨b, 73, none⟩ = some (.int .u64 (tot : Int)) := by rw [hr.cell]; exact hh.tot
  have cf := hr.free 73
  go_enter Tryd.func100, Tryd.ntmps100
  go_wp2
  go_loopw [1] (fun vt wr => ∃ (x : ByteArray) (pre : List UInt8) (c : Array Value), vt = .string x ∧ pre ++ x.data.toList = s.data.toList ∧ But b w wr ∧ Row wr b 142 c ∧ HIs c (m ++ pre) (tot + s.size)) (fun vt _ => strSize vt)
  case atStart => exact ⟨s, [], _, rfl, rfl, (But.refl _ _).setCell _ _, hr.setCell 73 _, by simpa using hh.total (tot + s.size)⟩
  case round =>
    clear ct cf hr hh
    obtain ⟨x, pre, c, rfl, hpre, hbut, hr, hh⟩ := hrel
    have hxs : x.size ≤ s.size := by rw [← size_toList, ← size_toList, ← hpre, List.length_append]; omega
    have hK1 : ∀ j, j < 64 → wr.cell? ⟨0, j, none⟩ = some (.int .u32 (K j : Int)) := fun j hj => by rw [hbut.cell (p := ⟨0, j, none⟩) hw0 (by show 0 ≠ b; omega)]; exact hK j hj
    by_cases hx : 0 < x.size
    · obtain ⟨k, hk⟩ : ∃ k, k = (m ++ pre).length % 64 := ⟨_, rfl⟩
      have hk64 : k < 64 := by omega
      have ch : wr.cell? ⟨b, 72, none⟩ = some (.int .i64 (k : Int)) := by rw [hr.cell, hk]; exact hh.held
      obtain ⟨n, hn⟩ : ∃ n, n = Nat.min x.size (64 - k) := ⟨_, rfl⟩
      have hn1 : n ≤ x.size := by rw [hn]; exact Nat.min_le_left _ _
      have hn2 : k + n ≤ 64 := by have : n ≤ 64 - k := by { rw [hn]; exact Nat.min_le_right _ _ }
                                  omega
      have hn0 : 0 < n := by rw [hn]; exact Nat.lt_min.2 ⟨hx, by omega⟩
      have hsl := fun wx => slice64l b 8 k hk64 (k : Int) rfl wx
      have HN : Hid (n = Nat.min x.size (64 - k)) := hn
      have HK : Hid (k = (m ++ pre).length % 64) := hk
      clear hn hk
      go_wp2
      go_region_law (refine step_copy_str rfl (.tmp 25) (.tmp 26) 64 9 rfl 5 und44 info5 b (8 + k) (64 - k) (64 - k) n x (by simp [Act.eval, Act.put]) (by simp [Act.eval, Act.put]) c 142 (by exact hr) HN.out (by rw [hh.size]; omega) ?_; intro w1 hr1 hb1)
      replace hb1 : But b w w1 := (hbut.drew).trans hb1
      have hlc : (x.data.toList.take n).length = n := by rw [List.length_take, size_toList]; omega
      have c1 : w1.cell? ⟨b, 72, none⟩ = some (.int .i64 (k : Int)) := by rw [hr1.cell, splice72 hh.size hlc hn2 72 (by omega), HK.out]; exact hh.held
      have f1 := hr1.free 72
      have hr2 : Row (w1.setCell ⟨b, 72, none⟩ (.int .i64 ((k : Int) + (n : Int)))) b 142 (fed c (m ++ pre) (x.data.toList.take n)) := by
        have := hr1.setCell 72 (.int .i64 ((k : Int) + (n : Int)))
        unfold fed; rw [hlc, ← HK.out]; exact this
      have hb2 : But b w (w1.setCell ⟨b, 72, none⟩ (.int .i64 ((k : Int) + (n : Int)))) := hb1.setCell 72 _
      clear hr hbut ch hsl hK1
      have hkn : (m ++ pre).length % 64 + (x.data.toList.take n).length = k + n := by rw [hlc, ← HK.out]
      by_cases hfull : k + n = 64
      · have c2 : (w1.setCell ⟨b, 72, none⟩ (.int .i64 ((k : Int) + (n : Int)))).cell? ⟨b, 72, none⟩ = some (.int .i64 ((k : Int) + (n : Int))) := by
          rw [hr2.cell, fed_at hh.size (by omega), if_pos rfl, hlc, ← HK.out]; rfl
        have HKN : Hid ((m ++ pre).length % 64 + (x.data.toList.take n).length = k + n) := hkn
        have HLC : Hid ((x.data.toList.take n).length = n) := hlc
        have HF : Hid (k + n = 64) := hfull
        have hq1 : (((k : Int) + (n : Int)) == 64) = true := beq_iff_eq.2 (by omega)
        clear hkn hlc hfull
        go_wp2_with fail
        refine (mix_any b 142 (fed c (m ++ pre) (x.data.toList.take n)) (absorb (m ++ pre) ((m ++ pre).length / 64)) (blk ((m ++ pre) ++ x.data.toList.take n) ((m ++ pre).length / 64)) _ (absorb_ok _ _) (blk_lt _ _) hr2 (fed_size hh.size (by rw [HKN.out, HF.out]; exact Nat.le_refl _)) (fed_full hh (by rw [HKN.out, HF.out])).1 (fed_full hh (by rw [HKN.out, HF.out])).2 (fun j hj => by rw [hb2.cell (p := ⟨0, j, none⟩) hw0 (by show 0 ≠ b; omega)]; exact hK j hj) h0).mono ?_
        rintro e w2 ⟨rfl, hb3, cs', hr3, hsz3, hst3, hrest3⟩
        have hfin := hh.mixed (by rw [HKN.out, HF.out]) hsz3 hst3 hrest3
        have hb4 := (hb2.trans hb3)
        have c3 : ∃ v, w2.cell? ⟨b, 72, none⟩ = some v := ⟨cs'[72], by rw [hr3.cell]; simp⟩
        obtain ⟨v3, c3⟩ := c3
        have f3 := hr3.free 72
        clear hr2 hb2 c2 c1 f1 hr1 hb1 hst3 hrest3 hb3
        go_wp2
        refine ⟨⟨_, pre ++ x.data.toList.take n, _, rfl, feed_pre hpre, hb4.setCell 72 _, hr3.setCell 72 _, by rw [← List.append_assoc]; exact hfin⟩, ?_⟩
        show (x.extract n x.size).size < x.size
        rw [extract_size]; omega
      · have hfin := hh.feed (c := x.data.toList.take n) (by omega)
        have hq1 : (((k : Int) + (n : Int)) == 64) = false := beq_eq_false_iff_ne.2 (by omega)
        have HKN : Hid ((m ++ pre).length % 64 + (x.data.toList.take n).length = k + n) := hkn
        clear hkn hlc
        go_wp2
        refine ⟨⟨_, pre ++ x.data.toList.take n, _, rfl, feed_pre hpre, hb2, hr2, by rw [← List.append_assoc]; exact hfin⟩, ?_⟩
        show (x.extract n x.size).size < x.size
        rw [extract_size]; omega
    · have hx0 : x.size = 0 := by omega
      have hnil : x.data.toList = [] := by rw [← List.length_eq_zero_iff, size_toList, hx0]
      have HX : Hid (x.data.toList = []) := hnil
      clear hnil hx0
      go_wp2
      go_end0
      refine ⟨rfl, hbut, c, hr, ?_⟩
      rw [HX.out, List.append_nil] at hpre
      rw [← hpre]; exact hh
end Go.Proofs.YtoanekgphcijfaaDoor
