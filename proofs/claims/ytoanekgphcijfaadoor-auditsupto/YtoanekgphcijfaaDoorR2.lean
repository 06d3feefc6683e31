import Derived.Test.YtoanekgphcijfaaDoorWords
namespace Go.Proofs.YtoanekgphcijfaaDoor
open Go.RowKit
open Sha

theorem und39 : Tryd.prog.underlying 39 = some (.slice 3) := by kernel_rfl
theorem info3' : (Tryd.prog.info? 3).map (fun i => (i.zero, i.size, i.bytes)) = some (some (.int .i64 0), 1, 8) := by kernel_rfl
def intv (n : Nat) : Value := .int .i64 (n : Int)
theorem intv_one (l : List Nat) : ∀ v ∈ l.map intv, v.oneCell' = true := by
  intro v hv
  obtain ⟨x, _, rfl⟩ := List.mem_map.1 hv
  rfl
/-- The slice value v owns just these numbers. -/
def OwnI (w : World) (base : Nat) (v : Value) (l : List Nat) : Prop := Own w base 3 v (l.map intv)
/-- What a walk asks of such a slice: where it lies, and what its cells hold. -/
theorem OwnI.opened {w : World} {base : Nat} {v : Value} {l : List Nat} (h : OwnI w base v l) (h0 : 0 < l.length) : ∃ g cap, v = .slice (some ⟨g, 0, none⟩) l.length cap ∧ base ≤ g ∧ g < w.heap.size ∧ l.length ≤ cap ∧ ∀ j, j < l.length → w.cell? ⟨g, j, none⟩ = some (.int .i64 ((l.getD j 0 : Nat) : Int)) := by
  obtain ⟨h1, h2⟩ := h
  rcases h2 with ⟨_, hn⟩ | ⟨g, cap, cur, hv, hg, hh, hc, hm, hs, ht⟩
  · rw [List.length_map] at hn; omega
  · refine ⟨g, cap, by rw [hv, List.length_map], hg, lt_of_block hh, by simpa using hc, ?_⟩
    intro j hj
    rw [Row.cell (t := 3) (cs := cur) hh, ← Array.getElem?_toList]
    have e : (l.map intv)[j]? = some (.int .i64 ((l.getD j 0 : Nat) : Int)) := by
      rw [List.getElem?_map, List.getElem?_eq_getElem hj, List.getD_eq_getElem?_getD, List.getElem?_eq_getElem hj]; rfl
    rw [← ht, List.getElem?_take] at e
    split at e
    · exact e
    · cases e
def ws (bl : Nat → Nat) (k : Nat) : List Nat := (List.range k).map (W bl)
theorem ws_length (bl : Nat → Nat) (k : Nat) : (ws bl k).length = k := by simp [ws]
theorem ws_getD (bl : Nat → Nat) (k j : Nat) (h : j < k) : (ws bl k).getD j 0 = W bl j := by
  rw [List.getD_eq_getElem?_getD, List.getElem?_eq_getElem (by rw [ws_length]; exact h)]; simp [ws]
theorem ws_succ (bl : Nat → Nat) (k : Nat) : ws bl (k + 1) = ws bl k ++ [W bl k] := by simp [ws, List.range_succ]

theorem W_i64 (bl : Nat → Nat) (k : Nat) (h : 16 ≤ k) :
    Value.int .i64 (((W bl (k - 16) : Int) + (sig0 (W bl (k - 15)) : Int) + (W bl (k - 7) : Int) + (sig1 (W bl (k - 2)) : Int)) % 4294967296) = intv (W bl k) := by
  unfold intv; rw [W_big bl k h]; congr 1
theorem i64_in (n : Int) (h0 : 0 ≤ n) (h1 : n ≤ 9223372036854775807) : IntKind.i64.wrap n = n := by
  simp [IntKind.wrap, IntKind.bits, IntKind.signed]
  split <;> omega
theorem index_str (x : ByteArray) (j : Nat) (hj : j < x.size) (J : Int) (hJ : J = j) (n : Nat) (hn : (x[j]'hj).toNat = n) (wx : World) : (Instr.index 9 (.string x) (.int .i64 J)).run Tryd.prog wx = .ok (.int .u8 (n : Int)) wx := by
  subst hJ hn
  rw [run_index_string wx 9 x .i64 (j : Int) und9, dif_pos ⟨by omega, by omega⟩]; rfl
theorem run_appI {w : World} (base : Nat) (v : Value) (l : List Nat) (hown : OwnI w base v l) (g o m c : Nat) (news : List Nat) (hc : ∀ j u, (news.map intv)[j]? = some u → w.cell? ⟨g, o + j, none⟩ = some u) (hm : news.length = m) (hb : l.length + m ≤ 1000000) (hbase : base ≤ w.heap.size) :
    ∃ v' w', (heldApp #[39, 39] 39 #[v, .slice (some ⟨g, o, none⟩) m c]).run Tryd.prog w = .ok v' w' ∧ OwnI w' base v' (l ++ news) ∧ w.grownBy w' v.ownBlock := by
  obtain ⟨v', w', h1, h2, h3⟩ := run_heldApp (P := Tryd.prog) (w := w) 39 39 base 3 (.int .i64 0) 8 und39 info3' rfl v _ hown g o m c (news.map intv) hc (by simpa using hm) (intv_one _) (by rw [List.length_map]; omega) (by rw [List.length_map]; omega) hbase
  exact ⟨v', w', h1, by unfold OwnI; rw [List.map_append]; exact h2, h3⟩
/-- One number, just laid in a block of its own. -/
theorem cell_one (w : World) (t : TypeId) (u : Value) (n : Nat) (hu : u = intv n) : ∀ j v, ([n].map intv)[j]? = some v → ((w.alloc (.cells #[u] t)).drew).cell? ⟨w.heap.size, 0 + j, none⟩ = some v := by
  intro j v hv
  subst hu
  match j, hv with
  | 0, hv => simp at hv; subst hv; exact (Row.new w t #[intv n]).cell 0
def st8 (s : S8) : List Nat := [s.a, s.b, s.c, s.d, s.e, s.f, s.g, s.h]
theorem st8_length (s : S8) : (st8 s).length = 8 := rfl
theorem st8_getD (s : S8) (j : Nat) (h : j < 8) : (st8 s).getD j 0 = s.nth j := by
  match j, h with
  | 0, _ | 1, _ | 2, _ | 3, _ | 4, _ | 5, _ | 6, _ | 7, _ => rfl
theorem st8_at (s : S8) (j : Nat) (v : Value) (h : ((st8 s).map intv)[j]? = some v) : j < 8 ∧ v = .int .i64 (s.nth j : Int) := by
  have hj : j < 8 := by
    rcases Nat.lt_or_ge j 8 with h1 | h1
    · exact h1
    · rw [List.getElem?_eq_none (by simpa [st8] using h1)] at h; cases h
  refine ⟨hj, ?_⟩
  match j, hj with
  | 0, _ | 1, _ | 2, _ | 3, _ | 4, _ | 5, _ | 6, _ | 7, _ => exact (Option.some.inj h).symm
theorem ownI_none (w : World) (base : Nat) (hb : base ≤ w.heap.size) : OwnI (w.alloc (.cells #[] 3)) base (.slice (some ⟨w.heap.size, 0, none⟩) 0 0) [] :=
  ⟨rfl, Or.inr ⟨w.heap.size, 0, #[], rfl, hb, heap_alloc_new _ _, Nat.le_refl _, by unfold maxLen; omega, rfl, rfl⟩⟩
theorem ownI_lit (w : World) (base : Nat) (hb : base ≤ w.heap.size) (l : List Nat) (vals : Array Value) (hv : vals.toList = l.map intv) (n : Nat) (hn : l.length = n) (hm : n ≤ 1000) : OwnI (w.alloc (.cells vals 3)) base (.slice (some ⟨w.heap.size, 0, none⟩) n n) l := by
  have hl : (l.map intv).length = n := by rw [List.length_map, hn]
  have hs : vals.size = n := by rw [← Array.length_toList, hv, hl]
  refine ⟨by simp, Or.inr ⟨w.heap.size, n, vals, by rw [hl], hb, heap_alloc_new _ _, by rw [hl]; omega, by unfold maxLen; omega, by omega, ?_⟩⟩
  rw [hl, hv, List.take_of_length_le (by omega)]
theorem rnd_i64 (t : S8) (k w : Nat) : #[Value.int .i64 (((t.h : Int) + (big1 t.e : Int) + (ch t.e t.f t.g : Int) + (k : Int) + (w : Int) + ((big0 t.a : Int) + (maj t.a t.b t.c : Int))) % 4294967296), .int .i64 (t.a : Int), .int .i64 (t.b : Int), .int .i64 (t.c : Int),
      .int .i64 (((t.d : Int) + ((t.h : Int) + (big1 t.e : Int) + (ch t.e t.f t.g : Int) + (k : Int) + (w : Int))) % 4294967296), .int .i64 (t.e : Int), .int .i64 (t.f : Int), .int .i64 (t.g : Int)].toList = (st8 (rnd t k w)).map intv := by
  have e1 : (((t.h : Int) + (big1 t.e : Int) + (ch t.e t.f t.g : Int) + (k : Int) + (w : Int) + ((big0 t.a : Int) + (maj t.a t.b t.c : Int))) % 4294967296) = (((rnd t k w).a : Nat) : Int) := by simp only [rnd, t1, t2]; omega
  have e2 : (((t.d : Int) + ((t.h : Int) + (big1 t.e : Int) + (ch t.e t.f t.g : Int) + (k : Int) + (w : Int))) % 4294967296) = (((rnd t k w).e : Nat) : Int) := by simp only [rnd, t1]; omega
  rw [e1, e2]; rfl
attribute [local go_sem ↓] heldApp_eq
set_option maxHeartbeats 2000000 in
set_option maxRecDepth 100000 in
theorem block_any (gh oh caph : Nat) (s : S8) (x : ByteArray) (bl : Nat → Nat) (w : World) (hs : s.ok) (hx : x.size = 64) (hxb : ∀ j (h : j < 64), (x[j]'(by omega)).toNat = bl j) (hbl : ∀ j, bl j < 256)
    (hc : ∀ j, j < 8 → w.cell? ⟨gh, oh + j, none⟩ = some (.int .i64 (s.nth j : Int))) (hg : gh < w.heap.size) :
    Calls Tryd.prog 76 #[.slice (some ⟨gh, oh, none⟩) 8 caph, .string x] w fun r w' => ∃ v, r = .returned v ∧ OwnI w' w.heap.size v (st8 (compress s bl)) ∧ Below w.heap.size w w' := by
  go_enter Tryd.func76, Tryd.ntmps76
  go_wp2
  go_loopw [5, 6] (fun v i wr => ∃ k : Nat, k ≤ 64 ∧ i = .int .i64 (k : Int) ∧ OwnI wr w.heap.size v (ws bl k) ∧ Below w.heap.size w wr) (fun _ i _ => 64 - (intOf i).toNat)
  case atStart => exact ⟨0, by omega, rfl, Own.nil _ _ _, Below.refl _ _⟩
  case round =>
    obtain ⟨k, hk, rfl, hown, hbe⟩ := hrel
    have hsz := hbe.size
    by_cases hlt16 : k < 16
    · have x0 := hxb (4 * k) (by omega)
      have x1 := hxb (4 * k + 1) (by omega)
      have x2 := hxb (4 * k + 2) (by omega)
      have x3 := hxb (4 * k + 3) (by omega)
      have b0 := hbl (4 * k)
      have b1 := hbl (4 * k + 1)
      have b2 := hbl (4 * k + 2)
      have b3 := hbl (4 * k + 3)
      have HW : Hid (W bl k = ((bl (4 * k) * 256 + bl (4 * k + 1)) * 256 + bl (4 * k + 2)) * 256 + bl (4 * k + 3)) := W_small bl k hlt16
      generalize bl (4 * k) = n0 at *
      generalize bl (4 * k + 1) = n1 at *
      generalize bl (4 * k + 2) = n2 at *
      generalize bl (4 * k + 3) = n3 at *
      have HV : Hid (Value.int .i64 ((((n0 : Int) * 256 + n1) * 256 + n2) * 256 + n3) = intv (W bl k)) := by
        show _ = _
        rw [HW.out]; simp [intv]
      obtain ⟨v', w1, hrun, hown1, hg1⟩ := run_appI (w := (wr.alloc (.cells #[Value.int .i64 ((((n0 : Int) * 256 + n1) * 256 + n2) * 256 + n3)] 3)).drew) w.heap.size u5 (ws bl k) (hown.alloc _).drew wr.heap.size 0 1 1 [W bl k] (cell_one wr _ _ _ HV.out) rfl (by rw [ws_length]; omega) (by show w.heap.size ≤ (wr.alloc _).heap.size; simp; omega)
      have i0 := index_str x (4 * k) (by omega) (4 * (k : Int)) (by omega) n0 x0
      have i1 := index_str x (4 * k + 1) (by omega) (4 * (k : Int) + 1) (by omega) n1 x1
      have i2 := index_str x (4 * k + 2) (by omega) (4 * (k : Int) + 2) (by omega) n2 x2
      have i3 := index_str x (4 * k + 3) (by omega) (4 * (k : Int) + 3) (by omega) n3 x3
      clear hxb hbl hc x0 x1 x2 x3
      go_wp2
      go_region
      go_wp2
      have hb1 := hown.below hbe (grown_alloc (grown_drew hg1)) (Nat.le_refl _) hsz
      exact ⟨⟨k + 1, by omega, by go_num, by rw [ws_succ]; exact hown1, hb1⟩, by simp [intOf]; omega⟩
    · by_cases hlt64 : k < 64
      · obtain ⟨g5, cap5, rfl, hg5, hg5', hcap5, hcell⟩ := hown.opened (by rw [ws_length]; omega)
        rw [ws_length] at hcap5 hcell
        have hc5 : ∀ j, j < k → wr.cell? ⟨g5, j, none⟩ = some (.int .i64 (W bl j : Int)) := fun j hj => by rw [hcell j hj, ws_getD _ _ _ hj]
        have c0 := hc5 (k - 15) (by omega)
        have c1 := hc5 (k - 2) (by omega)
        have c2 := hc5 (k - 16) (by omega)
        have c3 := hc5 (k - 7) (by omega)
        have b0 := W_lt bl hbl (k - 15)
        have b1 := W_lt bl hbl (k - 2)
        have b2 := W_lt bl hbl (k - 16)
        have b3 := W_lt bl hbl (k - 7)
        have g0 := sig0_lt b0
        have g1 := sig1_lt b1
        have s0 := congrArg (Value.int .i64) (sig0_i64 _ b0)
        have s1 := congrArg (Value.int .i64) (sig1_i64 _ b1)
        have HV : Hid (Value.int .i64 (((W bl (k - 16) : Int) + (sig0 (W bl (k - 15)) : Int) + (W bl (k - 7) : Int) + (sig1 (W bl (k - 2)) : Int)) % 4294967296) = intv (W bl k)) := W_i64 bl k (by omega)
        rw [ws_length] at hown
        rw [ws_length]
        clear hcell hc5 hxb hbl hc
        generalize W bl (k - 15) = y15 at *
        generalize W bl (k - 2) = y2 at *
        generalize W bl (k - 16) = y16 at *
        generalize W bl (k - 7) = y7 at *
        generalize sig0 y15 = z0 at *
        generalize sig1 y2 = z1 at *
        go_wp2_with fail
        refine (rturn_any _ 7 _ rfl _ b0 (by decide)).mono ?_
        rintro e w1 ⟨rfl, m1, rfl⟩
        go_wp2_with fail
        refine (rturn_any _ 18 _ rfl _ b0 (by decide)).mono ?_
        rintro e w1 ⟨rfl, m2, rfl⟩
        go_wp2_with fail
        refine (rturn_any _ 17 _ rfl _ b1 (by decide)).mono ?_
        rintro e w1 ⟨rfl, m3, rfl⟩
        go_wp2_with fail
        refine (rturn_any _ 19 _ rfl _ b1 (by decide)).mono ?_
        rintro e w1 ⟨rfl, m4, rfl⟩
        generalize hw2 : World.drewN _ m4 = w2
        have hd2 : ∃ n, w2 = wr.drewN n := by rw [← hw2]; exact ⟨_, by simp only [World.drewN_drewN]; rfl⟩
        clear hw2
        obtain ⟨nn, hd2⟩ := hd2
        have hown2 : OwnI w2 w.heap.size (.slice (some ⟨g5, 0, none⟩) k cap5) (ws bl k) := by rw [hd2]; exact Own.drewN hown nn
        have hbe2 : Below w.heap.size w w2 := by rw [hd2]; exact hbe.trans (bel_drewN _ _ _)
        have hsz2 := hbe2.size
        replace c2 : w2.cell? ⟨g5, k - 16, none⟩ = some (.int .i64 (y16 : Int)) := by rw [hd2]; exact c2
        replace c3 : w2.cell? ⟨g5, k - 7, none⟩ = some (.int .i64 (y7 : Int)) := by rw [hd2]; exact c3
        clear hd2 c0 c1 hown hbe
        obtain ⟨v', w3, hrun, hown3, hg3⟩ := run_appI (w := (w2.alloc (.cells #[Value.int .i64 (((y16 : Int) + (z0 : Int) + (y7 : Int) + (z1 : Int)) % 4294967296)] 3)).drew) w.heap.size _ (ws bl k) (hown2.alloc _).drew w2.heap.size 0 1 1 [W bl k] (cell_one w2 _ _ _ HV.out) rfl (by rw [ws_length]; omega) (by show w.heap.size ≤ (w2.alloc _).heap.size; simp; omega)
        go_wp2
        go_region
        go_wp2
        have hb3 := hown2.below hbe2 (grown_alloc (grown_drew hg3)) (Nat.le_refl _) hsz2
        exact ⟨⟨k + 1, by omega, by go_num, by rw [ws_succ]; exact hown3, hb3⟩, by simp [intOf]; omega⟩
      · obtain rfl : k = 64 := by omega
        rw [show ((64 : Nat) : Int) = 64 from rfl]
        obtain ⟨g5, cap5, rfl, hg5, hg5', hcap5, hcell⟩ := hown.opened (by rw [ws_length]; omega)
        rw [ws_length] at hown hcap5 hcell
        have hc5 : ∀ j, j < 64 → wr.cell? ⟨g5, j, none⟩ = some (.int .i64 (W bl j : Int)) := fun j hj => by rw [hcell j hj, ws_getD _ _ _ hj]
        rw [ws_length]
        clear hcell hxb
        obtain ⟨v8, w8, hrun, hown8, hg8⟩ := run_appI (w := wr.alloc (.cells #[] 3)) w.heap.size _ [] (ownI_none wr w.heap.size hsz) gh oh 8 caph (st8 s) (fun j u hu => by
          obtain ⟨hj, rfl⟩ := st8_at s j u hu
          rw [World.cell?_of_block (w := wr) (Below.heap_alloc _ _ _ (by show gh < _; omega)), hbe.cell (p := ⟨gh, oh + j, none⟩) hg]
          exact hc j hj) rfl (by simp) (by simp; omega)
        have hbe8 := (ownI_none wr w.heap.size hsz).below (hbe.alloc hsz _) hg8 (Nat.le_refl _) (by simp; omega)
        have hc8 : ∀ j, j < 64 → w8.cell? ⟨g5, j, none⟩ = some (.int .i64 (W bl j : Int)) := fun j hj => by
          rw [World.cell?_of_block (w := wr) ((hg8.block g5 (by simp; omega) (by simp [Value.ownBlock]; omega)).trans (Below.heap_alloc _ _ _ hg5')) (a := ⟨g5, j, none⟩)]
          exact hc5 j hj
        have hs8 := hg8.size
        rw [List.nil_append] at hown8
        have HC := hc
        clear hc hc5 hown hg8
        go_wp2
        go_loopw [11, 12] (fun v i wr => ∃ k : Nat, k ≤ 64 ∧ i = .int .i64 (k : Int) ∧ OwnI wr w.heap.size v (st8 (rnds (W bl) s k)) ∧ (∀ j, j < 64 → wr.cell? ⟨g5, j, none⟩ = some (.int .i64 (W bl j : Int))) ∧ Below w.heap.size w wr ∧ g5 < wr.heap.size) (fun _ i _ => 64 - (intOf i).toNat)
        case atStart => exact ⟨0, by omega, rfl, hown8, hc8, hbe8, by simp at hs8; omega⟩
        case round =>
          clear hown8 hc8 hbe8 hs8 hrun hbe hsz hg5'
          obtain ⟨k, hk, rfl, hown, hc5, hbe, hg5'⟩ := hrel
          have hsz := hbe.size
          by_cases hlt : k < 64
          · have hok := rnds_ok (W bl) hs k
            have HT : Hid (rnds (W bl) s (k + 1) = rnd (rnds (W bl) s k) (K k) (W bl k)) := rfl
            obtain ⟨gv, capv, rfl, hgv, hgv', hcapv, hcell⟩ := hown.opened (by rw [st8_length]; omega)
            rw [st8_length] at hcapv hcell
            rw [st8_length]
            have hcv : ∀ j, j < 8 → wr.cell? ⟨gv, j, none⟩ = some (.int .i64 ((rnds (W bl) s k).nth j : Int)) := fun j hj => by rw [hcell j hj, st8_getD _ _ hj]
            have hwk := W_lt bl hbl k
            have hkk := K_lt k
            have cw := hc5 k hlt
            generalize rnds (W bl) s k = t at *
            have v0 : wr.cell? ⟨gv, 0, none⟩ = some (.int .i64 (t.a : Int)) := hcv 0 (by omega)
            have v1 : wr.cell? ⟨gv, 1, none⟩ = some (.int .i64 (t.b : Int)) := hcv 1 (by omega)
            have v2 : wr.cell? ⟨gv, 2, none⟩ = some (.int .i64 (t.c : Int)) := hcv 2 (by omega)
            have v3 : wr.cell? ⟨gv, 3, none⟩ = some (.int .i64 (t.d : Int)) := hcv 3 (by omega)
            have v4 : wr.cell? ⟨gv, 4, none⟩ = some (.int .i64 (t.e : Int)) := hcv 4 (by omega)
            have v5 : wr.cell? ⟨gv, 5, none⟩ = some (.int .i64 (t.f : Int)) := hcv 5 (by omega)
            have v6 : wr.cell? ⟨gv, 6, none⟩ = some (.int .i64 (t.g : Int)) := hcv 6 (by omega)
            have v7 : wr.cell? ⟨gv, 7, none⟩ = some (.int .i64 (t.h : Int)) := hcv 7 (by omega)
            obtain ⟨o0, o1, o2, o3, o4, o5, o6, o7⟩ := hok
            have q1 := congrArg (Value.int .i64) (ch_i64 t.e t.f t.g o4 o5 o6)
            have q2 := congrArg (Value.int .i64) (maj_i64 t.a t.b t.c o0 o1 o2)
            have HC5 := hc5
            have HBL := hbl
            clear hcv hcell hc5 hbl hown
            go_wp2
            go_quiet ((go_at_call 104; exact Calls.quiet_of_same (not_any _ _ o4)))
            have up : ∀ p, (wr.drewN nq).cell? p = wr.cell? p := fun _ => rfl
            rw [← up] at v0 v1 v2 v3 v4 v5 v6 v7 cw
            replace HC5 : ∀ j, j < 64 → (wr.drewN nq).cell? ⟨g5, j, none⟩ = some (.int .i64 (W bl j : Int)) := HC5
            replace hg5' : g5 < (wr.drewN nq).heap.size := hg5'
            replace hsz : w.heap.size ≤ (wr.drewN nq).heap.size := hsz
            replace hbe := hbe.trans (bel_drewN _ wr nq)
            clear up
            generalize wr.drewN nq = wa at *
            clear q1
            go_wp2
            go_quiet (fail)
            have up : ∀ p, (wa.drewN nq).cell? p = wa.cell? p := fun _ => rfl
            rw [← up] at v0 v1 v2 v3 v4 v5 v6 v7 cw
            replace HC5 : ∀ j, j < 64 → (wa.drewN nq).cell? ⟨g5, j, none⟩ = some (.int .i64 (W bl j : Int)) := HC5
            replace hg5' : g5 < (wa.drewN nq).heap.size := hg5'
            replace hsz : w.heap.size ≤ (wa.drewN nq).heap.size := hsz
            replace hbe := hbe.trans (bel_drewN _ wa nq)
            clear up
            generalize wa.drewN nq = wb at *
            clear q2
            have q3 := congrArg (Value.int .i64) (xor3_i64 t.e 6 11 25 o4 (by omega) (by omega) (by omega))
            have q4 := congrArg (Value.int .i64) (xor3_i64 t.a 2 13 22 o0 (by omega) (by omega) (by omega))
            rw [big1_eq] at q3
            rw [big0_eq] at q4
            have p1 := big1_lt o4
            have p0 := big0_lt o0
            have p2 := ch_lt (f := t.f) (g := t.g) o4
            have p3 := maj_lt (c := t.c) o0 o1
            have HR : Hid (#[Value.int .i64 (((t.h : Int) + (big1 t.e : Int) + (ch t.e t.f t.g : Int) + (K k : Int) + (W bl k : Int) + ((big0 t.a : Int) + (maj t.a t.b t.c : Int))) % 4294967296), .int .i64 (t.a : Int), .int .i64 (t.b : Int), .int .i64 (t.c : Int), .int .i64 (((t.d : Int) + ((t.h : Int) + (big1 t.e : Int) + (ch t.e t.f t.g : Int) + (K k : Int) + (W bl k : Int))) % 4294967296), .int .i64 (t.e : Int), .int .i64 (t.f : Int), .int .i64 (t.g : Int)].toList = (st8 (rnd t (K k) (W bl k))).map intv) := rnd_i64 t (K k) (W bl k)
            generalize big1 t.e = B1 at *
            generalize big0 t.a = B0 at *
            generalize ch t.e t.f t.g = CH at *
            generalize maj t.a t.b t.c = MJ at *
            go_wp2
            go_quiet ((first | (go_at_call 75; exact Calls.quiet_of_same (word_keys _ (by kernel_rfl) k hlt _)) | (go_at_call 103; first | exact Calls.quiet_of (rturn_any _ 6 _ (by decide) _ o4 (by decide)) | exact Calls.quiet_of (rturn_any _ 11 _ (by decide) _ o4 (by decide)) | exact Calls.quiet_of (rturn_any _ 25 _ (by decide) _ o4 (by decide)))))
            have up : ∀ p, (wb.drewN nq).cell? p = wb.cell? p := fun _ => rfl
            rw [← up] at v0 v1 v2 v3 v4 v5 v6 v7 cw
            replace HC5 : ∀ j, j < 64 → (wb.drewN nq).cell? ⟨g5, j, none⟩ = some (.int .i64 (W bl j : Int)) := HC5
            replace hg5' : g5 < (wb.drewN nq).heap.size := hg5'
            replace hsz : w.heap.size ≤ (wb.drewN nq).heap.size := hsz
            replace hbe := hbe.trans (bel_drewN _ wb nq)
            clear up
            generalize wb.drewN nq = wc at *
            go_wp2_with fail
            refine (rturn_any _ 2 _ rfl _ o0 (by decide)).mono ?_
            rintro e w1 ⟨rfl, m1, rfl⟩
            go_wp2_with fail
            refine (rturn_any _ 13 _ rfl _ o0 (by decide)).mono ?_
            rintro e w1 ⟨rfl, m2, rfl⟩
            go_wp2_with fail
            refine (rturn_any _ 22 _ rfl _ o0 (by decide)).mono ?_
            rintro e w1 ⟨rfl, m3, rfl⟩
            generalize hwd : World.drewN _ m3 = wd
            have hd2 : ∃ n, wd = wc.drewN n := by rw [← hwd]; exact ⟨_, by simp only [World.drewN_drewN]; rfl⟩
            clear hwd
            obtain ⟨nn, hd2⟩ := hd2
            have up : ∀ p, wd.cell? p = wc.cell? p := by rw [hd2]; exact fun _ => rfl
            have ups : wd.heap.size = wc.heap.size := by rw [hd2]; rfl
            rw [← up] at v0 v1 v2 v3 v4 v5 v6 v7
            replace HC5 : ∀ j, j < 64 → wd.cell? ⟨g5, j, none⟩ = some (.int .i64 (W bl j : Int)) := fun j hj => by rw [up]; exact HC5 j hj
            rw [← ups] at hg5' hsz
            replace hbe : Below w.heap.size w wd := by rw [hd2]; exact hbe.trans (bel_drewN _ _ _)
            clear up ups hd2 cw q3
            go_wp2
            go_region
            clear q4
            go_wp2
            have hown9 := (ownI_lit wd w.heap.size hsz _ _ HR.out 8 rfl (by omega)).drew
            have HC9 : ∀ j, j < 64 → ((wd.alloc (.cells #[Value.int .i64 (((t.h : Int) + (B1 : Int) + (CH : Int) + (K k : Int) + (W bl k : Int) + ((B0 : Int) + (MJ : Int))) % 4294967296), .int .i64 (t.a : Int), .int .i64 (t.b : Int), .int .i64 (t.c : Int), .int .i64 (((t.d : Int) + ((t.h : Int) + (B1 : Int) + (CH : Int) + (K k : Int) + (W bl k : Int))) % 4294967296), .int .i64 (t.e : Int), .int .i64 (t.f : Int), .int .i64 (t.g : Int)] 3)).drew).cell? ⟨g5, j, none⟩ = some (.int .i64 (W bl j : Int)) := fun j hj => by
              show (wd.alloc _).cell? _ = _
              rw [World.cell?_of_block (w := wd) (Below.heap_alloc _ _ _ hg5') (a := ⟨g5, j, none⟩)]
              exact HC5 j hj
            go_roundw
            case rel => exact ⟨k + 1, by omega, by go_num, by rw [HT.out]; exact hown9, HC9, (hbe.alloc hsz _).drew, by simp; omega⟩
            case measure => simp [intOf]; omega
          · obtain rfl : k = 64 := by omega
            have HCo : Hid (compress s bl = add8 s (rnds (W bl) s 64)) := rfl
            have hok := rnds_ok (W bl) hs 64
            obtain ⟨gv, capv, rfl, hgv, hgv', hcapv, hcell⟩ := hown.opened (by rw [st8_length]; omega)
            rw [st8_length] at hcapv hcell
            rw [st8_length]
            have hcv : ∀ j, j < 8 → wr.cell? ⟨gv, j, none⟩ = some (.int .i64 ((rnds (W bl) s 64).nth j : Int)) := fun j hj => by rw [hcell j hj, st8_getD _ _ hj]
            have hch : ∀ j, j < 8 → wr.cell? ⟨gh, oh + j, none⟩ = some (.int .i64 (s.nth j : Int)) := fun j hj => by rw [hbe.cell (p := ⟨gh, oh + j, none⟩) hg]; exact HC j hj
            generalize rnds (W bl) s 64 = t at *
            clear hcell hown hc5 hbl
            obtain ⟨wz, hwz⟩ : ∃ wz, wz = wr := ⟨_, rfl⟩
            subst hwz
            go_wp2
            go_loopw [19, 20] (fun v i wx => ∃ k : Nat, k ≤ 8 ∧ i = .int .i64 (k : Int) ∧ OwnI wx wz.heap.size v ((st8 (add8 s t)).take k) ∧ Below wz.heap.size wz wx) (fun _ i _ => 8 - (intOf i).toNat)
            case atStart => exact ⟨0, by omega, rfl, Own.nil _ _ _, Below.refl _ _⟩
            case round =>
              obtain ⟨k, hk, rfl, hown, hbx⟩ := hrel
              have hszx := hbx.size
              by_cases hlt8 : k < 8
              · have c1 : wr.cell? ⟨gh, oh + k, none⟩ = some (.int .i64 (s.nth k : Int)) := by rw [hbx.cell (p := ⟨gh, oh + k, none⟩) (by show gh < _; have := hbe.size; omega)]; exact hch k hlt8
                have c2 : wr.cell? ⟨gv, k, none⟩ = some (.int .i64 (t.nth k : Int)) := by rw [hbx.cell (p := ⟨gv, k, none⟩) hgv']; exact hcv k hlt8
                have b1 := S8.nth_lt hs k
                have b2 := S8.nth_lt hok k
                have HV : Hid (Value.int .i64 (((s.nth k : Int) + (t.nth k : Int)) % 4294967296) = intv ((add8 s t).nth k)) := by
                  show _ = _
                  unfold intv; rw [add8_nth]; congr 1
                have HS : Hid ((st8 (add8 s t)).take (k + 1) = (st8 (add8 s t)).take k ++ [(add8 s t).nth k]) := by
                  show _ = _
                  rw [List.take_succ_eq_append_getElem (by rw [st8_length]; exact hlt8)]
                  have := st8_getD (add8 s t) k hlt8
                  rw [List.getD_eq_getElem?_getD, List.getElem?_eq_getElem (by rw [st8_length]; exact hlt8)] at this
                  rw [← this]; rfl
                generalize s.nth k = y1 at *
                generalize t.nth k = y2 at *
                obtain ⟨v', w1, hrun, hown1, hg1⟩ := run_appI (w := (wr.alloc (.cells #[Value.int .i64 (((y1 : Int) + (y2 : Int)) % 4294967296)] 3)).drew) wz.heap.size _ _ (hown.alloc _).drew wr.heap.size 0 1 1 [(add8 s t).nth k] (cell_one wr _ _ _ HV.out) rfl (by rw [List.length_take, st8_length]; omega) (by show wz.heap.size ≤ (wr.alloc _).heap.size; simp; omega)
                clear hcv hch HC
                go_wp2
                go_region
                go_wp2
                have hb1 := hown.below hbx (grown_alloc (grown_drew hg1)) (Nat.le_refl _) hszx
                go_roundw
                case rel => exact ⟨k + 1, by omega, by go_num, by rw [HS.out]; exact hown1, hb1⟩
                case measure => simp [intOf]; omega
              · obtain rfl : k = 8 := by omega
                go_wp2
                go_ret
                refine ⟨_, rfl, ?_, hbe.trans (hbx.mono hbe.size)⟩
                rw [HCo.out]
                exact Own.mono hown hbe.size
end Go.Proofs.YtoanekgphcijfaaDoor
