import Derived.Test.YtoanekgphcijfaaDoorR4
namespace Go.Proofs.YtoanekgphcijfaaDoor
open Go.RowKit
open Sha

def tol (hs : List ByteArray) : List (List UInt8) := hs.map fun s => s.data.toList
theorem tol_length (hs : List ByteArray) : (tol hs).length = hs.length := by simp [tol]
theorem tol_32 (hs : List ByteArray) (h : ∀ s ∈ hs, s.size = 32) : ∀ x ∈ tol hs, x.length = 32 := by
  intro x hx
  obtain ⟨s, hm, rfl⟩ := List.mem_map.1 hx
  rw [size_toList]; exact h s hm
theorem tol_split (hs : List ByteArray) (h : 2 ≤ hs.length) : root (tol hs) = nodeH (root (tol (hs.take (spl hs.length)))) (root (tol (hs.drop (spl hs.length)))) := by
  rw [root_node _ (by rw [tol_length]; exact h), tol_length]
  unfold tol; rw [List.map_take, List.map_drop]
def RRoot (n : Nat) : Prop := ∀ (hs : List ByteArray) (ao : Option Addr) (cap : Nat) (w : World), hs.length = n → n ≤ cap → n ≤ 140737488355328 → Strs w ao hs → (∀ s ∈ hs, s.size = 32) →
  Calls Tryd.prog 16 #[.slice ao n cap] w fun r w' => r = .returned (.string (str (root (tol hs)))) ∧ Below w.heap.size w w'
theorem rroot_0 : RRoot 0 := by
  intro hs ao cap w hn hc hm hS h32
  obtain rfl : hs = [] := List.eq_nil_of_length_eq_zero hn
  go_enter Tryd.func16, Tryd.ntmps16
  go_wp2_with fail
  refine (rhash_any _ w (by show 0 ≤ _; omega)).mono ?_
  rintro e w1 ⟨rfl, hb⟩
  go_wp2
  go_ret
  exact ⟨rfl, hb⟩
theorem rroot_1 : RRoot 1 := by
  intro hs ao cap w hn hc hm hS h32
  obtain ⟨g, o, rfl, hg, hcell⟩ := hS 0 (by omega)
  have HR : Hid (str (root (tol hs)) = hs[0]) := by
    show _ = _
    match hs, hn with
    | [x], _ => exact str_of x
  generalize hs[0] = x at *
  have hc0 : w.cell? ⟨g, o, none⟩ = some (.string x) := hcell
  clear hcell
  go_enter Tryd.func16, Tryd.ntmps16
  go_wp2
  go_ret
  exact ⟨by rw [HR.out]; rfl, Below.refl _ _⟩
set_option maxHeartbeats 1000000 in
theorem rroot_2 (n : Nat) (h2 : 2 ≤ n) (ih : ∀ k, k < n → RRoot k) : RRoot n := by
  intro hs ao cap w hn hc hm hS h32
  obtain ⟨g, o, rfl, hg, _⟩ := hS 0 (by omega)
  have hk1 := spl_lt n h2
  have hk2 := spl_pos n
  have hS1 := hS.take (spl n)
  have hS2 := hS.drop (spl n)
  have hl1 : (hs.take (spl n)).length = spl n := by rw [List.length_take]; omega
  have hl2 : (hs.drop (spl n)).length = n - spl n := by rw [List.length_drop]; omega
  have hs1 : ∀ s ∈ hs.take (spl n), s.size = 32 := fun s h => h32 s (List.mem_of_mem_take h)
  have hs2 : ∀ s ∈ hs.drop (spl n), s.size = 32 := fun s h => h32 s (List.mem_of_mem_drop h)
  have HR : Hid (root (tol hs) = nodeH (root (tol (hs.take (spl n)))) (root (tol (hs.drop (spl n))))) := by
    show _ = _
    rw [tol_split hs (by omega), hn]
  have r1 := root_length _ (tol_32 _ hs1)
  have r2 := root_length _ (tol_32 _ hs2)
  have hsp := rsplit_any n
  generalize spl n = k at *
  generalize hs.take k = s1 at *
  generalize hs.drop k = s2 at *
  have I1 : Hid (RRoot k) := ih k hk1
  have I2 : Hid (RRoot (n - k)) := ih (n - k) (by omega)
  have hck : ¬ cap = k := by omega
  have HSP : Hid (∀ (w : World), 2 ≤ n → n ≤ 1152921504606846976 → Calls Tryd.prog 40 #[.int .i64 (n : Int)] w fun r w' => r = .returned (.int .i64 (k : Int)) ∧ w' = w) := hsp
  have HR2 : Hid (root (tol hs) = nodeH (str (root (tol s1))).data.toList (str (root (tol s2))).data.toList) := by show _ = _; rw [str_toList, str_toList]; exact HR.out
  clear ih hsp hS h32 HR
  go_enter Tryd.func16, Tryd.ntmps16
  go_wp2_with fail
  refine (HSP.out w h2 (by omega)).mono ?_
  rintro e w' ⟨rfl, hw⟩
  subst hw
  go_wp2_with fail
  go_region_with (first
    | (go_at_call_of 16 (Value.slice (some (Addr.mk g o none)) k cap); refine (I1.out s1 _ cap _ hl1 (by omega) (by omega) (by exact hS1) hs1).mono ?_; rintro e w1 ⟨rfl, hb1⟩; replace hb1 : Below w'.heap.size w' w1 := (Below.refl _ _).drew.trans hb1)
    | (go_at_call_of 16 (Value.slice (some (Addr.mk g (o + k) none)) (n - k) (cap - k)); refine (I2.out s2 _ (cap - k) _ hl2 (by omega) (by omega) (by exact hS2.below hb1) hs2).mono ?_; rintro e w2 ⟨rfl, hb2⟩; replace hb2 : Below w'.heap.size w' w2 := hb1.trans (hb2.mono hb1.size))
    | (go_at_call 22; refine (rnode_any _ _ _ (by rw [str_size, str_size, r1, r2]; omega)).mono ?_; rintro e w3 ⟨rfl, hb3⟩; replace hb3 : Below w'.heap.size w' w3 := hb2.trans (hb3.mono hb2.size)))
  all_goals
    go_wp2
    go_ret
    exact ⟨by rw [HR2.out]; rfl, hb3⟩
theorem rroot_all (n : Nat) : RRoot n := by
  induction n using Nat.strongRecOn with
  | ind n ih =>
    match n, ih with
    | 0, _ => exact rroot_0
    | 1, _ => exact rroot_1
    | n + 2, ih => exact rroot_2 (n + 2) (by omega) ih

/-! ### the leaves' hashes -/
theorem und22 : Tryd.prog.underlying 22 = some (.slice 9) := by kernel_rfl
theorem info9' : (Tryd.prog.info? 9).map (fun i => (i.zero, i.size, i.bytes)) = some (some (.string ⟨#[]⟩), 1, 16) := by kernel_rfl
def OwnS (w : World) (base : Nat) (v : Value) (l : List ByteArray) : Prop := Own w base 9 v (l.map Value.string)
theorem strv_one (l : List ByteArray) : ∀ v ∈ l.map Value.string, v.oneCell' = true := by
  intro v hv
  obtain ⟨x, _, rfl⟩ := List.mem_map.1 hv
  rfl
theorem wpList_appS {w : World} {ops : Array Oper} {rest : List Oper} {o : Oper} {a : Act} {Q : Exit → Act → World → Prop} (hgd : o.guard = none) (s x : Operand)
    (ho : o.op = .call { callee := .builtin .append, args := #[s, x], argTypes := #[22, 22] })
    (base : Nat) (v : Value) (l : List ByteArray) (hs : a.eval s = v) (hown : OwnS w base v l)
    (vals : Array Value) (te : TypeId) (m c : Nat) (news : List ByteArray) (hx : a.eval x = .slice (some ⟨w.heap.size, 0, none⟩) m c) (hm : news.length = m) (hv : vals.toList = news.map Value.string)
    (hbytes : (l.length + m) * 16 ≤ 140737488355328) (hbase : base ≤ w.heap.size)
    (h : ∀ v' w', OwnS w' base v' (l ++ news) → w.grownBy w' v.ownBlock → wpList Tryd.prog ops Q rest (a.put o.dst v') w') : wpList Tryd.prog ops Q (o :: rest) a (w.alloc (.cells vals te)) := by
  refine wpList_app hgd s x _ ho base 9 (.string ⟨#[]⟩) 16 und22 info9' rfl v _ hs hown vals te m c (news.map Value.string) hx (by simpa using hm) hv (strv_one _) (by rw [List.length_map]; exact hbytes) (by rw [List.length_map]; omega) hbase ?_
  intro v' w' h1 h2
  exact h v' w' (by unfold OwnS; rw [List.map_append]; exact h1) h2
theorem OwnS.opened {w : World} {base : Nat} {v : Value} {l : List ByteArray} (h : OwnS w base v l) : ∃ ao cap, v = .slice ao l.length cap ∧ l.length ≤ cap ∧ cap ≤ maxLen ∧ Strs w ao l := by
  obtain ⟨h1, h2⟩ := h
  rcases h2 with ⟨hv, hn⟩ | ⟨g, cap, cur, hv, hg, hh, hc, hm, hs, ht⟩
  · rw [List.length_map] at hn
    exact ⟨none, 0, by rw [hv, hn], by omega, by unfold maxLen; omega, fun j hj => by omega⟩
  · refine ⟨some ⟨g, 0, none⟩, cap, by rw [hv, List.length_map], by simpa using hc, hm, fun j hj => ⟨g, 0, rfl, lt_of_block hh, ?_⟩⟩
    rw [Nat.zero_add, Row.cell (t := 9) (cs := cur) hh, ← Array.getElem?_toList]
    have e : (l.map Value.string)[j]? = some (.string l[j]) := by rw [List.getElem?_map, List.getElem?_eq_getElem hj]; rfl
    rw [← ht, List.getElem?_take] at e
    split at e
    · exact e
    · cases e
def leafS (ss : List ByteArray) : List ByteArray := ss.map fun s => str (leafH s.data.toList)
theorem leafS_length (ss : List ByteArray) : (leafS ss).length = ss.length := by simp [leafS]
theorem tol_leafS (ss : List ByteArray) : tol (leafS ss) = leaves ss := by
  unfold tol leafS leaves; rw [List.map_map]; apply List.map_congr_left; intro s _; exact str_toList _
theorem leafS_32 (ss : List ByteArray) : ∀ s ∈ leafS ss, s.size = 32 := by
  intro s hs
  obtain ⟨x, _, rfl⟩ := List.mem_map.1 hs
  rw [str_size]; exact sha_length _
set_option maxHeartbeats 1000000 in
theorem rleaves_any (ss : List ByteArray) (ao : Option Addr) (cap : Nat) (w : World) (_hc : ss.length ≤ cap) (hm : ss.length * 16 ≤ 140737488355328) (hS : Strs w ao ss) (hs : ∀ s ∈ ss, s.size ≤ 140737488355190) :
    Calls Tryd.prog 13 #[.slice ao ss.length cap] w fun r w' => ∃ v, r = .returned v ∧ OwnS w' w.heap.size v (leafS ss) ∧ Below w.heap.size w w' := by
  go_enter Tryd.func13, Tryd.ntmps13
  go_wp2
  go_loopw [3, 4] (fun v i wr => ∃ j : Nat, j ≤ ss.length ∧ i = .int .i64 (j : Int) ∧ OwnS wr w.heap.size v ((leafS ss).take j) ∧ Below w.heap.size w wr) (fun _ i _ => ss.length - (intOf i).toNat)
  case atStart => exact ⟨0, by omega, rfl, Own.nil _ _ _, Below.refl _ _⟩
  case round =>
    obtain ⟨j, hj, rfl, hown, hbe⟩ := hrel
    have hsz := hbe.size
    by_cases hlt : j < ss.length
    · obtain ⟨g, o, rfl, hg, hcell⟩ := hS j hlt
      have hcj : wr.cell? ⟨g, o + j, none⟩ = some (.string ss[j]) := by rw [hbe.cell (p := ⟨g, o + j, none⟩) hg]; exact hcell
      have hxs := hs ss[j] (List.getElem_mem hlt)
      have HT : Hid ((leafS ss).take (j + 1) = (leafS ss).take j ++ [str (leafH ss[j].data.toList)]) := by
        show _ = _
        rw [List.take_succ_eq_append_getElem (by rw [leafS_length]; exact hlt)]; simp [leafS]
      have HL : Hid (((leafS ss).take j).length = j) := by show _ = _; rw [List.length_take, leafS_length]; omega
      generalize ss[j] = x at *
      clear hcell hS hs
      go_wp2_with fail
      refine (rleaf_any x wr hxs).mono ?_
      rintro e w1 ⟨rfl, hb1⟩
      have hown1 : OwnS w1 w.heap.size u3 ((leafS ss).take j) := Own.under hown hb1 (Nat.le_refl _)
      have hb2 := hbe.trans (hb1.mono hsz)
      have hs2 := hb2.size
      go_wp2_with (first | (at_builtin; refine wpList_appS rfl (.tmp 17) (.tmp 19) rfl w.heap.size _ _ rfl hown1 _ _ 1 1 [str (leafH x.data.toList)] rfl rfl rfl (by rw [HL.out]; omega) hs2 ?_; intro v' w2 hown2 hg2) | fail)
      have hb3 := hown1.below hb2 hg2 (Nat.le_refl _) hs2
      go_roundw
      case rel => exact ⟨j + 1, by omega, by go_num, by rw [HT.out]; exact hown2, hb3⟩
      case measure => simp [intOf]; omega
    · obtain rfl : j = ss.length := by omega
      rw [List.take_of_length_le (by rw [leafS_length]; omega)] at hown
      clear hS hs
      go_wp2
      go_ret
      exact ⟨_, rfl, hown, hbe⟩
end Go.Proofs.YtoanekgphcijfaaDoor
