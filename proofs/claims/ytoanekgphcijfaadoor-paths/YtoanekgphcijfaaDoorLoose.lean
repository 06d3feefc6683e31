/-
  A ROW OF BYTES OF THE CALL's OWN, SAID BY ITS CELLS ALONE (what '[]byte(s)' makes bears a mark behind its end, so that 'Own' does not fit it). Own work.
-/
import Derived.Test.YtoanekgphcijfaaDoorBytes
import Derived.ArgAppend
import Derived.Laws.IdiomStrings
namespace Go.Proofs.YtoanekgphcijfaaDoor
open Go.RowKit

/-- The slice v, not nil, holds just these bytes; what lies behind them up to its capacity may be written. -/
def Loose (w : World) (base : Nat) (v : Value) (l : List UInt8) : Prop :=
  ∃ g cap, v = .slice (some ⟨g, 0, none⟩) l.length cap ∧ base ≤ g ∧ g < w.heap.size ∧ l.length ≤ cap ∧ (∀ j x, l[j]? = some x → w.cell? ⟨g, j, none⟩ = some (bcell x)) ∧
    ∀ j, l.length ≤ j → j < cap → (w.cell? ⟨g, j, none⟩).isSome = true ∧ w.frozen? ⟨g, j, none⟩ = false
theorem Loose.alloc {w : World} {base : Nat} {v : Value} {l : List UInt8} (h : Loose w base v l) (o : Obj) : Loose (w.alloc o) base v l := by
  obtain ⟨g, cap, hv, hb, hg, hc, h1, h2⟩ := h
  have e := Below.heap_alloc w o g hg
  refine ⟨g, cap, hv, hb, by simp; omega, hc, fun j x hx => ?_, fun j h3 h4 => ?_⟩
  · rw [World.cell?_of_block (w := w) (a := ⟨g, j, none⟩) e]; exact h1 j x hx
  · rw [World.cell?_of_block (w := w) (a := ⟨g, j, none⟩) e, World.frozen?_of_block (w := w) (a := ⟨g, j, none⟩) e]; exact h2 j h3 h4
theorem Loose.drew {w : World} {base : Nat} {v : Value} {l : List UInt8} (h : Loose w base v l) : Loose w.drew base v l := h
theorem Loose.of_own {w : World} {base : Nat} {v : Value} {l : List UInt8} (h : OwnB w base v l) (h0 : 0 < l.length) : Loose w base v l := by
  obtain ⟨h1, h2⟩ := h
  rcases h2 with ⟨_, hn⟩ | ⟨g, cap, cur, hv, hg, hh, hc, hm, hs, ht⟩
  · rw [List.length_map] at hn; omega
  · rw [List.length_map] at hv hc ht
    have hr : Row w g 5 cur := hh
    refine ⟨g, cap, hv, hg, hr.lt, hc, fun j x hx => ?_, fun j h3 h4 => ?_⟩
    · rw [hr.cell, ← Array.getElem?_toList]
      have e : (l.map bcell)[j]? = some (bcell x) := by rw [List.getElem?_map, hx]; rfl
      rw [← ht, List.getElem?_take] at e
      split at e
      · exact e
      · cases e
    · rw [hr.cell, hr.free]
      refine ⟨?_, rfl⟩
      rw [Array.getElem?_eq_getElem (by omega)]; rfl
theorem below_setCells {b : Nat} {B : Nat} {a : World} (hb : B ≤ b) : ∀ (vs : List Value) (o : Nat) (w : World), Below B a w → Below B a (w.setCells b o vs)
  | [], _, _, h => h
  | v :: r, o, _, h => below_setCells hb r (o + 1) _ (h.setCell (p := ⟨b, o, none⟩) hb v)
theorem size_setCells (b : Nat) : ∀ (vs : List Value) (o : Nat) (w : World), (w.setCells b o vs).heap.size = w.heap.size
  | [], _, _ => rfl
  | v :: r, o, w => by
    show ((w.setCell ⟨b, o, none⟩ v).setCells b (o + 1) r).heap.size = _
    rw [size_setCells b r]; simp [World.setCell]
/-- What an append to such a row does, laid ahead of a walk. -/
theorem run_appL {w : World} (base : Nat) (v : Value) (l : List UInt8) (hL : Loose w base v l) (gn m c : Nat) (news : List UInt8) (hc : ∀ j u, (news.map bcell)[j]? = some u → w.cell? ⟨gn, j, none⟩ = some u) (hm : news.length = m) (hb : l.length + m ≤ 140737488355328) (hbase : base ≤ w.heap.size) (h0 : 0 < m) :
    ∃ v' w', (heldApp #[64, 64] 64 #[v, .slice (some ⟨gn, 0, none⟩) m c]).run Tryd.prog w = .ok v' w' ∧ Loose w' base v' (l ++ news) ∧ Below base w w' := by
  obtain ⟨i, hi0, hz0, hz1, hz2⟩ := info_parts info5'
  obtain ⟨g, cap, rfl, hbg, hg, hcap, h1, h2⟩ := hL
  have hln : (news.map bcell).length = m := by rw [List.length_map, hm]
  have hca : ∀ j u, (news.map bcell)[j]? = some u → w.cell? ((⟨gn, 0, none⟩ : Addr).add j) = some u := fun j u hu => by rw [addr_add, Nat.zero_add]; exact hc j u hu
  by_cases hroom : l.length + m ≤ cap
  · have hr := run_append_room_cells (P := Tryd.prog) w 64 64 5 i und44 hi0 g 0 l.length cap ⟨gn, 0, none⟩ m c (news.map bcell) (by rw [hz1, Nat.mul_one]; exact hln) hca (bcell_one _) hroom
      (fun j hj => by rw [hz1]; exact (h2 (0 + l.length * 1 + j) (by omega) (by omega)).1) (fun j hj => by rw [hz1]; exact (h2 (0 + l.length * 1 + j) (by omega) (by omega)).2)
    rw [hz1, Nat.mul_one, Nat.zero_add] at hr
    refine ⟨_, _, hr, ⟨g, cap, by rw [List.length_append, hm], hbg, by rw [size_setCells]; exact hg, by rw [List.length_append, hm]; exact hroom, ?_, ?_⟩, below_setCells hbg _ _ _ (Below.refl _ _)⟩
    · intro j x hx
      by_cases hj : j < l.length
      · rw [List.getElem?_append_left hj] at hx
        rw [World.cell?_setCells_out g _ _ w ⟨g, j, none⟩ (fun _ _ => Or.inl hj)]
        exact h1 j x hx
      · rw [List.getElem?_append_right (by omega)] at hx
        have hjm : j - l.length < (news.map bcell).length := by
          rcases Nat.lt_or_ge (j - l.length) (news.map bcell).length with h | h
          · exact h
          · rw [List.getElem?_eq_none (by rw [List.length_map] at h; exact h)] at hx; cases hx
        have := World.cell?_setCells_in g (news.map bcell) l.length w (fun k hk => (h2 (l.length + k) (by omega) (by omega)).1) (j - l.length) hjm
        rw [show l.length + (j - l.length) = j by omega] at this
        rw [this, List.getElem_map]
        rw [List.getElem?_eq_getElem (by simpa using hjm)] at hx
        rw [← Option.some.inj hx]
    · intro j hj1 hj2
      rw [List.length_append, hm] at hj1
      rw [World.cell?_setCells_out g _ _ w ⟨g, j, none⟩ (fun _ _ => Or.inr (by rw [hln]; exact hj1)), World.frozen?_setCells]
      exact h2 j (by omega) hj2
  · obtain ⟨v', w', hr, h3, h4⟩ := run_append_arg_grows (P := Tryd.prog) w 64 64 5 i (.int .u8 0) 1 1 und44 hi0 hz0 hz1 hz2 rfl (by decide) ⟨g, 0, none⟩ l.length cap (l.map bcell) (by simp)
      (fun j u hu => by
        rw [addr_add, Nat.zero_add]
        rw [List.getElem?_map] at hu
        cases hl : l[j]? with
        | none => rw [hl] at hu; cases hu
        | some x => rw [hl] at hu; cases hu; exact h1 j x hl) ⟨gn, 0, none⟩ m c (news.map bcell) (by rw [hln, Nat.mul_one]) hca (by omega) (by unfold maxLen; omega) (by omega)
    have ho : OwnB w' w.heap.size v' (l ++ news) := by
      unfold OwnB Own; rw [List.length_map, List.length_append, hm, List.map_append]; exact h3
    refine ⟨v', w', hr, ?_, ⟨h4.os, h4.tape, h4.output, h4.size, fun k hk => h4.block k (by omega) (by simp)⟩⟩
    exact Loose.of_own (Own.mono ho hbase) (by rw [List.length_append]; omega)
theorem run_str_loose (w : World) (base : Nat) (v : Value) (l : List UInt8) (h : Loose w base v l) : (convert 64 9 v).run Tryd.prog w = .ok (.string ⟨l.toArray⟩) w := by
  obtain ⟨g, cap, rfl, hb, hg, hc, h1, h2⟩ := h
  rw [run_convert_bytes_string w _ _ 5 _ _ _ und44 und5 und9]
  have hl := run_loadCells_list (P := Tryd.prog) w ⟨g, 0, none⟩ (l.map bcell) (by
    intro j u hu
    rw [addr_add, Nat.zero_add]
    rw [List.getElem?_map] at hu
    cases hx : l[j]? with
    | none => rw [hx] at hu; cases hu
    | some x => rw [hx] at hu; cases hu; exact h1 j x hx)
  rw [List.length_map] at hl
  have e : l.map bcell = (l.map fun x => ((x.toNat : Int))).map (Value.int .u8) := by rw [List.map_map]; rfl
  rw [run_bytesToString w ⟨g, 0, none⟩ l.length cap (l.map fun x => ((x.toNat : Int))) (by rw [hl, e]), foldl_push]
  simp
theorem wpList_strL {w : World} {ops : Array Oper} {rest : List Oper} {o : Oper} {a : Act} {Q : Exit → Act → World → Prop} (hgd : o.guard = none) (x : Operand) (ho : o.op = .convert 64 9 x)
    (base : Nat) (v : Value) (l : List UInt8) (hx : a.eval x = v) (hown : Loose w base v l) (h : wpList Tryd.prog ops Q rest (a.put o.dst (.string ⟨l.toArray⟩)) w) : wpList Tryd.prog ops Q (o :: rest) a w := by
  refine wpList_plain hgd fun K hK => ?_
  have hrun := run_str_loose w base v l hown
  unfold Oper.wp
  simp [execOp, ho, hx, hrun, Result.andThen]
  exact hK _ _ h
/-- '[]byte(s)'. -/
theorem loose_bytes (w : World) (s : ByteArray) (cap : Nat) (hcap : s.size ≤ cap) : Loose (w.drew.alloc (.cells (bytesRow s cap) 5 ((bytesRow s cap).size, (bytesRow s cap).size + 1))) w.heap.size (.slice (some ⟨w.heap.size, 0, none⟩) s.size cap) s.data.toList := by
  have hsz : (bytesRow s cap).size = cap := by
    have : s.data.size = s.size := rfl
    simp [bytesRow, this]; omega
  have hh : (w.drew.alloc (.cells (bytesRow s cap) 5 ((bytesRow s cap).size, (bytesRow s cap).size + 1))).heap[w.heap.size]? = some (.cells (bytesRow s cap) 5 ((bytesRow s cap).size, (bytesRow s cap).size + 1)) := heap_alloc_new w.drew _
  have hcell : ∀ j, (w.drew.alloc (.cells (bytesRow s cap) 5 ((bytesRow s cap).size, (bytesRow s cap).size + 1))).cell? ⟨w.heap.size, j, none⟩ = (bytesRow s cap)[j]? := fun j => by simp only [World.cell?, hh]; rfl
  refine ⟨w.heap.size, cap, by rw [size_toList], Nat.le_refl _, by simp, by rw [size_toList]; exact hcap, fun j x hx => ?_, fun j h1 h2 => ?_⟩
  · have hj : j < s.data.toList.length := by
      rcases Nat.lt_or_ge j s.data.toList.length with h | h
      · exact h
      · rw [List.getElem?_eq_none h] at hx; cases hx
    rw [hcell, bytesRow_at s cap j (by simpa using hj)]
    rw [List.getElem?_eq_getElem hj] at hx
    rw [← Option.some.inj hx]; rfl
  · refine ⟨?_, ?_⟩
    · rw [hcell, Array.getElem?_eq_getElem (by rw [hsz]; exact h2)]; rfl
    · have hn : ¬ (bytesRow s cap).size ≤ j := by omega
      unfold World.frozen?
      simp only [hh]
      simp [hn]
theorem wpList_bytesL {w : World} {ops : Array Oper} {rest : List Oper} {o : Oper} {a : Act} {Q : Exit → Act → World → Prop} (hgd : o.guard = none) (x : Operand) (ho : o.op = .convert 9 64 x)
    (s : ByteArray) (hx : a.eval x = .string s) (h : ∀ v' w', Loose w' w.heap.size v' s.data.toList → Below w.heap.size w w' → wpList Tryd.prog ops Q rest (a.put o.dst v') w') : wpList Tryd.prog ops Q (o :: rest) a w := by
  refine wpList_plain hgd fun K hK => ?_
  have hrun := run_bytes_of_string (P := Tryd.prog) w 9 64 5 s und9 und44 und5
  have hL := loose_bytes w s (grownCap w s.size 0 5) (grownCap_ge _ _ _ _)
  have hB : Below w.heap.size w (w.drew.alloc (.cells (bytesRow s (grownCap w s.size 0 5)) 5 ((bytesRow s (grownCap w s.size 0 5)).size, (bytesRow s (grownCap w s.size 0 5)).size + 1))) := (Below.refl _ _).drew.alloc (Nat.le_refl _) _
  generalize w.drew.alloc (.cells (bytesRow s (grownCap w s.size 0 5)) 5 ((bytesRow s (grownCap w s.size 0 5)).size, (bytesRow s (grownCap w s.size 0 5)).size + 1)) = w' at *
  unfold Oper.wp
  simp [execOp, ho, hx, hrun, Result.andThen]
  exact hK _ _ (h _ w' hL hB)
theorem wpList_appL {w : World} {ops : Array Oper} {rest : List Oper} {o : Oper} {a : Act} {Q : Exit → Act → World → Prop} (hgd : o.guard = none) (s x : Operand)
    (ho : o.op = .call { callee := .builtin .append, args := #[s, x], argTypes := #[64, 64] }) (hty : o.type = 64)
    (base : Nat) (v : Value) (l : List UInt8) (hs : a.eval s = v) (hL : Loose w base v l)
    (vals : Array Value) (te : TypeId) (m c : Nat) (news : List UInt8) (hx : a.eval x = .slice (some ⟨w.heap.size, 0, none⟩) m c) (hm : news.length = m) (hv : vals.toList = news.map bcell) (h0 : 0 < m)
    (hbytes : l.length + m ≤ 140737488355328) (hbase : base ≤ w.heap.size)
    (h : ∀ v' w', Loose w' base v' (l ++ news) → Below base w w' → wpList Tryd.prog ops Q rest (a.put o.dst v') w') : wpList Tryd.prog ops Q (o :: rest) a (w.alloc (.cells vals te)) := by
  refine wpList_plain hgd fun K hK => ?_
  obtain ⟨v', w', hr, h1, h2⟩ := run_appL (w := w.alloc (.cells vals te)) base v l (hL.alloc _) w.heap.size m c news (fun j u hu => by
    rw [Row.cell (t := te) (cs := vals) (heap_alloc_new w _), ← Array.getElem?_toList, hv]; exact hu) hm hbytes (by simp; omega) h0
  have h2' : Below base w w' := ((Below.refl _ _).alloc hbase _).trans h2
  unfold heldApp at hr
  unfold Oper.wp execOp
  simp only [ho, hty, resolve, invoke, builtin, Sem.run_bind, Sem.run_pure, Result.andThen_ok, List.map_toArray, List.map_cons, List.map_nil, hs, hx, hr]
  exact hK _ _ (h v' w' h1 h2')
end Go.Proofs.YtoanekgphcijfaaDoor
