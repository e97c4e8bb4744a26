/- Appending symbols to a row of the call's own. -/
import Derived.Test.YtdeegdndfblnkaaL0
import Derived.Maps.AppendAt
namespace Go.Proofs.Ytdeegdndfblnkaa
open Go.RowKit

theorem info_sym : (Try.prog.info? 139).map (fun i => (i.zero, i.size, i.bytes)) = some (some (.agg #[.string ByteArray.empty, .int .i64 0, .bool false]), 3, 32) := by kernel_rfl

/-- The slice v is the call's own (its row lies from block base on), and holds the symbols l. -/
structure Own (w : World) (base : Nat) (v : Value) (l : List Sm) : Prop where
  row : w.ownsRow base 139 3 v l.length (l.flatMap Sm.cells)
  ok : ∀ x ∈ l, x.Ok

section
variable {w w' : World} {base B n : Nat} {v : Value} {l l' : List Sm} {A : Option Addr}
theorem Own.nil_ (w : World) (base : Nat) : Own w base (.slice none 0 0) [] := ⟨⟨rfl, .inl ⟨rfl, rfl⟩⟩, fun x hx => by simp at hx⟩
theorem Own.shape (h : Own w base v l) : ∃ A c, v = .slice A l.length c := by
  rcases h.row.2 with ⟨hv, h0⟩ | ⟨g, cap, cur, hv, _⟩
  · exact ⟨none, 0, by rw [hv, h0]⟩
  · exact ⟨_, cap, hv⟩
theorem Own.syms {c : Nat} (h : Own w base (.slice A n c) l) : Syms w w.heap.size A n l := by
  have hn : n = l.length := by
    obtain ⟨A', c', e⟩ := h.shape
    injection e
  subst hn
  refine Syms.of_flat rfl h.ok fun hpos => ?_
  rcases h.row.2 with ⟨_, h0⟩ | ⟨g, cap, cur, hv, _, hg, _, _, _, htake⟩
  · omega
  · injection hv with hA
    refine ⟨g, 0, hA, (Array.getElem?_eq_some_iff.1 hg).1, fun j u hu => ?_⟩
    rw [← htake, List.getElem?_take] at hu
    simp only [World.cell?, hg, Nat.zero_add]
    split at hu
    · simpa using hu
    · cases hu
theorem Own.below (h : Own w base v l) (hb : Below w.heap.size w w') : Own w' base v l := by
  refine ⟨⟨h.row.1, ?_⟩, h.ok⟩
  rcases h.row.2 with h0 | ⟨g, cap, cur, hv, hbase, hg, hrest⟩
  · exact .inl h0
  · exact .inr ⟨g, cap, cur, hv, hbase, (hb.block g (Array.getElem?_eq_some_iff.1 hg).1).trans hg, hrest⟩

theorem Own.keep (h : Own w base v l) (hk : ∀ g, base ≤ g → g < w.heap.size → w'.heap[g]? = w.heap[g]?) : Own w' base v l := by
  refine ⟨⟨h.row.1, ?_⟩, h.ok⟩
  rcases h.row.2 with h0 | ⟨g, cap, cur, hv, hbase, hg, hrest⟩
  · exact .inl h0
  · exact .inr ⟨g, cap, cur, hv, hbase, (hk g hbase (Array.getElem?_eq_some_iff.1 hg).1).trans hg, hrest⟩
theorem Own.setCell (h : Own w base v l) {p : Addr} (hp : p.block < base) (u : Value) : Own (w.setCell p u) base v l :=
  h.keep fun g hg _ => Below.heap_setCell w p u g (by omega)
theorem Own.drewN (h : Own w base v l) (k : Nat) : Own (w.drewN k) base v l := h.keep fun _ _ _ => rfl
theorem Own.alloc (h : Own w base v l) (o : Obj) : Own (w.alloc o) base v l := h.keep fun g _ hg => Below.heap_alloc w o g hg

theorem run_append_none (ty c : Nat) (h : Own w base v l) : (Builtin.append_ #[59, 59] ty #[v, .slice none 0 c]).run Try.prog w = .ok v w := by
  obtain ⟨i, hi, _⟩ := info_parts info_sym
  rcases h.row.2 with ⟨rfl, _⟩ | ⟨g, cap, cur, rfl, _, _, hnc, _⟩
  · simp [Builtin.append_, run_underlying Try.underlying59, sizeOf, typeInfo, hi, Builtin.lenOf, Builtin.firstCells]
  · simp [Builtin.append_, run_underlying Try.underlying59, sizeOf, typeInfo, hi, Builtin.lenOf, Builtin.firstCells, hnc, storeCells]

theorem run_append_syms (ty c m : Nat) (h : Own w base v l) (hs : Syms w B A m l') (hm : (l.length + m) * 32 ≤ 140737488355328) (hbase : base ≤ w.heap.size) :
    ∃ A' c' w', (Builtin.append_ #[59, 59] ty #[v, .slice A m c]).run Try.prog w = .ok (.slice A' (l.length + m) c') w' ∧ Own w' base (.slice A' (l.length + m) c') (l ++ l') ∧ w.grownBy w' v.ownBlock := by
  have hm' : l'.length = m := hs.len
  have key : ∃ v' w', (Builtin.append_ #[59, 59] ty #[v, .slice A m c]).run Try.prog w = .ok v' w' ∧ Own w' base v' (l ++ l') ∧ w.grownBy w' v.ownBlock := by
    rcases A with _ | ad
    · have h0 : m = 0 := by
        rcases Nat.eq_zero_or_pos m with h0 | h0
        · exact h0
        · obtain ⟨_, _, e, _⟩ := hs.ad h0
          cases e
      subst h0
      have : l' = [] := List.eq_nil_of_length_eq_zero hm'
      subst this
      exact ⟨v, w, run_append_none ty c h, by rw [List.append_nil]; exact h, World.grownBy.refl w _⟩
    · have hcells : ∀ j u, (l'.flatMap Sm.cells)[j]? = some u → w.cell? (ad.add j) = some u := by
        intro j u hu
        rcases Nat.eq_zero_or_pos m with h0 | h0
        · have : l' = [] := List.eq_nil_of_length_eq_zero (hm'.trans h0)
          subst this
          simp at hu
        · obtain ⟨b, off, e, _, hc⟩ := hs.flat h0
          injection e with e
          subst e
          have := hc j u hu
          unfold Addr.add
          split
          · rename_i hj; subst hj; simpa using this
          · exact this
      obtain ⟨i0, hi0, hz0, hz1, hz2⟩ := info_parts info_sym
      obtain ⟨v', w', hrun, hrow, hg, _⟩ := run_append_own (P := Try.prog) w base 59 ty 139 i0 _ 3 32 Try.underlying59 hi0 hz0 hz1 hz2 rfl (by omega) v l.length _ h.row ad m c (l'.flatMap Sm.cells)
        (by rw [flat_len, hm']) hcells (flat_one l') (by simp only [maxLen]; omega) hm hbase
      refine ⟨v', w', hrun, ⟨?_, fun x hx => ?_⟩, hg⟩
      · rw [List.flatMap_append, List.length_append, hm']; exact hrow
      · rcases List.mem_append.1 hx with hx | hx
        · exact h.ok x hx
        · exact hs.ok x hx
  obtain ⟨v', w', hrun, hown, hg⟩ := key
  obtain ⟨A', c', e⟩ := hown.shape
  rw [List.length_append, hm'] at e
  subst e
  exact ⟨A', c', w', hrun, hown, hg⟩

theorem wp_append_syms {o : Oper} {a : Act} {K : Act → World → Prop} {Q : Exit → Act → World → Prop} (s x : Operand)
    (ho : o.op = .call { callee := .builtin .append, args := #[s, x], argTypes := #[59, 59] }) (v : Value) (l : List Sm) (hs : a.eval s = v) (base : Nat) (hown : Own w base v l)
    (A : Option Addr) (m c B : Nat) (l' : List Sm) (hx : a.eval x = .slice A m c) (hr : Syms w B A m l') (hm : (l.length + m) * 32 ≤ 140737488355328) (hbase : base ≤ w.heap.size)
    (h : ∀ A' c' w', Own w' base (.slice A' (l.length + m) c') (l ++ l') → w.grownBy w' v.ownBlock → K (a.put o.dst (.slice A' (l.length + m) c')) w') : o.wp Try.prog a w K Q := by
  obtain ⟨A', c', w', hrun, h2, h3⟩ := run_append_syms o.type c m hown hr hm hbase
  unfold Oper.wp
  simp [execOp, ho, resolve, invoke, builtin, hs, hx, hrun, Result.andThen]
  exact h A' c' w' h2 h3
theorem wpList_append_syms {ops : Array Oper} {rest : List Oper} {o : Oper} {a : Act} {Q : Exit → Act → World → Prop} (hgd : o.guard = none) (s x : Operand)
    (ho : o.op = .call { callee := .builtin .append, args := #[s, x], argTypes := #[59, 59] }) (v : Value) (l : List Sm) (hs : a.eval s = v) (base : Nat) (hown : Own w base v l)
    (A : Option Addr) (m c B : Nat) (l' : List Sm) (hx : a.eval x = .slice A m c) (hr : Syms w B A m l') (hm : (l.length + m) * 32 ≤ 140737488355328) (hbase : base ≤ w.heap.size)
    (h : ∀ A' c' w', Own w' base (.slice A' (l.length + m) c') (l ++ l') → w.grownBy w' v.ownBlock → wpList Try.prog ops Q rest (a.put o.dst (.slice A' (l.length + m) c')) w') : wpList Try.prog ops Q (o :: rest) a w :=
  wpList_plain hgd fun _ hK => wp_append_syms s x ho v l hs base hown A m c B l' hx hr hm hbase fun A' c' w' h2 h3 => hK _ _ (h A' c' w' h2 h3)
theorem step_append_syms {ops : Array Oper} {o : Oper} {a : Act} {K : Act → World → Prop} {Q : Exit → Act → World → Prop} {E : Prop} (hgd : o.guard = none) (s x : Operand)
    (ho : o.op = .call { callee := .builtin .append, args := #[s, x], argTypes := #[59, 59] }) (v : Value) (l : List Sm) (hs : a.eval s = v) (base : Nat) (hown : Own w base v l)
    (A : Option Addr) (m c B : Nat) (l' : List Sm) (hx : a.eval x = .slice A m c) (hr : Syms w B A m l') (hm : (l.length + m) * 32 ≤ 140737488355328) (hbase : base ≤ w.heap.size)
    (h : ∀ A' c' w', Own w' base (.slice A' (l.length + m) c') (l ++ l') → w.grownBy w' v.ownBlock → K (a.put o.dst (.slice A' (l.length + m) c')) w') : if Region.wanted o (yielded ops a.tmps) = true then Oper.wp Try.prog o a w K Q else E := by
  rw [if_pos (by simp [Region.wanted, hgd])]
  exact wp_append_syms s x ho v l hs base hown A m c B l' hx hr hm hbase h
end
end Go.Proofs.Ytdeegdndfblnkaa
