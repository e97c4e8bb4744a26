/- slices.DeleteFunc at a row of binds. slices.DeleteFunc at a row of binds: those of a variable to itself go. -/
import Derived.Test.YtdeegdndfblnkaaUB
import Derived.Test.YtdeegdndfblnkaaUX
import Derived.Lib.SliceRun
namespace Go.Proofs.Ytdeegdndfblnkaa
open Go.RowKit Go.Shelf
set_option maxRecDepth 100000

/-- What a run of stores leaves. -/
theorem heap_setCells (b : Nat) : ∀ (vs : List Value) (o : Nat) (w : World) (cur : Array Value) (e : TypeId), w.heap[b]? = some (.cells cur e (0, 0)) →
    ∃ cur', (w.setCells b o vs).heap[b]? = some (.cells cur' e (0, 0)) ∧ cur'.size = cur.size ∧ ∀ t, t < o → cur'[t]? = cur[t]?
  | [], _, _, cur, _, h => ⟨cur, h, rfl, fun _ _ => rfl⟩
  | v :: r, o, w, cur, e, h => by
    obtain ⟨cur', h1, h2, h3⟩ := heap_setCells b r (o + 1) (w.setCell ⟨b, o, none⟩ v) _ e (heap_setCell_same w b o _ _ v h)
    refine ⟨cur', h1, by simpa using h2, fun t ht => ?_⟩
    rw [h3 t (by omega), Array.getElem?_setIfInBounds, if_neg (by omega)]
theorem heap_setCells_other (b : Nat) : ∀ (vs : List Value) (o : Nat) (w : World) (k : Nat), k ≠ b → (w.setCells b o vs).heap[k]? = w.heap[k]?
  | [], _, _, _, _ => rfl
  | v :: r, o, w, k, h => by rw [World.setCells, heap_setCells_other b r (o + 1) _ k h]; exact heap_setCell_other _ _ _ _ h
theorem setCells_size (b : Nat) : ∀ (vs : List Value) (o : Nat) (w : World), (w.setCells b o vs).heap.size = w.heap.size ∧ (w.setCells b o vs).os = w.os ∧ (w.setCells b o vs).tape = w.tape ∧ (w.setCells b o vs).output = w.output
  | [], _, _ => ⟨rfl, rfl, rfl, rfl⟩
  | v :: r, o, w => by
    obtain ⟨h1, h2, h3, h4⟩ := setCells_size b r (o + 1) (w.setCell ⟨b, o, none⟩ v)
    rw [World.setCells]
    exact ⟨by rw [h1]; simp, h2, h3, h4⟩

/-- The first bind of a variable to itself. -/
def idxB (l : List Bd) : Int := match l.findIdx? (fun x => decide (selfB x)) with | none => -1 | some i => i

set_option maxHeartbeats 1000000 in
theorem indexSelf_any (l : List Bd) (A : Option Addr) (c : Nat) (w : World) (hA : Binds w (· < w.heap.size) A l) :
    Calls Try.prog 121 #[.slice A l.length c, .func (.func 50) #[] #[]] w fun e w' => e = .returned (.int .i64 (idxB l)) ∧ Below w.heap.size w w' := by
  have hlen := hA.len
  have HA := Lib.hid hA
  clear hA
  go_enter Try.func121, Try.ntmps121
  go_wp2
  go_loopw [8] (fun i wr => ∃ k : Nat, k ≤ l.length ∧ i = .int .i64 (k : Int) ∧ Below w.heap.size w wr ∧ Hid (∀ j, j < k → ∀ x, l[j]? = some x → ¬ selfB x)) (fun i _ => l.length - (intOf i).toNat)
  case atStart => exact ⟨0, Nat.zero_le _, rfl, Below.refl _ _, Lib.hid fun j hj => by omega⟩
  case round =>
    obtain ⟨k, hk, rfl, hBr, Hn⟩ := hrel
    by_cases hlt : k < l.length
    · obtain ⟨x, hx⟩ : ∃ x, l[k]? = some x := ⟨_, List.getElem?_eq_getElem hlt⟩
      obtain ⟨b, off, A', c', rfl, h⟩ := HA.out.get hx
      have e0 := cell_on hBr h.hb h.c0
      have e1 := cell_on hBr h.hb h.c1
      have e2 := cell_on hBr h.hb h.c2
      have hiv := h.iv
      have Hx := Lib.hid hx
      clear hx h
      by_cases hs : selfB x
      · have hns := Lib.hid (decide_eq_true hs)
        have hres : Hid (idxB l = (k : Int)) := Lib.hid (by
          obtain ⟨hk', hxe⟩ := List.getElem?_eq_some_iff.1 Hx.out
          have : l.findIdx? (fun x => decide (selfB x)) = some k := by
            rw [List.findIdx?_eq_some_iff_getElem]
            exact ⟨hk', by rw [hxe]; exact decide_eq_true hs, fun j hj => by have := Hn.out j hj _ (List.getElem?_eq_getElem (by omega)); simpa using this⟩
          unfold idxB
          rw [this])
        go_wp2_with (first
          | (go_at_call 50; refine (itself_any x A' c' wr hiv).mono ?_; go_must (rintro e w1 ⟨rfl, hb1⟩; rw [hns.out]; have hB1 := hBr.trans (hb1.mono hBr.size)))
          | fail)
        go_ret
        exact ⟨ret_int hres.out.symm, hB1⟩
      · have hns := Lib.hid (decide_eq_false hs)
        go_wp2_with (first
          | (go_at_call 50; refine (itself_any x A' c' wr hiv).mono ?_; go_must (rintro e w1 ⟨rfl, hb1⟩; rw [hns.out]; have hB1 := hBr.trans (hb1.mono hBr.size)))
          | fail)
        go_roundw
        case rel => exact ⟨k + 1, by omega, by go_num, hB1, Lib.hid fun j hj y hy => by
          rcases Nat.lt_or_ge j k with h | h
          · exact Hn.out j h y hy
          · obtain rfl : j = k := by omega
            rw [Hx.out] at hy; injection hy with hy; rw [← hy]; exact hs⟩
        case measure => simp [intOf]; omega
    · obtain rfl : k = l.length := by omega
      have hres : Hid (idxB l = -1) := Lib.hid (by
        have : l.findIdx? (fun x => decide (selfB x)) = none := by
          rw [List.findIdx?_eq_none_iff]
          intro x hx
          obtain ⟨j, hj⟩ := List.mem_iff_getElem?.1 hx
          have := Hn.out j (List.getElem?_eq_some_iff.1 hj).1 x hj
          simpa using this
        unfold idxB
        rw [this])
      go_wp2
      go_ret
      exact ⟨ret_int hres.out.symm, hBr⟩
end Go.Proofs.Ytdeegdndfblnkaa

namespace Go.Proofs.Ytdeegdndfblnkaa
open Go.RowKit Go.Shelf
set_option maxRecDepth 100000

def keepB (x : Bi) : Bool := !decide (selfB x.bd)

/-- The zero cells of so many binds. -/
def zerosB (n : Nat) : List Value := (Builtin.zeroCells #[.int .i64 0, .int .i64 0, .slice none 0 0] n).toList
theorem zerosB_one (n : Nat) : ∀ u ∈ zerosB n, u.oneCell' = true := by
  intro u hu
  unfold zerosB Builtin.zeroCells at hu
  simp only [Array.toList_map, List.mem_map] at hu
  obtain ⟨i, _, rfl⟩ := hu
  have h3 : i % 3 < 3 := Nat.mod_lt _ (by omega)
  show (#[Value.int .i64 0, .int .i64 0, .slice none 0 0][i % 3]!).oneCell' = true
  obtain e | e | e : i % 3 = 0 ∨ i % 3 = 1 ∨ i % 3 = 2 := by omega
  all_goals rw [e]; rfl
theorem zerosB_len (n : Nat) : (zerosB n).length = n * 3 := by
  unfold zerosB Builtin.zeroCells
  simp
/-- 'clear' behind the first i of a row. -/
theorem run_clear_binds {w : World} {base g cap n : Nat} {l : List Bi} {N : Nat → Prop} (h : RowB w base (.slice (some ⟨g, 0, none⟩) n cap) l N) (i c ty : Nat) (hi : i < n) :
    (Builtin.clear_ #[23] ty #[.slice (some ⟨g, i * 3, none⟩) (n - i) c]).run Try.prog w = .ok (.tuple #[]) (w.setCells g (i * 3) (zerosB (n - i))) := by
  have hlen : n = l.length := by
    rcases h.row.2 with ⟨e, _⟩ | ⟨g', cap', cur, e, _⟩
    · cases e
    · injection e
  have hst := run_storeCells_cells (P := Try.prog) g (i * 3) (zerosB (n - i)) 0 w (fun j hj => ?_) (fun j hj => h.frozen _) (zerosB_one _)
  · simp only [Nat.add_zero] at hst
    obtain ⟨m, hm⟩ : ∃ m, n - i = m + 1 := ⟨n - i - 1, by omega⟩
    rw [hm] at hst ⊢
    unfold zerosB at hst ⊢
    have hc : (Value.agg #[.int .i64 0, .int .i64 0, .slice none 0 0]).cells = #[.int .i64 0, .int .i64 0, .slice none 0 0] := rfl
    simp [Builtin.clear_, run_underlying Try.underlying23, hc, hst]
  · rw [zerosB_len] at hj
    obtain ⟨x, hx⟩ : ∃ x, l[(i * 3 + j) / 3]? = some x := ⟨_, List.getElem?_eq_getElem (by omega)⟩
    have hq := h.get hx
    rw [Nat.add_zero]
    have hm3 : (i * 3 + j) % 3 < 3 := Nat.mod_lt _ (by omega)
    obtain e | e | e : (i * 3 + j) % 3 = 0 ∨ (i * 3 + j) % 3 = 1 ∨ (i * 3 + j) % 3 = 2 := by omega
    · rw [show i * 3 + j = (i * 3 + j) / 3 * 3 by omega, hq.1]; rfl
    · rw [show i * 3 + j = (i * 3 + j) / 3 * 3 + 1 by omega, hq.2.1]; rfl
    · rw [show i * 3 + j = (i * 3 + j) / 3 * 3 + 2 by omega, hq.2.2]; rfl

/-- The row that is left. -/
def DelPost (l : List Bi) (v : Value) (base : Nat) (N : Nat → Prop) (w : World) (e : Ending) (w' : World) : Prop :=
  ∃ v', e = .returned v' ∧ RowB w' base v' (l.filter keepB) N ∧ w.grownBy w' v.ownBlock ∧ v'.ownBlock = v.ownBlock

theorem grown_below {w w' : World} {o : Option Nat} (h : Below w.heap.size w w') : w.grownBy w' o := ⟨h.os, h.tape, h.output, h.size, fun k hk _ => h.block k hk⟩
theorem grown_trans {w w' w'' : World} {o : Option Nat} (h : w.grownBy w' o) (h' : w'.grownBy w'' o) : w.grownBy w'' o :=
  ⟨h'.os.trans h.os, h'.tape.trans h.tape, h'.output.trans h.output, Nat.le_trans h.size h'.size, fun k hk hn => (h'.block k (Nat.lt_of_lt_of_le hk h.size) hn).trans (h.block k hk hn)⟩
theorem grown_set (w : World) (g i : Nat) (x : Bi) : w.grownBy (setB w g i x) (some g) :=
  ⟨rfl, rfl, rfl, by unfold setB; simp, fun k _ hn => (heap_setCell_other _ _ _ _ fun e => hn (by rw [e])).trans ((heap_setCell_other _ _ _ _ fun e => hn (by rw [e])).trans (heap_setCell_other _ _ _ _ fun e => hn (by rw [e])))⟩

/-- How far DeleteFunc has come: i are kept of the first j. -/
structure DelI (l L : List Bi) (i j : Nat) : Prop where
  len : L.length = l.length
  lt : i < j
  le : j ≤ l.length
  kept : L.take i = (l.take j).filter keepB
  rest : L.drop j = l.drop j
theorem DelI.get {l L : List Bi} {i j : Nat} (h : DelI l L i j) {x : Bi} (hx : l[j]? = some x) : L[j]? = some x := by
  have h1 : (L.drop j)[0]? = (l.drop j)[0]? := by rw [h.rest]
  simpa [hx] using h1
theorem DelI.skip {l L : List Bi} {i j : Nat} (h : DelI l L i j) {x : Bi} (hx : l[j]? = some x) (hk : keepB x = false) : DelI l L i (j + 1) := by
  have hj := (List.getElem?_eq_some_iff.1 hx).1
  refine ⟨h.len, Nat.lt_succ_of_lt h.lt, hj, ?_, ?_⟩
  · rw [List.take_add_one, hx, List.filter_append, h.kept]; simp [hk]
  · rw [← List.drop_drop, ← List.drop_drop, h.rest]
theorem DelI.take {l L : List Bi} {i j : Nat} (h : DelI l L i j) {x : Bi} (hx : l[j]? = some x) (hk : keepB x = true) : DelI l (L.set i x) (i + 1) (j + 1) := by
  have hj := (List.getElem?_eq_some_iff.1 hx).1
  have hlt := h.lt
  have hl := h.len
  refine ⟨by rw [List.length_set]; exact h.len, Nat.succ_lt_succ h.lt, hj, ?_, ?_⟩
  · rw [List.take_add_one (l := l), hx, List.filter_append, ← h.kept, List.take_add_one (l := L.set i x), List.getElem?_set_self (by omega), List.take_set_of_le (Nat.le_refl _)]; simp [hk]
  · rw [List.drop_set_of_lt (by omega), ← List.drop_drop, ← List.drop_drop, h.rest]
theorem DelI.start {l : List Bi} {i : Nat} {x : Bi} (hx : l[i]? = some x) (hk : keepB x = false) (hb : ∀ j, j < i → ∀ y, l[j]? = some y → keepB y = true) : DelI l l i (i + 1) := by
  have hj := (List.getElem?_eq_some_iff.1 hx).1
  refine ⟨rfl, Nat.lt_succ_self _, hj, ?_, rfl⟩
  rw [List.take_add_one, hx, List.filter_append]
  have : (l.take i).filter keepB = l.take i := by
    rw [List.filter_eq_self]
    intro y hy
    obtain ⟨j, hj⟩ := List.mem_iff_getElem?.1 hy
    have hji := (List.getElem?_eq_some_iff.1 hj).1
    rw [List.length_take] at hji
    rw [List.getElem?_take, if_pos (by omega)] at hj
    exact hb j (by omega) y hj
  rw [this]
  simp [hk]

theorem keep_of {x : Bi} (h : keepB x = true) : ¬ selfB x.bd := by
  unfold keepB at h; simpa using h
theorem drop_of {x : Bi} (h : keepB x = false) : selfB x.bd := by
  unfold keepB at h; simpa using h

theorem del_fin {l L : List Bi} {g cap base i : Nat} {N : Nat → Prop} {w wr : World} (h : RowB wr base (.slice (some ⟨g, 0, none⟩) l.length cap) L N) (hD : DelI l L i l.length) (hG : w.grownBy wr (some g)) (hN : ∀ k, N k → k ≠ g ∧ k < w.heap.size) (zs : List Value) :
    DelPost l (.slice (some ⟨g, 0, none⟩) l.length cap) base N w (.returned (.slice (some ⟨g, 0, none⟩) i cap)) (wr.setCells g (i * 3) zs) := by
  have hoth : ∀ k, k ≠ g → (wr.setCells g (i * 3) zs).heap[k]? = wr.heap[k]? := fun k e => heap_setCells_other g zs (i * 3) wr k e
  obtain ⟨z1, z2, z3, z4⟩ := setCells_size g zs (i * 3) wr
  have hil := hD.lt
  have hkept := hD.kept
  rw [List.take_length] at hkept
  unfold DelPost
  rw [← hkept]
  have hlen : (L.take i).length = i := by rw [List.length_take, hD.len]; omega
  refine ⟨_, rfl, ⟨⟨by rw [bi_len], ?_⟩, fun x hx => ?_⟩, grown_trans hG ⟨z2, z3, z4, by rw [z1]; exact Nat.le_refl _, fun k _ hk => hoth k fun e => hk (by rw [e]; rfl)⟩, rfl⟩
  · rcases h.row.2 with ⟨e, _⟩ | ⟨g', cap', cur, e, hb, hg, hc, hm, hs, ht⟩
    · cases e
    · injection e with e1 e2 e3
      injection e1 with e1
      injection e1 with e1
      subst e1; subst e3
      obtain ⟨cur', h1, h2, h3⟩ := heap_setCells g zs (i * 3) wr cur _ hg
      refine .inr ⟨g, cap, cur', by rw [hlen], hb, h1, by rw [hlen]; omega, hm, by rw [h2]; exact hs, ?_⟩
      rw [hlen]
      apply List.ext_getElem?
      intro t
      rw [List.getElem?_take, Array.getElem?_toList]
      by_cases hlt : t < i * 3
      · have h4 : (L.flatMap Bi.cells)[t]? = cur[t]? := by rw [← ht, List.getElem?_take, if_pos (by have := hD.len; omega), Array.getElem?_toList]
        have h5 := bi_get L (t / 3) (t % 3) (Nat.mod_lt _ (by omega))
        have h6 := bi_get (L.take i) (t / 3) (t % 3) (Nat.mod_lt _ (by omega))
        rw [show t / 3 * 3 + t % 3 = t by omega] at h5 h6
        rw [if_pos hlt, h3 t hlt, ← h4, h5, h6, List.getElem?_take, if_pos (by omega)]
      · rw [if_neg hlt, List.getElem?_eq_none (by rw [bi_len, hlen]; omega)]
  · exact (h.fx x (List.mem_of_mem_take hx)).keep fun k hk => hoth k (hN k hk).1

set_option maxHeartbeats 4000000 in
theorem delete_some (l : List Bi) (g cap base : Nat) (N : Nat → Prop) (w : World) (h : RowB w base (.slice (some ⟨g, 0, none⟩) l.length cap) l N) (hl : l.length ≤ 4194304) (hN : ∀ k, N k → k ≠ g ∧ k < w.heap.size) (i0 : Nat) (x0 : Bi) (hx0 : l[i0]? = some x0) (hk0 : keepB x0 = false) (hb0 : ∀ j, j < i0 → ∀ y, l[j]? = some y → keepB y = true) :
    Calls Try.prog 87 #[.slice (some ⟨g, 0, none⟩) l.length cap, .func (.func 50) #[] #[]] w (DelPost l (.slice (some ⟨g, 0, none⟩) l.length cap) base N w) := by
  obtain ⟨A', c', hA', hbd⟩ := h.binds (M := (· < w.heap.size)) (by omega) (fun k e => (row_lt h.row k e).2) (fun k e => (hN k e).2)
  injection hA' with hA1 hA2 hA3
  subst hA1; subst hA3
  have hcap : l.length ≤ cap := by
    rcases h.row.2 with ⟨e, _⟩ | ⟨g', cap', cur, e, hb, hg, hc, hm, hs, ht⟩
    · cases e
    · injection e with e1 e2 e3; subst e3; exact hc
  have hidx : idxB (l.map Bi.bd) = (i0 : Int) := by
    have hi0 := (List.getElem?_eq_some_iff.1 hx0).1
    have : (l.map Bi.bd).findIdx? (fun x => decide (selfB x)) = some i0 := by
      rw [List.findIdx?_eq_some_iff_getElem]
      refine ⟨by simpa using hi0, ?_, fun j hj => ?_⟩
      · rw [List.getElem_map, (List.getElem?_eq_some_iff.1 hx0).2]; exact decide_eq_true (drop_of hk0)
      · rw [List.getElem_map]
        have := keep_of (hb0 j hj _ (List.getElem?_eq_getElem (by omega)))
        simpa using this
    unfold idxB
    rw [this]
  have H := Lib.hid (indexSelf_any (l.map Bi.bd) (some ⟨g, 0, none⟩) cap w hbd)
  rw [List.length_map, hidx] at H
  have hi0 := (List.getElem?_eq_some_iff.1 hx0).1
  have Hst := Lib.hid (DelI.start hx0 hk0 hb0)
  have HN := Lib.hid hN
  have HR := Lib.hid h
  have hne : ((i0 : Int) == -1) = false := by simp
  clear hidx hx0 hk0 hb0 hbd h hN hA2
  go_enter Try.func87, Try.ntmps87
  go_wp2_with (first
    | (go_at_call 121; (with_reducible refine H.out.mono ?_); go_must (rintro e w1 ⟨rfl, hb1⟩))
    | fail)
  have HR1 : Hid (RowB w1 base (.slice (some ⟨g, 0, none⟩) l.length cap) l N) := Lib.hid (HR.out.keep (fun k e => hb1.block k (row_lt HR.out.row k e).2) (fun k e => hb1.block k (HN.out k e).2))
  go_loopw [5, 6] (fun a b wr => ∃ (i j : Nat) (L : List Bi), a = .int .i64 (i : Int) ∧ b = .int .i64 (j : Int) ∧ Hid (DelI l L i j) ∧ Hid (RowB wr base (.slice (some ⟨g, 0, none⟩) l.length cap) L N) ∧ Hid (w.grownBy wr (some g))) (fun _ b _ => l.length - (intOf b).toNat)
  case atStart => exact ⟨i0, i0 + 1, l, rfl, by go_num, Hst, HR1, Lib.hid (grown_below hb1)⟩
  case round =>
    obtain ⟨i, j, L, rfl, rfl, HD, HRr, HG⟩ := hrel
    have hij := HD.out.lt
    have hjl := HD.out.le
    have hLl := HD.out.len
    by_cases hlt : j < l.length
    · obtain ⟨x, hx⟩ : ∃ x, l[j]? = some x := ⟨_, List.getElem?_eq_getElem hlt⟩
      obtain ⟨e0, e1, e2⟩ := HRr.out.get (HD.out.get hx)
      have hxf := HRr.out.fx x (List.mem_of_getElem? (HD.out.get hx))
      have Hx := Lib.hid hx
      have Hxf := Lib.hid hxf
      have HL := Lib.hid hLl
      clear hx hLl hxf
      obtain ⟨y, hy⟩ : ∃ y, L[i]? = some y := ⟨_, List.getElem?_eq_getElem (by have := HL.out; omega)⟩
      have Hy := Lib.hid hy
      clear hy
      have q0 := heap_alloc_new wr (.cells #[.int .i64 x.v, .int .i64 x.t.fn, .slice x.A x.t.args.length x.c] 77)
      obtain ⟨W, hW⟩ : ∃ W, wr.alloc (.cells #[.int .i64 x.v, .int .i64 x.t.fn, .slice x.A x.t.args.length x.c] 77) = W := ⟨_, rfl⟩
      have hBx : Below wr.heap.size wr W := by rw [← hW]; exact (Below.refl _ _).alloc (Nat.le_refl _) _
      rw [hW] at q0
      have hWs : wr.heap.size < W.heap.size := (Array.getElem?_eq_some_iff.1 q0).1
      obtain ⟨b0, b1, b2, _, _, _⟩ := cells_three q0
      have HW := Lib.hid hW
      clear hW
      have hgs := HG.out.size
      have lift : ∀ w2, Below W.heap.size W w2 → Below wr.heap.size wr w2 ∧ RowB w2 base (.slice (some ⟨g, 0, none⟩) l.length cap) L N := fun w2 hb2 => by
        have hB2 := hBx.trans (hb2.mono hBx.size)
        exact ⟨hB2, HRr.out.keep (fun k e => hB2.block k (row_lt HRr.out.row k e).2) (fun k e => hB2.block k (Nat.lt_of_lt_of_le (HN.out k e).2 hgs))⟩
      have Hlift := Lib.hid lift
      clear lift
      go_upto_region 8 with fail
      rw [HW.out]
      clear e0 e1 e2
      by_cases hk : keepB x = true
      · have hs := Lib.hid (decide_eq_false (keep_of hk))
        go_upto_region 9 with (first
          | (go_at_call 50; refine (itself_any x.bd x.A x.c W Hxf.out.iv).mono ?_; go_must (rintro e w2 ⟨rfl, hb2⟩; rw [hs.out]))
          | fail)
        obtain ⟨hB2, hR2⟩ := Hlift.out w2 hb2
        have c0 := cell_on hb2 hWs b0
        have c1 := cell_on hb2 hWs b1
        have c2 := cell_on hb2 hWs b2
        obtain ⟨d0, d1, d2⟩ := hR2.get Hy.out
        have f0 := hR2.frozen (i * 3)
        have f1 := hR2.frozen (i * 3 + 1)
        have f2 := hR2.frozen (i * 3 + 2)
        have HR2 := Lib.hid hR2
        have hil : i < l.length := by omega
        clear hR2
        go_wp2
        go_roundw
        case rel =>
          have hxf2 : BiFx w2 N x := Hxf.out.keep fun k e => hB2.block k (Nat.lt_of_lt_of_le (HN.out k e).2 hgs)
          exact ⟨i + 1, j + 1, L.set i x, by go_num, by go_num, Lib.hid (HD.out.take Hx.out hk), Lib.hid (HR2.out.set (by have := HL.out; omega) (fun k e => (HN.out k e).1) hxf2), Lib.hid (grown_trans (grown_trans HG.out (grown_below hB2)) (grown_set w2 g i x))⟩
        case measure => simp [intOf]; omega
      · have hk' : keepB x = false := by simpa using hk
        have hs := Lib.hid (decide_eq_true (drop_of hk'))
        go_wp2_with (first
          | (go_at_call 50; refine (itself_any x.bd x.A x.c W Hxf.out.iv).mono ?_; go_must (rintro e w2 ⟨rfl, hb2⟩; rw [hs.out]))
          | fail)
        obtain ⟨hB2, hR2⟩ := Hlift.out w2 hb2
        first
          | (go_roundw
             case rel => exact ⟨i, j + 1, L, rfl, by go_num, Lib.hid (HD.out.skip Hx.out hk'), Lib.hid hR2, Lib.hid (grown_trans HG.out (grown_below hB2))⟩
             case measure => simp [intOf]; omega)
          | exact ⟨⟨i, j + 1, L, rfl, by go_num, Lib.hid (HD.out.skip Hx.out hk'), Lib.hid hR2, Lib.hid (grown_trans HG.out (grown_below hB2))⟩, by simp [intOf]; omega⟩
    · obtain rfl : j = l.length := by omega
      have hcl := fun c ty => run_clear_binds HRr.out i c ty hij
      have hil : i < cap := by omega
      have hile : i ≤ l.length := by omega
      have HL := Lib.hid hLl
      clear hLl
      go_wp2
      go_ret
      exact del_fin HRr.out HD.out HG.out HN.out _

theorem delete_any (l : List Bi) (v : Value) (base : Nat) (N : Nat → Prop) (w : World) (h : RowB w base v l N) (hl : l.length ≤ 4194304) (hN : ∀ k, N k → v.ownBlock ≠ some k ∧ k < w.heap.size) :
    Calls Try.prog 87 #[v, .func (.func 50) #[] #[]] w (DelPost l v base N w) := by
  by_cases hall : ∀ x ∈ l, keepB x = true
  · obtain ⟨A', c', rfl, hbd⟩ := h.binds (M := (· < w.heap.size)) (by omega) (fun k e => (row_lt h.row k e).2) (fun k e => (hN k e).2)
    have H := deleteSelf_none (l.map Bi.bd) A' c' w hbd (fun y hy => by
      obtain ⟨x, hx, rfl⟩ := List.mem_map.1 hy
      exact keep_of (hall x hx))
    rw [List.length_map] at H
    refine H.mono fun e w' he => ?_
    obtain ⟨rfl, hb⟩ := he
    refine ⟨_, rfl, ?_, grown_below hb, rfl⟩
    rw [List.filter_eq_self.2 hall]
    exact h.keep (fun k e => hb.block k (row_lt h.row k e).2) fun k e => hb.block k (hN k e).2
  · have hex : ∃ (i0 : Nat) (x0 : Bi), l[i0]? = some x0 ∧ keepB x0 = false ∧ ∀ j : Nat, j < i0 → ∀ y, l[j]? = some y → keepB y = true := by
      rcases hf : l.findIdx? (fun x => !keepB x) with _ | i0
      · rw [List.findIdx?_eq_none_iff] at hf
        exact absurd (fun x hx => by simpa using hf x hx) hall
      · rw [List.findIdx?_eq_some_iff_getElem] at hf
        obtain ⟨h1, h2, h3⟩ := hf
        exact ⟨i0, l[i0], List.getElem?_eq_getElem h1, by simpa using h2, fun j hj y hy => by
          have := h3 j hj
          obtain ⟨_, rfl⟩ := List.getElem?_eq_some_iff.1 hy
          simpa using this⟩
    obtain ⟨i0, x0, hx0, hk0, hb0⟩ := hex
    have hi0 := (List.getElem?_eq_some_iff.1 hx0).1
    rcases h.row.2 with ⟨rfl, h0⟩ | ⟨g, cap, cur, rfl, hb, hg, _⟩
    · omega
    · exact delete_some l g cap base N w h hl (fun k e => ⟨fun e' => (hN k e).1 (by rw [e']; rfl), (hN k e).2⟩) i0 x0 hx0 hk0 hb0
end Go.Proofs.Ytdeegdndfblnkaa
