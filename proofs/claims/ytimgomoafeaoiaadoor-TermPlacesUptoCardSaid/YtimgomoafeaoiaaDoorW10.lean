/- The numbers of symbols, as a map. -/
import Derived.Test.YtimgomoafeaoiaaDoorW8
import Derived.Test.YtimgomoafeaoiaaDoorW9
namespace Go.Proofs.YtimgomoafeaoiaaDoor
open Go.RowKit Go.Shelf
set_option maxRecDepth 20000
attribute [local go_sem] Oper.semAt_some

/-- What the map holds when pre has come. -/
def backF (pre : List IxSm) : Sm → Option Int := pre.foldl (fun f x => updS f x.1.2 x.1.1) (fun _ => none)
theorem backF_snoc (pre : List IxSm) (x : IxSm) : backF (pre ++ [x]) = updS (backF pre) x.1.2 x.1.1 := by simp [backF]
def firstF (l : List Sm) (y : Sm) : Option Int := if atI l y < 0 then none else some (atI l y)
theorem backF_at {l : List Sm} {zs : List IxSm} (h : Backs l zs) (y : Sm) : ∀ k, k ≤ l.length →
    (backF (zs.take k) y = none ∧ ∀ j, l.length - k ≤ j → l[j]? ≠ some y) ∨ (∃ i : Nat, backF (zs.take k) y = some (i : Int) ∧ l[i]? = some y ∧ ∀ j, l.length - k ≤ j → j < i → l[j]? ≠ some y)
  | 0, _ => .inl ⟨rfl, fun j hj => by rw [List.getElem?_eq_none (by omega)]; simp⟩
  | k + 1, hk => by
    obtain ⟨x, hx⟩ : ∃ x, zs[k]? = some x := ⟨_, List.getElem?_eq_getElem (by rw [h.len]; omega)⟩
    obtain ⟨h1, h2⟩ := h.at_ k x hx
    have hts : zs.take (k + 1) = zs.take k ++ [x] := by rw [List.take_add_one, hx]; rfl
    rw [hts, backF_snoc]
    by_cases e : y = x.1.2
    · subst e
      refine .inr ⟨x.1.1, by simp [updS], by rw [h1]; exact h2, fun j hj hlt => by omega⟩
    · have e1 : updS (backF (zs.take k)) x.1.2 x.1.1 y = backF (zs.take k) y := by simp [updS, e]
      rw [e1]
      have hnot : ∀ j, l.length - (k + 1) ≤ j → ¬ l.length - k ≤ j → l[j]? ≠ some y := fun j ha hb => by
        obtain rfl : j = l.length - 1 - k := by omega
        rw [h2]; intro he; injection he with he; exact e he.symm
      rcases backF_at h y k (by omega) with ⟨g1, g2⟩ | ⟨i, g1, g2, g3⟩
      · refine .inl ⟨g1, fun j hj => ?_⟩
        by_cases hj' : l.length - k ≤ j
        · exact g2 j hj'
        · exact hnot j hj hj'
      · refine .inr ⟨i, g1, g2, fun j hj hlt => ?_⟩
        by_cases hj' : l.length - k ≤ j
        · exact g3 j hj' hlt
        · exact hnot j hj hj'
theorem backF_all {l : List Sm} {zs : List IxSm} (h : Backs l zs) : backF zs = firstF l := by
  funext y
  have := backF_at h y l.length (Nat.le_refl _)
  rw [List.take_of_length_le (by rw [h.len]; exact Nat.le_refl _)] at this
  rcases this with ⟨h1, h2⟩ | ⟨i, h1, h2, h3⟩
  · rw [h1, firstF, atI_miss l y (fun j _ => h2 j (by omega))]
    simp
  · rw [h1, firstF, atI_hit l y i h2 (fun j hj => h3 j (by omega) hj)]
    rw [if_neg (by omega)]

/-- Block B is the symbol x. -/
def Blk3 (W : World) (B : Nat) (x : Sm) : Prop := W.heap[B]? = some (.cells #[.string x.name, .int .i64 x.arity, .bool x.pred] 59 (0, 0))

/-- make of a map with a hint of its size. -/
theorem run_makeMap_hint (k : Nat) (w : World) : (Instr.makeMap 72 (some (.int .i64 (k : Int)))).run Tryd.prog w = .ok (.map (some w.heap.size)) (w.alloc (.map #[] 0)) := by
  simp [Instr.makeMap, run_underlying Tryd.underlying72, go_sem]
theorem blk3_own {β : Type} (B : Nat) (Bx : Nat) (x : Sm) : OwnFrom (β := β) B (fun _ W => Blk3 W Bx x) := fun s W W' row hs hg hr => by
  unfold Blk3 at hs ⊢
  refine (hg.block Bx (Array.getElem?_eq_some_iff.1 hs).1 (fun e => ?_)).trans hs
  obtain ⟨_, o, ho, hc⟩ := hr _ e.symm
  rw [hs] at ho
  injection ho with ho
  subst ho
  simp [Obj.isCells] at hc
theorem smap_own (B b : Nat) (hb : b < B) : OwnFrom B (fun (pre : List IxSm) W => SMap W b pre.length (backF pre)) := fun s W W' row hs hg hr =>
  hs.kept (hg.block b hs.lt (fun e => by have := (hr _ e.symm).1; omega))

theorem Blk3.c1 {W : World} {B : Nat} {x : Sm} (h : Blk3 W B x) : W.cell? ⟨B, 0, none⟩ = some (.string x.name) := by simp [World.cell?, show W.heap[B]? = _ from h]
theorem Blk3.c2 {W : World} {B : Nat} {x : Sm} (h : Blk3 W B x) : W.cell? ⟨B, 1, none⟩ = some (.int .i64 x.arity) := by simp [World.cell?, show W.heap[B]? = _ from h]
theorem Blk3.c3 {W : World} {B : Nat} {x : Sm} (h : Blk3 W B x) : W.cell? ⟨B, 2, none⟩ = some (.bool x.pred) := by simp [World.cell?, show W.heap[B]? = _ from h]
theorem cell_lt {W : World} {p : Addr} {v : Value} (h : W.cell? p = some v) : p.block < W.heap.size := by
  unfold World.cell? at h
  rcases Nat.lt_or_ge p.block W.heap.size with h1 | h1
  · exact h1
  · rw [Array.getElem?_eq_none h1] at h; cases h
theorem ck_alloc (W : World) (o : Obj) : CK W (W.alloc o) := fun p _ h => (World.cell?_of_block (Below.heap_alloc W o p.block (cell_lt h))).trans h
theorem ck_map {W w1 : World} {b n : Nat} {f : Sm → Option Int} (h : SMap W b n f) (hg : W.grownBy w1 (some b)) : CK W w1 := fun p v hp => by
  refine (World.cell?_of_block (hg.block p.block (cell_lt hp) (fun e => ?_))).trans hp
  injection e with e
  obtain ⟨D, ⟨es, ck, hb, _⟩, _⟩ := h
  unfold World.cell? at hp
  rw [e, hb] at hp
  cases hp

set_option maxRecDepth 100000 in
set_option maxHeartbeats 2000000 in
theorem numbers_in (F : Fence) (n : Nat) (h23 : F.fn 40) (h34 : F.fn 45) (h40 : F.fn 52) (hro : F.round = none) (hn : 3 ≤ n) (A : Option Addr) (c : Nat) (L : List Sm) (hL : L.length * 32 ≤ 140737488351232) (w : World) (hS : Syms w w.heap.size A L.length L) :
    CallsIn F n Tryd.prog 40 #[.slice A L.length c] w fun e W' => e = .returned (.map (some w.heap.size)) ∧ SMap W' w.heap.size L.length (firstF L) ∧ Below w.heap.size w W' := by
  have h1 : 1 ≤ n := by omega
  have hmm := run_makeMap_hint
  obtain ⟨zs, hz⟩ := backs_of L hS.ok (by omega)
  refine callsIn_of_wp_marks Tryd.func40 rfl h23 ?_ hro
  simp only [Tryd.ntmps40, List.size_toArray, List.length_cons, List.length_nil, Nat.reduceAdd, Nat.reduceSub, Array.replicate_succ, Array.replicate_zero, List.push_toArray, List.append_toArray, List.nil_append, List.cons_append]
  gi_wp2_with (gi_at_call 45; refine (back_in F (n - 1) h34 hro _ _ _ _).mono ?_; rintro e w' ⟨rfl, rfl⟩)
  have hm0 := SMap.made w
  have bM := (Boxed.new (w.alloc (.map #[] 0)) 72 (.map (some w.heap.size))).alloc (.cells #[.slice A L.length c] 46)
  have bS := Boxed.new ((w.alloc (.map #[] 0)).alloc (.cells #[.map (some w.heap.size)] 72)) 46 (.slice A L.length c)
  simp only [World.size_alloc] at bM bS
  have hB0 : Below w.heap.size w (((w.alloc (.map #[] 0)).alloc (.cells #[.map (some w.heap.size)] 72)).alloc (.cells #[.slice A L.length c] 46)) := (((Below.refl _ w).alloc (Nat.le_refl _) _).alloc (by simp) _).alloc (by simp; omega) _
  have hsz : (((w.alloc (.map #[] 0)).alloc (.cells #[.map (some w.heap.size)] 72)).alloc (.cells #[.slice A L.length c] 46)).heap.size = w.heap.size + 3 := by simp
  have hm1 : SMap (((w.alloc (.map #[] 0)).alloc (.cells #[.map (some w.heap.size)] 72)).alloc (.cells #[.slice A L.length c] 46)) w.heap.size 0 (fun _ => none) :=
    (hm0.kept (Below.heap_alloc _ _ _ (by simp))).kept (Below.heap_alloc _ _ _ (by simp; omega))
  obtain ⟨W0, hW0⟩ : ∃ W0, ((w.alloc (.map #[] 0)).alloc (.cells #[.map (some w.heap.size)] 72)).alloc (.cells #[.slice A L.length c] 46) = W0 := ⟨_, rfl⟩
  rw [hW0] at bM bS hB0 hsz hm1 ⊢
  clear hW0 hm0
  refine wpIn_rangeFunc_ownH hro h1 (gf := 52) (lb := #[.pointer (some ⟨w.heap.size + 1 + 1, 0, none⟩)]) rfl h40 (enters_of Tryd.func52 (by kernel_rfl) rfl)
    (back_stops F (n - 1) h40 hro (by omega) (w.heap.size + 1 + 1) A c w.heap.size L hL zs hz W0 (by omega) (by omega) bS.cell (hS.below hB0)) CK.trans (fun W l o o' h1 h2 h3 h4 => ck_put (w := W0) W l o o' h1 h2 h3 h4) (Below.refl _ _) (fun _ => rfl)
    (fun pre W => (Boxed W (w.heap.size + 1) 72 (.map (some w.heap.size)) ∧ SMap W w.heap.size pre.length (backF pre)) ∧ Below w.heap.size w W)
    (fun _ _ _ => False)
    (OwnFrom.and (OwnFrom.and ((boxed_own (w.heap.size + 1) 72 (fun _ => .map (some w.heap.size))).from _) (smap_own _ _ (by omega))) (ownFrom_below (Nat.le_refl _) (by omega)))
    (fun _ _ _ _ _ hs _ _ => hs)
    ⟨⟨bM, hm1⟩, hB0⟩
    (fun x a' W => ∃ Bx, Blk3 W Bx x.1.2 ∧ a' = { tmps := #[.slice A L.length c, undef, .map none, .pointer (some ⟨w.heap.size + 1, 0, none⟩), .int .i64 (x.1.1 : Int), .pointer (some ⟨Bx, 0, none⟩), .slice A L.length c, .int .i64 (L.length : Int), .map (some w.heap.size), .slice A L.length c, .func (.func 52) #[] #[.pointer (some ⟨w.heap.size + 1 + 1, 0, none⟩)], .int .i64 (x.1.1 : Int), .agg #[.string x.1.2.name, .int .i64 x.1.2.arity, .bool x.1.2.pred], undef, undef, undef, undef], defers := [] }) ?hAx ?assign ?body ?done ?stop
  case hAx =>
    rintro x a' s W W' row ⟨Bx, hk, rfl⟩ hg hr
    exact ⟨Bx, blk3_own (β := Unit) _ Bx x.1.2 () W W' row hk hg hr, rfl⟩
  case assign =>
    rintro l pre x W K ⟨⟨hbox, hmap⟩, hB⟩ hK
    simp only [ixV]
    gi_wp2
    exact hK _ _ ((KeepsOthers.alloc _ _).from _) (ck_alloc W _) ⟨⟨hbox.alloc _, hmap.kept (Below.heap_alloc _ _ _ hmap.lt)⟩, hB.alloc hB.size _⟩ ⟨W.heap.size, World.alloc_heap_new W _, rfl⟩
  case body =>
    rintro l pre x a' W hl _ ⟨⟨hbox, hmap⟩, hB⟩ ⟨Bx, hk, rfl⟩ hlt
    have hc := hbox.cell
    have k1 := hk.c1
    have k2 := hk.c2
    have k3 := hk.c3
    have hm' : pre.length < maxLen := by unfold maxLen; have := hz.len; omega
    have Hm := Lib.hid hm'
    clear hm'
    gi_wp2_with (gi_at_mapUpdate; refine wpListIn_put rfl _ _ _ rfl w.heap.size pre.length (backF pre) rfl hmap Hm.out x.1.2 x.2.1 (x.1.1 : Int) (WalkArith.wf_i64 ⟨by omega, by have := x.2.2; omega⟩) rfl rfl ?_; intro w1 hmap1 hgrow1)
    exact ⟨KeepsFrom.of_grownBy hgrow1 (fun j e => by cases e; omega), ck_map hmap hgrow1, ⟨hbox.kept hgrow1 (fun e => by injection e with e; omega), by rw [backF_snoc, List.length_append]; exact hmap1⟩,
      hB.grown hgrow1 hB.size (fun k e => by cases e; exact Nat.le_refl _)⟩
  case done =>
    rintro D ys W hD rfl ⟨⟨hbox, hmap⟩, hB⟩ hK
    have hc := hbox.cell
    gi_wp2
    refine ⟨by simp, .inl ⟨_, _, rfl, run_takeDeferred hK, ?_⟩⟩
    refine ⟨_, results_tmp rfl _ _ _, rfl, ?_, hB.trans (belowK_b (w := w) (Nat.le_refl _) W D _ _ (by omega) hK rfl rfl)⟩
    rw [backF_all hz, hz.len] at hmap
    exact hmap.kept ((grownBy_putObj' W D _).block _ hmap.lt (fun e => by injection e with e; omega))
  case stop =>
    rintro D c pre W _ _ h _
    exact h.elim

theorem numbers_any (A : Option Addr) (n c : Nat) (l : List Sm) (hn : n * 32 ≤ 140737488351232) (w : World) (h : Syms w w.heap.size A n l) :
    Calls Tryd.prog 40 #[.slice A n c] w fun e W' => e = .returned (.map (some w.heap.size)) ∧ SMap W' w.heap.size n (firstF l) ∧ Below w.heap.size w W' := by
  obtain rfl := h.len
  exact (callsIn_wide (n := 3)).1 (numbers_in Fence.wide 3 trivial trivial trivial rfl (by omega) A c l hn w h)
end Go.Proofs.YtimgomoafeaoiaaDoor
