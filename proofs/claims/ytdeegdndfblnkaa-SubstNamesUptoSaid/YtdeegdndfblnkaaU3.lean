/- rename: whatever function tells the numbers, and whatever state it keeps. -/
import Derived.Test.YtdeegdndfblnkaaUG
import Derived.Test.YtdeegdndfblnkaaR3
import Derived.Test.YtdeegdndfblnkaaF1
import Derived.RangeFuncNested
namespace Go.Proofs.Ytdeegdndfblnkaa
open Go.RowKit Go.Shelf
set_option maxRecDepth 100000

/-- What is asked of the function that tells the numbers. -/
structure NumC {σ : Type} (nx : σ → Int → σ × Int) (kn : FuncId) (nc : Array Value) (C D N : Nat → Prop) (I : σ → World → Prop) (B0 : Nat) : Prop where
  ent : ∀ (args : Array Value) (w : World), (callFunc kn args).run Try.prog w = .ok (.enter kn args) w
  call : ∀ (s : σ) (v : Int) (W : World), B0 ≤ W.heap.size → I s W → 0 ≤ v → v ≤ 9223372036854775807 → Calls Try.prog kn (#[.int .i64 v] ++ nc) W fun e W' => e = .returned (.int .i64 (nx s v).2) ∧ I64 (nx s v).2 ∧ I (nx s v).1 W' ∧ KeepsC C W W'
  stay : ∀ s W W', I s W → Keeps D W W' → I s W'
  cb : ∀ g, C g → g < B0
  db : ∀ g, D g → g < B0
  nb : ∀ g, N g → g < B0
  nc : ∀ g, N g → ¬ C g

/-- The term renamed, in new memory. -/
def RenPost {σ : Type} (C : Nat → Prop) (I : σ → World → Prop) (r : σ × Tm) (w : World) (e : Ending) (w' : World) : Prop :=
  ∃ A' c', e = .returned (.agg #[.int .i64 r.2.fn, .slice A' r.2.args.length c']) ∧ I64 r.2.fn ∧ OwnT w' w.heap.size w'.heap.size A' r.2.args ∧ I r.1 w' ∧ KeepsC C w w'
def RenAt {σ : Type} (nx : σ → Int → σ × Int) (kn : FuncId) (nc : Array Value) (C N : Nat → Prop) (I : σ → World → Prop) (B0 : Nat) (t : Tm) : Prop :=
  t.size ≤ 4398046511104 → ∀ (s : σ) (A : Option Addr) (c : Nat) (w : World), B0 ≤ w.heap.size → I s w → I64 t.fn → ArgsN w N A t.args →
    Calls Try.prog 63 #[.agg #[.int .i64 t.fn, .slice A t.args.length c], .func (.func kn) #[] nc] w (RenPost C I (renT nx s t) w)

section
variable {σ : Type} {nx : σ → Int → σ × Int} {kn : FuncId} {nc : Array Value} {C D N : Nat → Prop} {I : σ → World → Prop} {B0 : Nat}

set_option maxHeartbeats 1000000 in
theorem rename1_any (hN : NumC nx kn nc C D N I B0) (t : Tm) (hsz : t.size ≤ 4398046511104) (hrec : RenAt nx kn nc C N I B0 t) (s : σ) (A : Option Addr) (c bx : Nat) (W : World) (hB0 : B0 ≤ W.heap.size) (hb : Boxed W bx 94 (.func (.func kn) #[] nc)) (hs : I s W) (hf : I64 t.fn) (hA : ArgsN W N A t.args) :
    Calls Try.prog 102 #[.agg #[.int .i64 t.fn, .slice A t.args.length c], .pointer (some ⟨bx, 0, none⟩)] W (RenPost C I (renT nx s t) W) := by
  obtain ⟨q0, q1⟩ := heap2 W (.cells #[.int .i64 t.fn, .slice A t.args.length c] 31) (.cells #[.int .i64 0, .slice none 0 0] 31)
  obtain ⟨W2, hW2⟩ : ∃ W2, ((W.alloc (.cells #[.int .i64 t.fn, .slice A t.args.length c] 31)).alloc (.cells #[.int .i64 0, .slice none 0 0] 31)) = W2 := ⟨_, rfl⟩
  have hB : Below W.heap.size W W2 := by rw [← hW2]; exact ((Below.refl _ _).alloc (Nat.le_refl _) _).alloc (by simp) _
  rw [hW2] at q0 q1
  have hWs : W.heap.size + 1 < W2.heap.size := (Array.getElem?_eq_some_iff.1 q1).1
  have hcb := Boxed.cell (show Boxed W2 bx _ _ from (hB.block _ hb.lt).trans hb)
  have hrec' := Lib.hid (hrec hsz s A c W2 (by omega) (hN.stay s W W2 hs ((Keeps.of_below hB).mono fun g e => by have := hN.db g e; show g < W.heap.size; omega)) hf (hA.keep fun g e => hB.block g (by have := hN.nb g e; omega)))
  have HW := Lib.hid hW2
  have HN := Lib.hid hN
  obtain ⟨a0, a1, _, _⟩ := cells_two q0
  clear hW2 hA hs hrec hN
  go_enter Try.func102, Try.ntmps102
  go_upto_region 1 with fail
  rw [HW.out]
  go_wp2_with (first
    | (go_at_call 63; refine hrec'.out.mono ?_; go_must (rintro e w3 ⟨A3, c3, rfl, hi3, hO3, hI3, hk3⟩; have y3 := (hk3.block hWs (fun e => by have := HN.out.cb _ e; omega)).trans q1; obtain ⟨b0, b1, g0, g1⟩ := cells_two y3; have hO3 := Lib.hid hO3; have hI3 := Lib.hid hI3))
    | fail)
  obtain ⟨z0, z1⟩ := set2_two (u := .int .i64 (renT nx s t).2.fn) (v := .slice A3 (renT nx s t).2.args.length c3) y3
  have p0 := (cells_two z0).1
  have p1 := (cells_two z1).2.1
  have hoth : ∀ g, g ≠ W.heap.size + 1 → ((w3.setCell ⟨W.heap.size + 1, 0, none⟩ (.int .i64 (renT nx s t).2.fn)).setCell ⟨W.heap.size + 1, 1, none⟩ (.slice A3 (renT nx s t).2.args.length c3)).heap[g]? = w3.heap[g]? := fun g e => (heap_setCell_other _ _ _ _ e).trans (heap_setCell_other _ _ _ _ e)
  refine bodyPost_ret (v := .agg #[.int .i64 (renT nx s t).2.fn, .slice A3 (renT nx s t).2.args.length c3]) (by simp [results, Try.results102, go_sem, p0, p1]) rfl ⟨A3, c3, rfl, hi3, ?_, ?_, ?_⟩
  · exact OwnT.wide (lo := W2.heap.size) (hi := w3.heap.size) (hO3.out.keep fun g h1 _ => hoth g (by omega)) (by omega) (by simp)
  · exact HN.out.stay _ _ _ hI3.out ⟨rfl, rfl, rfl, by simp, fun g e => hoth g (by have := HN.out.db g e; omega)⟩
  · exact (((KeepsC.of_below hB).trans hk3).set (by show _ ≤ W.heap.size + 1; omega) _).set (by show _ ≤ W.heap.size + 1; omega) _

theorem ren_fin (hN : NumC nx kn nc C D N I B0) {s s1 : σ} {f f' : Int} {xs : List Tm} {A3 : Option Addr} {c3 : Nat} {w W w1 w3 : World} (hB0 : B0 ≤ w.heap.size) (hB : Below w.heap.size w W) (hk1 : KeepsC C W w1) (hk3 : KeepsC C w1 w3)
    (hO3 : OwnT w3 w1.heap.size w3.heap.size A3 (renL nx s1 xs).2) (hI3 : I (renL nx s1 xs).1 w3) (hF : renF nx s f = (s1, f')) (h64 : I64 f') (hW : w.heap.size + 2 < W.heap.size) :
    RenPost C I (renT nx s (.node f xs)) w (.returned (.agg #[.int .i64 f', .slice A3 (renL nx s1 xs).2.length c3])) ((w3.setCell ⟨w.heap.size + 1 + 1, 0, none⟩ (.int .i64 f')).setCell ⟨w.heap.size + 1 + 1, 1, none⟩ (.slice A3 (renL nx s1 xs).2.length c3)) := by
  have hr : renT nx s (.node f xs) = ((renL nx s1 xs).1, .node f' (renL nx s1 xs).2) := by simp only [renT, hF]
  have hz1 := hk1.size
  have hoth : ∀ g, g ≠ w.heap.size + 1 + 1 → ((w3.setCell ⟨w.heap.size + 1 + 1, 0, none⟩ (.int .i64 f')).setCell ⟨w.heap.size + 1 + 1, 1, none⟩ (.slice A3 (renL nx s1 xs).2.length c3)).heap[g]? = w3.heap[g]? := fun g e => (heap_setCell_other _ _ _ _ e).trans (heap_setCell_other _ _ _ _ e)
  rw [hr]
  refine ⟨A3, c3, rfl, h64, ?_, ?_, ?_⟩
  · exact OwnT.wide (lo := w1.heap.size) (hi := w3.heap.size) (hO3.keep fun g h1 _ => hoth g (by omega)) (by omega) (by simp)
  · exact hN.stay _ _ _ hI3 ⟨rfl, rfl, rfl, by simp, fun g e => hoth g (by have := hN.db g e; omega)⟩
  · exact ((((KeepsC.of_below hB).trans hk1).trans hk3).set (by show _ ≤ w.heap.size + 1 + 1; omega) _).set (by show _ ≤ w.heap.size + 1 + 1; omega) _

set_option maxHeartbeats 2000000 in
theorem rename_any (hN : NumC nx kn nc C D N I B0) (t : Tm) : RenAt nx kn nc C N I B0 t := by
  refine Tm.ind (P := RenAt nx kn nc C N I B0) (fun f xs ih => ?_) t
  intro hsz s A c w hB0 hs hf hA
  simp only [Tm.fn, Tm.args] at hf hA ⊢
  have hlen : xs.length ≤ 4398046511104 := by have := sizes_len xs; simp only [Tm.size] at hsz; omega
  obtain ⟨q0, q1, q2⟩ := heap3 w (.cells #[.int .i64 f, .slice A xs.length c] 31) (.cells #[.func (.func kn) #[] nc] 94) (.cells #[.int .i64 0, .slice none 0 0] 31)
  obtain ⟨W, hW⟩ : ∃ W, (((w.alloc (.cells #[.int .i64 f, .slice A xs.length c] 31)).alloc (.cells #[.func (.func kn) #[] nc] 94)).alloc (.cells #[.int .i64 0, .slice none 0 0] 31)) = W := ⟨_, rfl⟩
  have hB : Below w.heap.size w W := by rw [← hW]; exact (((Below.refl _ _).alloc (Nat.le_refl _) _).alloc (by simp) _).alloc (by simp; omega) _
  rw [hW] at q0 q1 q2
  have hWs : w.heap.size + 2 < W.heap.size := (Array.getElem?_eq_some_iff.1 q2).1
  have HW := Lib.hid hW
  have HN := Lib.hid hN
  have HA := Lib.hid hA
  have hent := hN.ent
  have hsW := Lib.hid (hN.stay s w W hs ((Keeps.of_below hB).mono fun g e => by have := hN.db g e; show g < w.heap.size; omega))
  obtain ⟨a0, a1, _, _⟩ := cells_two q0
  have hcn := Boxed.cell (show Boxed W (w.heap.size + 1) _ _ from q1)
  clear hW hA hs hN
  -- the row of the arguments, behind whatever the number's telling has left
  have key : ∀ (s1 : σ) (W1 : World), KeepsC C W W1 → I s1 W1 → Calls Try.prog 98 #[.slice A xs.length c, .func (.func 102) #[] #[.pointer (some ⟨w.heap.size + 1, 0, none⟩)]] W1 fun e w' => ∃ A' c', e = .returned (.slice A' (renL nx s1 xs).2.length c') ∧ OwnT w' W1.heap.size w'.heap.size A' (renL nx s1 xs).2 ∧ I (renL nx s1 xs).1 w' ∧ KeepsC C W1 w' := by
    intro s1 W1 hk1 hs1
    have hz1 := hk1.size
    have hncx : ¬ C (w.heap.size + 1) := fun e => by have := HN.out.cb _ e; omega
    refine (eachT_any 102 (enters_of Try.func102 (by kernel_rfl) rfl) (.pointer (some ⟨w.heap.size + 1, 0, none⟩)) C (fun g => D g ∨ g = w.heap.size + 1) N (fun i W => I (renL nx s1 (xs.take i)).1 W ∧ Boxed W (w.heap.size + 1) 94 (.func (.func kn) #[] nc)) xs (renL nx s1 xs).2 A c W1 (by rw [renL_len]; exact hlen) (by rw [renL_len])
      ((HA.out.keep fun g e => hB.block g (by have := HN.out.nb g e; omega)).keep fun g e => hk1.block (by have := HN.out.nb g e; omega) (HN.out.nc g e)) (fun g e => by have := HN.out.nb g e; omega) HN.out.nc (fun g e => by have := HN.out.cb g e; omega) (fun g e => by rcases e with e | e; have := HN.out.db g e; omega; omega) (fun i Wa Wb h hk => ⟨HN.out.stay _ _ _ h.1 (hk.mono fun g e => .inl e), (hk.block _ (.inr rfl)).trans h.2⟩) ⟨by simpa [renL] using hs1, (hk1.block (by omega) hncx).trans q1⟩ ?_).mono ?_
    · intro i t y A' c' Wi ht hy hsz1 _ hIi hi64 hAi
      obtain ⟨g1, g2⟩ := renL_get nx s1 xs i t ht
      rw [hy] at g1
      injection g1 with g1
      have hmem := List.mem_of_getElem? ht
      have hts : t.size ≤ 4398046511104 := by have := size_mem hmem; simp only [Tm.size] at hsz; omega
      refine (rename1_any HN.out t hts (ih t hmem) _ A' c' (w.heap.size + 1) Wi (by omega) hIi.2 hIi.1 hi64 hAi).mono ?_
      rintro e w' ⟨A2, c2, rfl, h1, h2, h3, h4⟩
      rw [← g1] at h1 h2 ⊢
      exact ⟨A2, c2, rfl, h1, h2, ⟨by rw [g2]; exact h3, (h4.block hIi.2.lt hncx).trans hIi.2⟩, h4⟩
    · rintro e w' ⟨A', c', rfl, h1, h2, h3⟩
      exact ⟨A', c', rfl, h1, by have := h2.1; rwa [renL_len, List.take_length] at this, h3⟩
  have hkey := Lib.hid key
  clear key ih
  have hlo := hf.1
  have hhi := hf.2
  have hnC : ∀ g, w.heap.size ≤ g → ¬ C g := fun g h e => by have := HN.out.cb _ e; omega
  have hnD : ∀ g, D g → g < w.heap.size := fun g e => by have := HN.out.db _ e; omega
  by_cases hneg : f < 0
  · have hF : renF nx s f = ((nx s (-1 - f)).1, -1 - (nx s (-1 - f)).2) := by unfold renF; rw [if_pos hneg]
    have hnum := Lib.hid (HN.out.call s (-1 - f) W (by omega) hsW.out (by omega) (by omega))
    have HF := Lib.hid hF
    clear hF
    go_enter Try.func63, Try.ntmps63
    go_upto_region 1 with fail
    rw [HW.out]
    go_wp2_with (first
      | (go_at_call 98; refine (hkey.out _ w1 hk1 hI1.out).mono ?_; go_must (rintro e w3 ⟨A3, c3, rfl, hO3, hI3, hk3⟩; have y3 := (hk3.block (by have := hk1.size; omega) (hnC _ (by omega))).trans y1; obtain ⟨b0, b1, g0, g1⟩ := cells_two y3; have hO3 := Lib.hid hO3; have hI3 := Lib.hid hI3))
      | ((with_reducible refine hnum.out.mono ?_); go_must (rintro e w1 ⟨rfl, hn64, hI1, hk1⟩; have hn1 := hn64.1; have hn2 := hn64.2; have y1 := (hk1.block hWs (hnC _ (by omega))).trans q2; obtain ⟨c0, c1, _, _⟩ := cells_two ((hk1.block (by omega) (hnC _ (Nat.le_refl _))).trans q0); have hI1 := Lib.hid hI1))
      | fail)
    obtain ⟨z0, z1⟩ := set2_two (u := .int .i64 (-1 - (nx s (-1 - f)).2)) (v := .slice A3 (renL nx (nx s (-1 - f)).1 xs).2.length c3) y3
    have p0 := (cells_two z0).1
    have p1 := (cells_two z1).2.1
    exact bodyPost_ret (v := .agg #[.int .i64 (-1 - (nx s (-1 - f)).2), .slice A3 (renL nx (nx s (-1 - f)).1 xs).2.length c3]) (by simp [results, Try.results63, go_sem, p0, p1]) rfl (ren_fin HN.out hB0 hB hk1 hk3 hO3.out hI3.out HF.out ⟨by omega, by omega⟩ hWs)
  · have hF : renF nx s f = (s, f) := by unfold renF; rw [if_neg hneg]
    have HF := Lib.hid hF
    clear hF
    go_enter Try.func63, Try.ntmps63
    go_upto_region 1 with fail
    rw [HW.out]
    go_wp2_with (first
      | (go_at_call 98; refine (hkey.out s W (KeepsC.refl _ _) hsW.out).mono ?_; go_must (rintro e w3 ⟨A3, c3, rfl, hO3, hI3, hk3⟩; have y3 := (hk3.block hWs (hnC _ (by omega))).trans q2; obtain ⟨b0, b1, g0, g1⟩ := cells_two y3; have hO3 := Lib.hid hO3; have hI3 := Lib.hid hI3))
      | fail)
    obtain ⟨z0, z1⟩ := set2_two (u := .int .i64 f) (v := .slice A3 (renL nx s xs).2.length c3) y3
    have p0 := (cells_two z0).1
    have p1 := (cells_two z1).2.1
    exact bodyPost_ret (v := .agg #[.int .i64 f, .slice A3 (renL nx s xs).2.length c3]) (by simp [results, Try.results63, go_sem, p0, p1]) rfl (ren_fin HN.out hB0 hB (KeepsC.refl _ _) hk3 hO3.out hI3.out HF.out hf hWs)
end
end Go.Proofs.Ytdeegdndfblnkaa
