/- A range over a function whose iterator ranges over a function itself; Places' iterator. -/
import Derived.Test.YtimgomoafeaoiaaDoorB3
import Derived.Test.YtimgomoafeaoiaaDoorM3
namespace Go.Proofs.YtimgomoafeaoiaaDoor
open Go Go.RowKit Go.Shelf
attribute [local go_sem] Oper.semAt_some
set_option maxRecDepth 100000

section
variable {F : Fence} {n : Nat} {P : Program} {α : Type}

/-- An iterator's contract, where what is left behind a stop abides as well. -/
def SeqD (F : Fence) (n : Nat) (P : Program) (gf : Nat) (lb : Array Value) (encs : α → Array Value) (Fx : α → World → Prop) (N : Nat → Prop) (S Sp : List α → Prop) (w : World) : Prop :=
  ∀ (l : Nat) (C : World → Nat → Prop) (J Jx : List α → World → Prop) (W : World), Below w.heap.size w W → FrameC C J → BoundC C J → FrameC C Jx →
    (∀ m pre x W1, J pre W1 → Sp (pre ++ [x]) → Fx x W1 → YieldAt F m P l (encs x) W1 fun e W' =>
      (e = .returned (.bool true) ∧ J (pre ++ [x]) W' ∧ Stp N C W1 W') ∨ (e = .returned (.bool false) ∧ Jx (pre ++ [x]) W' ∧ Stp N C W1 W')) →
    J [] W →
    CallsIn F n P gf (#[.func (.yield l) #[] #[]] ++ lb) W fun e W' => (∃ v, e = .returned v) ∧ ((∃ xs, S xs ∧ J xs W') ∨ (∃ pre, Sp pre ∧ Jx pre W'))

theorem range_lawD {g : Operand} {ps : Array Tmp} {assign body : Code} {Q : Exit → Act → World → Prop} {a : Act} {w : World}
    (hro : F.round = none) (hd : F.depth = none) {gf : Nat} {lb : Array Value} (hg : a.eval g = .func (.func gf) #[] lb) (hFg : F.fn gf) (eg : ∀ args w, (callFunc gf args).run P w = .ok (.enter gf args) w)
    {encs : α → Array Value} {Fx : α → World → Prop} {N : Nat → Prop} {S Sp : List α → Prop} {w0 : World} (hseq : ∀ m, SeqD F m P gf lb encs Fx N S Sp w0) (hb0 : Below w0.heap.size w0 w) (hps : ∀ x, (encs x).size = ps.size) (hN : ∀ g, N g → g < w.heap.size)
    (C : World → Nat → Prop) (I : List α → World → Prop) (Ix : Code → List α → World → Prop) (hI : FrameC C I) (hbd : BoundC C I) (hIx : ∀ c, FrameC C (Ix c))
    (h0 : I [] w) (Ax : List α → α → Act → World → Prop)
    (hAx : ∀ pre x a' W l r o, Ax pre x a' W → w.heap.size ≤ l → W.heap[l]? = some (.loop r) → ¬ C W l → (∀ g, C (W.putObj l o) g → C W g) ∧ Ax pre x a' (W.putObj l o))
    (hassign : ∀ (l m : Nat) (pre : List α) (x : α) (W : World) (K : Act → World → Prop), I pre W → Sp (pre ++ [x]) → Fx x W → (∀ a' W', Stp N C W W' → Ax pre x a' W' → K a' W') →
      assign.wpIn (F.inRound l) m P (Exit.then K (fun _ _ _ => False)) { tmps := (ps.zip (encs x)).foldl (fun t (p, v) => t.setIfInBounds p v) a.tmps, defers := [] } W)
    (hbody : ∀ (l m : Nat) (pre : List α) (x : α) (a' : Act) (W : World), Sp (pre ++ [x]) → Ax pre x a' W → body.wpIn (F.inRound l) m P (bodyC N C I Ix (pre ++ [x]) W) a' W)
    (hdone : ∀ (D : Nat) (xs : List α) (W : World), w.heap.size ≤ D → S xs → I xs W → ¬ C W D → W.heap[D]? = some (.deferred (some [])) → Q .normal { a with defers := { target := .collected D, args := #[] } :: a.defers } W)
    (hstop : ∀ (D : Nat) (c : Code) (pre : List α) (W : World), w.heap.size ≤ D → Sp pre → Ix c pre W → ¬ C W D → W.heap[D]? = some (.deferred (some [])) → c.wpIn F n P Q { a with defers := { target := .collected D, args := #[] } :: a.defers } W) :
    (Code.rangeFunc g ps assign body).wpIn F n P Q a w := by
  refine wpIn_rangeFunc fun fn hfn => ?_
  rw [hro]
  have hdd : ∀ k : Nat, F.depth.isSome = true → 1 ≤ k := fun k h => by rw [hd] at h; cases h
  -- the two blocks that the statement lays: for the rounds' deferred calls (d); the loop's record (l)
  obtain ⟨d, hd0⟩ : ∃ d, d = w.heap.size := ⟨_, rfl⟩
  obtain ⟨rec, hrec⟩ : ∃ rec : LoopState → Option Code → Loop, rec = fun st pe => { state := st, pending := pe, fn, tmps := a.tmps, params := ps, assign, body, defers := w.heap.size } := ⟨_, rfl⟩
  obtain ⟨W1, hW1⟩ : ∃ W1, (w.alloc (.deferred (some []))).alloc (.loop (rec .ready none)) = W1 := ⟨_, rfl⟩
  have hl1 : W1.heap[d + 1]? = some (.loop (rec .ready none)) := by
    rw [← hW1, hd0, show w.heap.size + 1 = (w.alloc (.deferred (some []))).heap.size by simp]; exact World.alloc_heap_new _ _
  have hk1 : W1.heap[d]? = some (.deferred (some [])) := by rw [← hW1, hd0]; exact (Below.heap_alloc _ _ _ (by simp)).trans (World.alloc_heap_new w _)
  have hBw : Below w.heap.size w W1 := by rw [← hW1]; exact ((Below.refl _ w).alloc (Nat.le_refl _) _).alloc (by simp) _
  have hIw := hI [] w W1 h0 ((Keeps.of_below hBw).mono fun g e => hbd [] w h0 g e)
  have hbw : ∀ g, C W1 g → g < w.heap.size := fun g e => hbd [] w h0 g (hIw.2 g e)
  have hNd : ∀ g, N g → g < d := fun g e => by rw [hd0]; exact hN g e
  -- what the rounds speak of, with the two blocks
  let CJ : World → Nat → Prop := fun W g => C W g ∨ g = d + 1 ∨ g = d
  let J : List α → World → Prop := fun pre W => I pre W ∧ (W.heap[d + 1]? = some (.loop (rec .ready none)) ∧ W.heap[d]? = some (.deferred (some []))) ∧ ¬ C W (d + 1) ∧ ¬ C W d
  let Jx : List α → World → Prop := fun pre W => ∃ c, Ix c pre W ∧ (W.heap[d + 1]? = some (.loop (rec .done (some c))) ∧ W.heap[d]? = some (.deferred (some []))) ∧ ¬ C W (d + 1) ∧ ¬ C W d
  have hJF : FrameC CJ J := by
    rintro s A B ⟨h1, ⟨h2, h3⟩, h4, h5⟩ hk
    have hi := hI s A B h1 (hk.mono fun g e => .inl e)
    exact ⟨⟨hi.1, ⟨(hk.block _ (.inr (.inl rfl))).trans h2, (hk.block _ (.inr (.inr rfl))).trans h3⟩, fun e => h4 (hi.2 _ e), fun e => h5 (hi.2 _ e)⟩, fun g e => e.elim (fun e => .inl (hi.2 g e)) .inr⟩
  have hJxF : FrameC CJ Jx := by
    rintro s A B ⟨cd, h1, ⟨h2, h3⟩, h4, h5⟩ hk
    have hi := hIx cd s A B h1 (hk.mono fun g e => .inl e)
    exact ⟨⟨cd, hi.1, ⟨(hk.block _ (.inr (.inl rfl))).trans h2, (hk.block _ (.inr (.inr rfl))).trans h3⟩, fun e => h4 (hi.2 _ e), fun e => h5 (hi.2 _ e)⟩, fun g e => e.elim (fun e => .inl (hi.2 g e)) .inr⟩
  have hJB : BoundC CJ J := by
    rintro s A ⟨h1, ⟨h2, h3⟩, _, _⟩ g (e | rfl | rfl)
    · exact hbd s A h1 g e
    · exact (Array.getElem?_eq_some_iff.1 h2).1
    · exact (Array.getElem?_eq_some_iff.1 h3).1
  refine ⟨d + 1, [{ target := .collected d, args := #[] }], W1, { target := .fn (.func gf) lb, args := #[.func (.yield (d + 1)) #[] #[]] }, W1, gf, #[.func (.yield (d + 1)) #[] #[]] ++ lb, W1, ?_, ?_, ?_, ?_, fun h => hdd _ h, ?_⟩
  · rw [← hW1, hrec, hd0]; exact run_enterLoop_outer _ _ _ _ _
  · simp only [resolve, hg]
    simp [go_sem]
  · intro f' hf'; simp [Target.leads] at hf'; subst hf'; exact hFg
  · simp [invoke, go_sem, eg]
  · refine (hseq _ (d + 1) CJ J Jx W1 (hb0.trans (hBw.mono hb0.size)) hJF hJB hJxF ?_ ⟨hIw.1, ⟨hl1, hk1⟩, fun e => ?_, fun e => ?_⟩).mono ?_
    · -- one round
      rintro m pre x W ⟨hi, ⟨hl, hk⟩, hnl, hnd⟩ hsp hfx
      have hy := run_yield (P := P) (args := encs x) hl (by rw [hrec]; exact hps x)
      rw [hrec] at hy
      refine ⟨fn, _, assign, body, hy, roundIn_of_wpIn hfn (hassign _ m pre x W _ hi hsp hfx ?_)⟩
      clear hy
      intro a' Wa hst hax
      have hlW : d + 1 < W.heap.size := (Array.getElem?_eq_some_iff.1 hl).1
      have hla : Wa.heap[d + 1]? = some (.loop (rec .ready none)) := (hst.keeps.block _ (.inr ⟨hlW, hnl⟩)).trans hl
      have hka : Wa.heap[d]? = some (.deferred (some [])) := (hst.keeps.block _ (.inr ⟨by omega, hnd⟩)).trans hk
      have hnla : ¬ C Wa (d + 1) := fun e => (hst.grows _ e).elim hnl (fun e => by omega)
      have hnda : ¬ C Wa d := fun e => (hst.grows _ e).elim hnd (fun e => by omega)
      have hla1 : d + 1 < Wa.heap.size := (Array.getElem?_eq_some_iff.1 hla).1
      refine ⟨_, run_beginRound hla (by rw [hrec]), ?_⟩
      obtain ⟨hgr, hax2⟩ := hAx pre x a' Wa (d + 1) _ (.loop { rec .ready none with state := .busy }) hax (by omega) hla hnla
      obtain ⟨Wb, hWb⟩ : ∃ Wb, Wa.putObj (d + 1) (.loop { rec .ready none with state := .busy }) = Wb := ⟨_, rfl⟩
      have hlb : Wb.heap[d + 1]? = some (.loop { rec .ready none with state := .busy }) := by rw [← hWb]; exact World.putObj_heap_same hla1
      have hkb : Wb.heap[d]? = some (.deferred (some [])) := by rw [← hWb]; exact (World.putObj_heap_other (by omega)).trans hka
      have hKab : Keeps (· ≠ d + 1) Wa Wb := by rw [← hWb]; exact Keeps.put _ _ _
      rw [hWb] at hgr hax2 ⊢
      have hnlb : ¬ C Wb (d + 1) := fun e => hnla (hgr _ e)
      have hndb : ¬ C Wb d := fun e => hnda (hgr _ e)
      refine wpIn_mono (hbody _ m pre x a' Wb hsp hax2) ?_
      have hszb : Wa.heap.size ≤ Wb.heap.size := hKab.size
      have fin : ∀ (jump : Option Code) (W3 : World), Stp N C Wb W3 →
          (Instr.endRound (d + 1) jump).run P W3 = .ok (.bool jump.isNone) (W3.putObj (d + 1) (.loop (rec (if jump.isNone then .ready else .done) jump))) ∧
          (W3.putObj (d + 1) (.loop (rec (if jump.isNone then .ready else .done) jump))).heap[d + 1]? = some (.loop (rec (if jump.isNone then .ready else .done) jump)) ∧
          (W3.putObj (d + 1) (.loop (rec (if jump.isNone then .ready else .done) jump))).heap[d]? = some (.deferred (some [])) ∧ ¬ C W3 (d + 1) ∧ ¬ C W3 d := fun jump W3 h3 => by
        have hl3 : W3.heap[d + 1]? = some (.loop { rec .ready none with state := .busy }) := (h3.keeps.block _ (.inr ⟨by omega, hnlb⟩)).trans hlb
        have hk3 : W3.heap[d]? = some (.deferred (some [])) := (h3.keeps.block _ (.inr ⟨by omega, hndb⟩)).trans hkb
        have := run_endRound (P := P) jump hl3
        rw [hrec] at this ⊢
        exact ⟨this, World.putObj_heap_same (Array.getElem?_eq_some_iff.1 hl3).1, (World.putObj_heap_other (by omega)).trans hk3, fun e => (h3.grows _ e).elim hnlb (fun e => by omega), fun e => (h3.grows _ e).elim hndb (fun e => by omega)⟩
      have stp4 : ∀ (o : Obj) (W3 : World), Stp N C Wb W3 → (∀ g, C (W3.putObj (d + 1) o) g → C W3 g) → Stp N CJ W (W3.putObj (d + 1) o) := fun o W3 h3 hg4 => by
        refine ⟨?_, ?_⟩
        · refine (hst.keeps.mono fun g hg => ?_).trans ((hKab.mono fun g hg => ?_).trans ((h3.keeps.mono fun g hg => ?_).trans ((Keeps.put W3 (d + 1) _).mono fun g hg => ?_)))
          · exact hg.elim .inl fun hg => .inr ⟨hg.1, fun e => hg.2 (.inl e)⟩
          · exact hg.elim (fun e => by have := hNd _ e; omega) fun hg e => hg.2 (.inr (.inl e))
          · exact hg.elim .inl fun hg => .inr ⟨by have := hst.keeps.size; omega, fun e => (hst.grows g (hgr g e)).elim (fun e => hg.2 (.inl e)) (fun e => by omega)⟩
          · exact hg.elim (fun e => by have := hNd _ e; omega) fun hg e => hg.2 (.inr (.inl e))
        · rintro g (e | e)
          · rcases h3.grows g (hg4 g e) with e | e
            · rcases hst.grows g (hgr g e) with e | e
              · exact .inl (.inl e)
              · exact .inr e
            · exact .inr (Nat.le_trans hst.keeps.size (Nat.le_trans hszb e))
          · exact .inl (.inr e)
      rintro e a3 W3 hp
      cases e with
      | normal =>
        obtain ⟨hi3, h3⟩ := hp
        obtain ⟨hr, hl4, hk4, hn4, hm4⟩ := fin none W3 h3
        obtain ⟨hi4, hg4⟩ := hI _ W3 _ hi3 ((Keeps.put W3 (d + 1) (.loop (rec (if (none : Option Code).isNone then .ready else .done) none))).mono fun g e he => hn4 (he ▸ e))
        exact ⟨_, _, hr, .inl ⟨rfl, ⟨hi4, ⟨hl4, hk4⟩, fun e => hn4 (hg4 _ e), fun e => hm4 (hg4 _ e)⟩, stp4 _ W3 h3 hg4⟩⟩
      | ret =>
        obtain ⟨hi3, h3⟩ := hp
        obtain ⟨hr, hl4, hk4, hn4, hm4⟩ := fin (some .ret) W3 h3
        have hK4 := (Keeps.put W3 (d + 1) (.loop (rec (if (some Code.ret).isNone then .ready else .done) (some .ret)))).mono (T := C W3) fun g e he => hn4 (he ▸ e)
        exact ⟨_, _, hr, .inr ⟨rfl, ⟨.ret, (hIx _ _ W3 _ hi3 hK4).1, ⟨hl4, hk4⟩, fun e => hn4 ((hIx _ _ W3 _ hi3 hK4).2 _ e), fun e => hm4 ((hIx _ _ W3 _ hi3 hK4).2 _ e)⟩, stp4 _ W3 h3 (hIx _ _ W3 _ hi3 hK4).2⟩⟩
      | exit id =>
        obtain ⟨hi3, h3⟩ := hp
        obtain ⟨hr, hl4, hk4, hn4, hm4⟩ := fin (some (.exit id)) W3 h3
        have hK4 := (Keeps.put W3 (d + 1) (.loop (rec (if (some (Code.exit id)).isNone then .ready else .done) (some (.exit id))))).mono (T := C W3) fun g e he => hn4 (he ▸ e)
        exact ⟨_, _, hr, .inr ⟨rfl, ⟨.exit id, (hIx _ _ W3 _ hi3 hK4).1, ⟨hl4, hk4⟩, fun e => hn4 ((hIx _ _ W3 _ hi3 hK4).2 _ e), fun e => hm4 ((hIx _ _ W3 _ hi3 hK4).2 _ e)⟩, stp4 _ W3 h3 (hIx _ _ W3 _ hi3 hK4).2⟩⟩
      | goto t =>
        obtain ⟨hi3, h3⟩ := hp
        obtain ⟨hr, hl4, hk4, hn4, hm4⟩ := fin (some (.goto t)) W3 h3
        have hK4 := (Keeps.put W3 (d + 1) (.loop (rec (if (some (Code.goto t)).isNone then .ready else .done) (some (.goto t))))).mono (T := C W3) fun g e he => hn4 (he ▸ e)
        exact ⟨_, _, hr, .inr ⟨rfl, ⟨.goto t, (hIx _ _ W3 _ hi3 hK4).1, ⟨hl4, hk4⟩, fun e => hn4 ((hIx _ _ W3 _ hi3 hK4).2 _ e), fun e => hm4 ((hIx _ _ W3 _ hi3 hK4).2 _ e)⟩, stp4 _ W3 h3 (hIx _ _ W3 _ hi3 hK4).2⟩⟩
      | panic ch => exact hp.elim
      | outgrown => exact hp.elim
    · have := hbw _ e; omega
    · have := hbw _ e; omega
    · -- behind the iterator
      rintro e W2 ⟨⟨v, rfl⟩, (⟨xs, hS, hi, ⟨hl, hk⟩, hnl, hnd⟩ | ⟨pre, hSp, c, hi, ⟨hl, hk⟩, hnl, hnd⟩)⟩
      · refine ⟨none, _, by have := run_endLoop (P := P) hl (by rw [hrec]; simp); rw [hrec] at this; exact this, hdone d xs _ (by omega) hS ?_ (fun e => hnd ((hI xs W2 _ hi ((Keeps.put W2 (d + 1) _).mono fun g e he => hnl (he ▸ e))).2 _ e)) ((World.putObj_heap_other (by omega)).trans hk)⟩
        exact (hI xs W2 _ hi ((Keeps.put W2 (d + 1) _).mono fun g e he => hnl (he ▸ e))).1
      · refine ⟨some c, _, by have := run_endLoop (P := P) hl (by rw [hrec]; simp); rw [hrec] at this; exact this, hstop d c pre _ (by omega) hSp ?_ (fun e => hnd ((hIx c pre W2 _ hi ((Keeps.put W2 (d + 1) _).mono fun g e he => hnl (he ▸ e))).2 _ e)) ((World.putObj_heap_other (by omega)).trans hk)⟩
        exact (hIx c pre W2 _ hi ((Keeps.put W2 (d + 1) _).mono fun g e he => hnl (he ▸ e))).1
theorem SeqC.toD {gf : Nat} {lb : Array Value} {encs : α → Array Value} {Fx : α → World → Prop} {N : Nat → Prop} {S Sp : List α → Prop} {w : World} (h : SeqC F n P gf lb encs Fx N S Sp w) : SeqD F n P gf lb encs Fx N S Sp w := by
  intro l C J Jx W hW hJ hB _ hY h0
  refine h l C J Jx W hW hJ hB (fun m pre x W1 h1 h2 h3 => ?_) h0
  obtain ⟨fn, tm, asg, bd, h4, h5⟩ := hY m pre x W1 h1 h2 h3
  exact ⟨fn, tm, asg, bd, h4, h5.mono fun e W' hh => hh.imp id fun hh => ⟨hh.1, hh.2.1⟩⟩
end

/-- A yield's contract, in a round of another range. -/
theorem round_round {P : Program} {l f : Nat} {tmps : Array Value} {assign body : Code} {w : World} {R : Ending → World → Prop} (l' m : Nat) {m' : Nat} (h : RoundIn Fence.wide m' P l f tmps assign body w R) : RoundIn (Fence.wide.inRound l') m P l f tmps assign body w R := by
  refine ⟨trivial, fun c cs hr => ?_⟩
  exact h.2 c cs (fun d hd => by cases hd)

/-- What stands at a place that a walk goes over. -/
theorem vis_sub (t : Tm) : ∀ p q u, (q, u) ∈ vis p t → ∃ r, q = p ++ r ∧ subT t r = some u := by
  refine Tm.ind (P := fun t => ∀ p q u, (q, u) ∈ vis p t → ∃ r, q = p ++ r ∧ subT t r = some u) (fun f xs ih p q u h => ?_) t
  have key : ∀ (ys zs : List Tm), xs = zs ++ ys → (q, u) ∈ visL p zs.length ys → ∃ r, q = p ++ r ∧ subT (.node f xs) r = some u := by
    intro ys
    induction ys with
    | nil => intro zs _ h; simp [visL] at h
    | cons y ys ihy =>
      intro zs hz h
      simp only [visL, List.mem_append] at h
      rcases h with h | h
      · have hy : y ∈ xs := by rw [hz]; simp
        obtain ⟨r, rfl, hr⟩ := ih y hy _ _ _ h
        refine ⟨(zs.length : Int) :: r, by simp, ?_⟩
        have hget : xs[zs.length]? = some y := by rw [hz]; simp
        have hlt := (List.getElem?_eq_some_iff.1 hget).1
        rw [sub_step (t := .node f xs) (i := (zs.length : Int)) (u := y) (by omega) (by show _ < ((xs.length : Nat) : Int); omega) (by simpa [Tm.args] using hget)]
        exact hr
      · exact ihy (zs ++ [y]) (by rw [hz]; simp) (by simpa using h)
  simp only [vis, List.mem_cons] at h
  rcases h with h | h
  · injection h with h1 h2
    exact ⟨[], by simp [h1], by simp [subT, h2]⟩
  · exact key xs [] rfl h
theorem key_sub {t : Tm} {pre : List Vis} {x : Vis} (h : (pre ++ [x]).map Vis.key <+: vis [] t) : subT t x.pos = some x.t ∧ x.pos.length + 1 ≤ t.depth ∧ x.t.size ≤ t.size := by
  have hm := pre_mem h
  obtain ⟨r, hr, hs⟩ := vis_sub t [] x.pos x.t hm
  rw [List.nil_append] at hr
  have hmax := maxP_mem hm
  rw [maxP_vis] at hmax
  subst hr
  refine ⟨hs, ?_, sub_size hs⟩
  simp only [Vis.key, List.length_nil] at hmax
  omega
/-- A row that is there stays, whatever is laid besides. -/
theorem args_up {w w' : World} {B B' : Nat} {A : Option Addr} {xs : List Tm} (h : Args w B A xs) (hk : ∀ b o v, w.cell? ⟨b, o, none⟩ = some v → w'.cell? ⟨b, o, none⟩ = some v) (hB : B ≤ B') : Args w' B' A xs := by
  induction h with
  | nil A => exact .nil A
  | row b off xs A' c' hb hlen hi h0 h1 _ ih => exact .row b off xs A' c' (by omega) hlen hi (fun i t e => hk _ _ _ (h0 i t e)) (fun i t e => hk _ _ _ (h1 i t e)) ih
theorem ints_up {w w' : World} {B B' : Nat} {A : Option Addr} {l : List Int} (h : Ints w B A l) (hk : ∀ b o v, w.cell? ⟨b, o, none⟩ = some v → w'.cell? ⟨b, o, none⟩ = some v) (hB : B ≤ B') : Ints w' B' A l :=
  ⟨h.len, h.i64, fun hn => by
    obtain ⟨b, off, hA, hlt, hc⟩ := h.ad hn
    exact ⟨b, off, hA, by omega, fun i x hi => hk _ _ _ (hc i x hi)⟩⟩
theorem cell_put {W : World} {l : Nat} {r : Loop} {o : Obj} (hl : W.heap[l]? = some (.loop r)) : ∀ b i v, W.cell? ⟨b, i, none⟩ = some v → (W.putObj l o).cell? ⟨b, i, none⟩ = some v := by
  intro b i v h
  have hne : b ≠ l := fun e => by
    subst e
    simp only [World.cell?, hl] at h
    cases h
  rw [cell_of_heap (World.putObj_heap_other hne)]
  exact h
/-- A round of Places' own range, ahead of its body. -/
structure PlI (W3 : World) (by' l : Nat) (C : World → Nat → Prop) (J : List Vis → World → Prop) (xs : List Vis) (Wx : World) : Prop where
  ys : ∃ ys : List Vis, ys.map Vis.key = xs.map Vis.key ∧ J ys Wx
  box : Boxed Wx by' 55 (.func (.yield l) #[] #[])
  nc : ¬ C Wx by'
  big : W3.heap.size ≤ Wx.heap.size
theorem pl_frame {W3 : World} {by' l : Nat} {C : World → Nat → Prop} {J : List Vis → World → Prop} (hJ : FrameC C J) : FrameC (fun W g => C W g ∨ g = by') (PlI W3 by' l C J) := by
  rintro s A B ⟨⟨ys, h1, h2⟩, h3, h4, h5⟩ hk
  have h6 := hJ ys A B h2 (hk.mono fun g e => .inl e)
  exact ⟨⟨⟨ys, h1, h6.1⟩, (hk.block _ (.inr rfl)).trans h3, fun e => h4 (h6.2 _ e), Nat.le_trans h5 hk.size⟩, fun g e => e.elim (fun e => .inl (h6.2 g e)) .inr⟩
theorem pl_bound {W3 : World} {by' l : Nat} {C : World → Nat → Prop} {J : List Vis → World → Prop} (hB : BoundC C J) : BoundC (fun W g => C W g ∨ g = by') (PlI W3 by' l C J) := by
  rintro s A ⟨⟨ys, h1, h2⟩, h3, h4, h5⟩ g (e | rfl)
  · exact hB ys A h2 g e
  · exact h3.lt
theorem pl_step {N : Nat → Prop} {C : World → Nat → Prop} {by' : Nat} {Wx w3 w4 : World} (hB : Below Wx.heap.size Wx w3) (hC : ∀ g, C w3 g → C Wx g) (hst : Stp N C w3 w4) (hN : ∀ g, N g → g < Wx.heap.size) : Stp N (fun W g => C W g ∨ g = by') Wx w4 := by
  refine ⟨((Keeps.of_below hB).mono fun g e => e.elim (hN g) (fun e => e.1)).trans (hst.keeps.mono fun g e => e.imp id fun e => ⟨Nat.lt_of_lt_of_le e.1 hB.size, fun h => e.2 (.inl (hC g h))⟩), fun g e => ?_⟩
  rcases e with e | e
  · rcases hst.grows g e with e | e
    · exact .inl (.inl (hC g e))
    · exact .inr (Nat.le_trans hB.size e)
  · exact .inl (.inr e)
/-- What Places hands over: laid since, apart from all that was. -/
structure VisFxL (lo : Nat) (x : Vis) (W : World) : Prop where
  fx : VisFx x W
  plo : ∀ b off, x.A = some ⟨b, off, none⟩ → lo ≤ b
  alo : ArgsN W (fun g => lo ≤ g ∧ g < W.heap.size) x.A' x.t.args
theorem argsN_up {w w' : World} {N M : Nat → Prop} {A : Option Addr} {xs : List Tm} (h : ArgsN w N A xs) (hk : ∀ b o v, w.cell? ⟨b, o, none⟩ = some v → w'.cell? ⟨b, o, none⟩ = some v) (hB : ∀ g, N g → M g) : ArgsN w' M A xs := by
  induction h with
  | nil A => exact .nil A
  | row b off xs A' c' hb hlen hi h0 h1 _ ih => exact .row b off xs A' c' (hB b hb) hlen hi (fun i t e => hk _ _ _ (h0 i t e)) (fun i t e => hk _ _ _ (h1 i t e)) ih
theorem VisFxL.put {lo : Nat} {x : Vis} {W : World} {l : Nat} {r : Loop} {o : Obj} (h : VisFxL lo x W) (hl : W.heap[l]? = some (.loop r)) : VisFxL lo x (W.putObj l o) :=
  ⟨⟨ints_up h.fx.pos (cell_put hl) (by simp), h.fx.i64, args_up h.fx.args (cell_put hl) (by simp)⟩, h.plo, argsN_up h.alo (cell_put hl) (by simp)⟩
theorem VisFxL.on {lo : Nat} {x : Vis} {W W' : World} (h : VisFxL lo x W) (hb : Below W.heap.size W W') : VisFxL lo x W' :=
  ⟨⟨h.fx.pos.on hb, h.fx.i64, h.fx.args.on hb⟩, h.plo, (h.alo.keep fun g e => hb.block g e.2).wide fun _ e => ⟨e.1, Nat.lt_of_lt_of_le e.2 hb.size⟩⟩
/-- A store below leaves it alone. -/
theorem VisFxL.set {lo : Nat} {x : Vis} {W : World} {p : Addr} {v : Value} (h : VisFxL lo x W) (hp : p.block < lo) : VisFxL lo x (W.setCell p v) := by
  have hk : ∀ g, lo ≤ g → (W.setCell p v).heap[g]? = W.heap[g]? := fun _ e => heap_setCell_other _ _ _ _ (by omega)
  have ha := h.alo.keep (w' := W.setCell p v) fun g e => hk g e.1
  refine ⟨⟨⟨h.fx.pos.len, h.fx.pos.i64, fun hn => ?_⟩, h.fx.i64, ha.args fun _ e => by simpa using e.2⟩, h.plo, ha.wide fun _ e => ⟨e.1, by simpa using e.2⟩⟩
  obtain ⟨b, off, e, hb, hc⟩ := h.fx.pos.ad hn
  exact ⟨b, off, e, by simpa using hb, fun i y hy => (cell_of_heap (hk b (h.plo b off e))).trans (hc i y hy)⟩
theorem yield_or {e : Ending} {X Y : Prop} (h : (e = .returned (.bool true) ∧ X) ∨ (e = .returned (.bool false) ∧ Y)) : ∃ b, e = .returned (.bool b) ∧ ((b = true ∧ X) ∨ (b = false ∧ Y)) := by
  rcases h with ⟨h, x⟩ | ⟨h, y⟩
  · exact ⟨true, h, .inl ⟨rfl, x⟩⟩
  · exact ⟨false, h, .inr ⟨rfl, y⟩⟩

set_option maxHeartbeats 2000000 in
theorem places1_seq (m : Nat) (B : Nat) (t : Tm) (A : Option Addr) (c : Nat) (N : Nat → Prop) (w0 : World)
    (hb : w0.heap[B]? = some (.cells #[.int .i64 t.fn, .slice A t.args.length c] 24)) (hf : I64 t.fn) (hA : ArgsN w0 N A t.args) (hN : ∀ g, N g → g < w0.heap.size) (hdp : t.depth ≤ 1099511627776) (hsz : t.size ≤ 4398046511104) :
    SeqD Fence.wide m Tryd.prog 25 #[.pointer (some ⟨B, 0, none⟩)] visEnc (VisFxL w0.heap.size) N (fun xs => xs.map Vis.key = vis [] t) (fun pre => pre.map Vis.key <+: vis [] t) w0 := by
  intro l C J Jx W hW hJ hB hJx hY h0
  have hm : Tryd.prog.follows .mixedOrders = true := by kernel_rfl
  have hBl : B < w0.heap.size := (Array.getElem?_eq_some_iff.1 hb).1
  have hbW : W.heap[B]? = some (.cells #[.int .i64 t.fn, .slice A t.args.length c] 24) := (hW.block B hBl).trans hb
  have hWs := hW.size
  have hAW : ArgsN W N A t.args := hA.keep fun g e => hW.block g (hN g e)
  refine callsIn_of_wp_marks Tryd.func25 rfl trivial ?_ rfl
  simp only [Tryd.ntmps25, List.size_toArray, List.length_cons, List.length_nil, Nat.reduceAdd, Nat.reduceSub, Array.replicate_succ, Array.replicate_zero, List.push_toArray, List.append_toArray, List.nil_append, List.cons_append]
  refine wpIn_wide.2 ?_
  obtain ⟨W2, hW2⟩ : ∃ W2, W.alloc (.cells #[.func (.yield l) #[] #[]] 55) = W2 := ⟨_, rfl⟩
  have hK2 : Keeps (· < W.heap.size) W W2 := by rw [← hW2]; exact Keeps.alloc _ _
  obtain ⟨b0, b1, _, _⟩ := cells_two ((hK2.block B (by show B < W.heap.size; omega)).trans hbW)
  have HW2 := Lib.hid hW2
  clear hW2
  go_upto_region 1 with fail
  rw [HW2.out]
  go_wp2_with (first
    | (go_at_call 26
       refine (walk_any t A c _).mono ?_
       rintro e w1 ⟨rfl, rfl⟩)
    | fail)
  have hz2 : W2.heap.size = W.heap.size + 1 := by rw [← HW2.out]; simp
  obtain ⟨W3, hW3⟩ : ∃ W3, W2.alloc (.cells #[.int .i64 t.fn, .slice A t.args.length c] 24) = W3 := ⟨_, rfl⟩
  have hK3 : Keeps (· < W.heap.size) W W3 := by rw [← hW3]; exact hK2.trans ((Keeps.alloc _ _).mono fun g e => by have e' : g < W.heap.size := e; show g < W2.heap.size; omega)
  have p3 : W3.heap[W2.heap.size]? = some (.cells #[.int .i64 t.fn, .slice A t.args.length c] 24) := by rw [← hW3]; exact heap_alloc_new _ _
  have y3 : Boxed W3 W.heap.size 55 (.func (.yield l) #[] #[]) := by
    have : W2.heap[W.heap.size]? = some (.cells #[.func (.yield l) #[] #[]] 55) := by rw [← HW2.out]; exact heap_alloc_new _ _
    rw [← hW3]
    exact (Below.heap_alloc _ _ _ (by omega)).trans this
  rw [hW3] at ⊢
  clear hW3 HW2 b0 b1
  have hJ3 := hJ [] W W3 h0 (hK3.mono fun g e => hB [] W h0 g e)
  have hnc3 : ¬ C W3 W.heap.size := fun e => Nat.lt_irrefl _ (hB [] W h0 _ (hJ3.2 _ e))
  have hNW : ∀ g, N g → g < W.heap.size := fun g e => Nat.lt_of_lt_of_le (hN g e) hWs
  have hs3 := hK3.size
  refine (wpIn_wide (n := m)).1 ?_
  refine range_lawD (F := Fence.wide) (n := m) (w0 := W3) rfl rfl (gf := 35) (lb := #[.pointer (some ⟨W2.heap.size, 0, none⟩)]) rfl trivial (enters_of Tryd.func35 (by kernel_rfl) rfl)
    (fun m => (walk1_seq Fence.wide rfl trivial trivial rfl m W2.heap.size t A c N W3 p3 hf (hAW.keep fun g e => hK3.block g (hNW g e)) (fun g e => Nat.lt_of_lt_of_le (hNW g e) hs3) hdp).toD)
    (Below.refl _ _) (fun _ => rfl) (fun g e => Nat.lt_of_lt_of_le (hNW g e) hs3)
    (fun Wx g => C Wx g ∨ g = W.heap.size) (PlI W3 W.heap.size l C J) (fun cd xs Wx => cd = .ret ∧ ∃ ys : List Vis, ys.map Vis.key = xs.map Vis.key ∧ Jx ys Wx)
    (pl_frame hJ) (pl_bound hB) ?hIx ⟨⟨[], rfl, hJ3.1⟩, y3, hnc3, Nat.le_refl _⟩
    (fun pre x a' Wx => PlI W3 W.heap.size l C J pre Wx ∧ VisFx x Wx ∧ ∃ Bx, Wx.heap[Bx]? = some (.cells #[.int .i64 x.t.fn, .slice x.A' x.t.args.length x.c'] 24) ∧ a' = { tmps := #[.func (.yield l) #[] #[], .pointer (some ⟨B, 0, none⟩), .pointer (some ⟨W.heap.size, 0, none⟩), .slice x.A x.pos.length x.c, .pointer (some ⟨Bx, 0, none⟩), .agg #[.int .i64 t.fn, .slice A t.args.length c], .func (.func 35) #[] #[.pointer (some ⟨W2.heap.size, 0, none⟩)], .slice x.A x.pos.length x.c, .agg #[.int .i64 x.t.fn, .slice x.A' x.t.args.length x.c'], undef, undef, undef, undef, undef, undef, undef], defers := [] }) ?hAx ?assign ?body ?done ?stop
  case hIx =>
    rintro cd s A' B' ⟨h1, ys, h2, h3⟩ hk
    have h4 := hJx ys A' B' h3 (hk.mono fun g e => .inl e)
    exact ⟨⟨h1, ys, h2, h4.1⟩, fun g e => e.elim (fun e => .inl (h4.2 g e)) .inr⟩
  case hAx =>
    rintro pre x a' Wx l' r o ⟨h1, h2, Bx, hbx, rfl⟩ hl hr hn
    have hK := Keeps.put Wx l' o
    obtain ⟨h5, h6⟩ := pl_frame hJ pre Wx (Wx.putObj l' o) h1 (hK.mono fun g e e' => hn (e' ▸ e))
    exact ⟨h6, h5, ⟨ints_up h2.pos (cell_put hr) (by simp), h2.i64, args_up h2.args (cell_put hr) (by simp)⟩, Bx, put_block hbx hr, rfl⟩
  case assign =>
    rintro l2 m2 pre x Wx K h1 _ hfx hK
    simp only [visEnc]
    gi_wp2
    have hKa := Keeps.alloc Wx (.cells #[.int .i64 x.t.fn, .slice x.A' x.t.args.length x.c'] 24)
    have hbd := pl_bound hB pre Wx h1
    obtain ⟨h5, h6⟩ := pl_frame hJ pre Wx _ h1 (hKa.mono fun g e => hbd g e)
    have hBa : Below Wx.heap.size Wx (Wx.alloc (.cells #[.int .i64 x.t.fn, .slice x.A' x.t.args.length x.c'] 24)) := (Below.refl _ _).alloc (Nat.le_refl _) _
    exact hK _ _ ⟨hKa.mono fun g e => e.elim (fun e => Nat.lt_of_lt_of_le (hNW g e) (Nat.le_trans hs3 h1.big)) (fun e => e.1), fun g e => .inl (h6 g e)⟩ ⟨h5, ⟨hfx.pos.on hBa, hfx.i64, hfx.args.on hBa⟩, Wx.heap.size, heap_alloc_new _ _, by simp⟩
  case body =>
    rintro l2 m2 pre x a' Wx hsp ⟨h1, h2, Bx, hbx, rfl⟩
    obtain ⟨ys, hky, hJy⟩ := h1.ys
    have hcy := Boxed.cell h1.box
    obtain ⟨c0, c1, _, _⟩ := cells_two hbx
    obtain ⟨_, hpl, hxs⟩ := key_sub hsp
    have hId : Hid (Ints Wx.drew Wx.drew.heap.size x.A x.pos) := h2.pos.on (bl_drewN (Below.refl _ _) 1)
    have hAd : Hid (Args Wx.drew Wx.drew.heap.size x.A' x.t.args) := h2.args.drewN 1
    have hx64 := h2.i64
    have hbyl := h1.box.lt
    have hW0x : w0.heap.size ≤ Wx.heap.size := Nat.le_trans hWs (Nat.le_trans hs3 h1.big)
    have hBxl : Bx < Wx.heap.size := (Array.getElem?_eq_some_iff.1 hbx).1
    gi_wp2
    gi_region_with_o (first
      | ((refine ⟨trivial, (fun h => by cases h), ?_⟩); gi_at_call 27; refine (calls_round l2 _ (posClone_any x.pos x.A x.c Wx.drew (by omega) hId.out)).mono ?_; go_must (rintro e w2 ⟨A5, c5, rfl, hI5, hb5, hlo5⟩; have hB5 : Below Wx.heap.size Wx w2 := ⟨hb5.os, hb5.tape, hb5.output, hb5.size, hb5.block⟩; have hcy2 := cell_on hB5 hbyl hcy; have c02 := cell_on hB5 hBxl c0; have c12 := cell_on hB5 hBxl c1; have HI5 := Lib.hid hI5; clear hI5))
      | ((refine ⟨trivial, (fun h => by cases h), ?_⟩); gi_at_call 22; refine (calls_round l2 _ (clone_any x.t (by omega) x.A' x.c' w2 hx64 (hAd.out.on hb5))).mono ?_; go_must (rintro e w3 ⟨A6, c6, rfl, hO6, hb6⟩; have hB6 := bl_step hB5 hb6; have hcy3 := cell_on hB6 hbyl hcy; have HO6 := Lib.hid hO6; clear hO6; have hJ6 := hJ ys Wx w3 hJy ((Keeps.of_below hB6).mono fun g e => hB ys Wx hJy g e); obtain ⟨fnq, tmq, asq, bdq, hyr, hR⟩ := hY 0 ys ⟨x.pos, x.t, A5, c5, A6, c6⟩ w3 hJ6.1 (by rw [List.map_append, hky]; simpa [Vis.key] using hsp) ⟨⟨HI5.out.on hb6, hx64, HO6.out.args (Nat.le_refl _)⟩, fun b off e => Nat.le_trans hW0x (hlo5 b off e), HO6.out.argsN.wide fun g e => ⟨Nat.le_trans (Nat.le_trans hW0x hB5.size) e.1, e.2⟩⟩; simp only [visEnc] at hyr; have HJ6 := Lib.hid hJ6; clear hJ6))
      | ((refine ⟨(fun h => by cases h), (round_round l2 _ hR).mono ?_⟩); go_must (rintro e w4 hor; obtain ⟨bq, rfl, horb⟩ := yield_or hor; clear hor))
      | ((refine ⟨trivial, (fun h => by cases h), (round_round l2 _ hR).mono ?_⟩); go_must (rintro e w4 hor; obtain ⟨bq, rfl, horb⟩ := yield_or hor; clear hor))
      | fail)
    all_goals
      have hkq : (ys ++ [(⟨x.pos, x.t, A5, c5, A6, c6⟩ : Vis)]).map Vis.key = (pre ++ [x]).map Vis.key := by rw [List.map_append, List.map_append, hky]; rfl
      rcases horb with ⟨rfl, hJ7, hst⟩ | ⟨rfl, hJx7, hst⟩
      · have hpl := pl_step (by' := W.heap.size) hB6 HJ6.out.2 hst (fun g e => Nat.lt_of_lt_of_le (hNW g e) (Nat.le_trans hs3 h1.big))
        have hb4 := (hst.keeps.block W.heap.size (.inr ⟨Nat.lt_of_lt_of_le hbyl hB6.size, fun e => h1.nc (HJ6.out.2 _ e)⟩)).trans ((hB6.block _ hbyl).trans h1.box)
        have hn4 : ¬ C w4 W.heap.size := fun e => (hst.grows _ e).elim (fun e => h1.nc (HJ6.out.2 _ e)) (fun e => by have := hB6.size; omega)
        have hbg := Nat.le_trans h1.big (Nat.le_trans hB6.size hst.keeps.size)
        gi_wp2
        exact ⟨⟨⟨_, hkq, hJ7⟩, hb4, hn4, hbg⟩, hpl⟩
      · have hpl := pl_step (by' := W.heap.size) hB6 HJ6.out.2 hst (fun g e => Nat.lt_of_lt_of_le (hNW g e) (Nat.le_trans hs3 h1.big))
        gi_wp2
        exact ⟨⟨rfl, _, hkq, hJx7⟩, hpl⟩
  case done =>
    rintro D xs Wd hD hS ⟨⟨ys, hky, hJy⟩, _, _, _⟩ hnD hK
    have hJd := (hJ ys Wd (Wd.putObj D (.deferred none)) hJy ((Keeps.put Wd D _).mono fun g e e' => hnD (.inl (e' ▸ e)))).1
    have hSy := Lib.hid (hky.trans hS)
    clear hS hky
    go_wp2
    refine ⟨by simp, .inl ⟨_, _, rfl, run_takeDeferred hK, ?_⟩⟩
    exact ⟨.tuple #[], by simp [results, Tryd.results25, go_sem], ⟨_, rfl⟩, .inl ⟨ys, hSy.out, hJd⟩⟩
  case stop =>
    rintro D cd pre Wd hD hpre ⟨rfl, ys, hky, hJy⟩ hnD hK
    have hJd := (hJx ys Wd (Wd.putObj D (.deferred none)) hJy ((Keeps.put Wd D _).mono fun g e e' => hnD (.inl (e' ▸ e)))).1
    have hSy := Lib.hid (show ys.map Vis.key <+: vis [] t by rw [hky]; exact hpre)
    clear hpre hky
    gi_wp2
    refine ⟨by simp, .inl ⟨_, _, rfl, run_takeDeferred hK, ?_⟩⟩
    exact ⟨.tuple #[], by simp [results, Tryd.results25, go_sem], ⟨_, rfl⟩, .inr ⟨ys, hSy.out, hJd⟩⟩
end Go.Proofs.YtimgomoafeaoiaaDoor
