/- Terms with their variables renamed, in plain words; a row of terms that is made member by member. each, at terms: a row of its own of what becomes of the members. -/
import Derived.Test.YtdeegdndfblnkaaR2
import Derived.Test.YtdeegdndfblnkaaT5
import Derived.OwnWalk
namespace Go.Proofs.Ytdeegdndfblnkaa
open Go.RowKit
set_option maxRecDepth 100000

section
variable {σ : Type} (nx : σ → Int → σ × Int)
/-- A symbol's number, or a variable's renamed: what is asked in turn keeps a state. -/
def renF (s : σ) (f : Int) : σ × Int := if f < 0 then ((nx s (-1 - f)).1, -1 - (nx s (-1 - f)).2) else (s, f)
mutual
def renT : σ → Tm → σ × Tm
  | s, .node f xs => ((renL (renF nx s f).1 xs).1, .node (renF nx s f).2 (renL (renF nx s f).1 xs).2)
def renL : σ → List Tm → σ × List Tm
  | s, [] => (s, [])
  | s, t :: ts => ((renL (renT s t).1 ts).1, (renT s t).2 :: (renL (renT s t).1 ts).2)
end
theorem renL_len : ∀ (s : σ) (xs : List Tm), (renL nx s xs).2.length = xs.length
  | _, [] => by simp [renL]
  | s, t :: ts => by simp [renL, renL_len]
theorem renL_get : ∀ (s : σ) (xs : List Tm) (i : Nat) (t : Tm), xs[i]? = some t → (renL nx s xs).2[i]? = some (renT nx (renL nx s (xs.take i)).1 t).2 ∧ (renL nx s (xs.take (i + 1))).1 = (renT nx (renL nx s (xs.take i)).1 t).1
  | _, [], i, t, h => by simp at h
  | s, x :: xs, 0, t, h => by
    simp at h
    subst h
    simp [renL]
  | s, x :: xs, i + 1, t, h => by
    have ih := renL_get (renT nx s x).1 xs i t (by simpa using h)
    simp only [List.take_succ_cons, renL, List.getElem?_cons_succ]
    exact ih
end

/-- All blocks that were there lie as they lay, but for C's. -/
def KeepsC (C : Nat → Prop) (w w' : World) : Prop := Keeps (fun g => g < w.heap.size ∧ ¬ C g) w w'
section
variable {C : Nat → Prop} {a b c : World}
theorem KeepsC.k (h : KeepsC C a b) : Keeps (fun g => g < a.heap.size ∧ ¬ C g) a b := h
theorem KeepsC.refl (C : Nat → Prop) (a : World) : KeepsC C a a := Keeps.refl _ _
theorem KeepsC.size (h : KeepsC C a b) : a.heap.size ≤ b.heap.size := Keeps.size h
theorem KeepsC.trans (h : KeepsC C a b) (k : KeepsC C b c) : KeepsC C a c := Keeps.trans h (Keeps.mono k fun _ e => ⟨Nat.lt_of_lt_of_le e.1 h.size, e.2⟩)
theorem KeepsC.of_below (h : Below a.heap.size a b) : KeepsC C a b := (Keeps.of_below h).mono fun _ e => e.1
theorem KeepsC.alloc (h : KeepsC C a b) (o : Obj) : KeepsC C a (b.alloc o) := h.trans (Keeps.alloc b o |>.mono fun _ e => e.1)
theorem KeepsC.set (h : KeepsC C a b) {p : Addr} (hp : a.heap.size ≤ p.block) (v : Value) : KeepsC C a (b.setCell p v) :=
  Keeps.trans h ((Keeps.set b p v).mono fun g e => by show g ≠ p.block; have := e.1; omega)
theorem KeepsC.block (h : KeepsC C a b) {g : Nat} (hg : g < a.heap.size) (hc : ¬ C g) : b.heap[g]? = a.heap[g]? := Keeps.block h g ⟨hg, hc⟩
theorem KeepsC.below (h : KeepsC C a b) {n : Nat} (hn : n ≤ a.heap.size) (hc : ∀ g, g < n → ¬ C g) : Below n a b := Keeps.below h fun g e => ⟨by omega, hc g e⟩
theorem KeepsC.none (h : KeepsC (fun _ => False) a b) : Below a.heap.size a b := h.below (Nat.le_refl _) fun _ _ e => e
theorem KeepsC.mono {D : Nat → Prop} (h : KeepsC C a b) (hd : ∀ g, C g → D g) : KeepsC D a b := Keeps.mono h fun _ e => ⟨e.1, fun k => e.2 (hd _ k)⟩
end

theorem RowK.onK {w w' : World} {xs : List Tm} {b cap k : Nat} {vs : List Value} {A' : Nat → Option Addr} {c' m : Nat → Nat} (h : RowK w b cap xs k vs A' c' m) (hbs : b < w.heap.size) (hs : w.heap.size ≤ w'.heap.size) (hk : ∀ g, b ≤ g → g < w.heap.size → w'.heap[g]? = w.heap[g]?) : RowK w' b cap xs k vs A' c' m :=
  ⟨ownsRow_keep h.row (fun g' e => by simp [Value.ownBlock] at e; exact e.symm) (hk b (Nat.le_refl _) hbs), h.m0, Nat.le_trans h.mke hs, h.mono, h.i64, h.v0, h.v1, fun i t hik e => (h.sub i t hik e).keep fun g h1 h2 => hk g (by have := mono_to h.mono (Nat.zero_le i) (by omega); have := h.m0; omega) (by have := mono_to h.mono (show i + 1 ≤ k by omega) (Nat.le_refl _); have := h.mke; omega)⟩
end Go.Proofs.Ytdeegdndfblnkaa

namespace Go.Proofs.Ytdeegdndfblnkaa
open Go.RowKit
set_option maxRecDepth 100000

theorem argsN_upK {w w' : World} {C N : Nat → Prop} {A : Option Addr} {xs : List Tm} (h : ArgsN w N A xs) (hk : KeepsC C w w') (hb : ∀ g, N g → g < w.heap.size) (hc : ∀ g, N g → ¬ C g) : ArgsN w' N A xs :=
  h.keep fun g e => hk.block (hb g e) (hc g e)

set_option maxHeartbeats 2000000 in
theorem eachT_any (k : FuncId) (hk : ∀ (args : Array Value) (w : World), (callFunc k args).run Try.prog w = .ok (.enter k args) w) (cv : Value) (C D N : Nat → Prop) (I : Nat → World → Prop) (xs ys : List Tm) (A : Option Addr) (c : Nat) (w : World) (hl : ys.length ≤ 4398046511104) (hxy : xs.length = ys.length)
    (hA : ArgsN w N A xs) (hNb : ∀ g, N g → g < w.heap.size) (hNC : ∀ g, N g → ¬ C g) (hCb : ∀ g, C g → g < w.heap.size) (hDb : ∀ g, D g → g < w.heap.size)
    (hI : ∀ i W W', I i W → Keeps D W W' → I i W') (h0 : I 0 w)
    (hcall : ∀ (i : Nat) (t y : Tm) (A' : Option Addr) (c' : Nat) (W : World), xs[i]? = some t → ys[i]? = some y → w.heap.size ≤ W.heap.size → KeepsC C w W → I i W → I64 t.fn → ArgsN W N A' t.args →
      Calls Try.prog k #[.agg #[.int .i64 t.fn, .slice A' t.args.length c'], cv] W fun e W' => ∃ A2 c2, e = .returned (.agg #[.int .i64 y.fn, .slice A2 y.args.length c2]) ∧ I64 y.fn ∧ OwnT W' W.heap.size W'.heap.size A2 y.args ∧ I (i + 1) W' ∧ KeepsC C W W') :
    Calls Try.prog 98 #[.slice A xs.length c, .func (.func k) #[] #[cv]] w fun e w' => ∃ A' c', e = .returned (.slice A' ys.length c') ∧ OwnT w' w.heap.size w'.heap.size A' ys ∧ I ys.length w' ∧ KeepsC C w w' := by
  obtain ⟨i0, hi, hz0, hz1, hz2⟩ := info_parts info_term
  rw [hxy]
  rcases Nat.eq_zero_or_pos ys.length with hy0 | hy0
  · obtain rfl : ys = [] := List.eq_nil_of_length_eq_zero hy0
    simp only [List.length_nil] at *
    clear hcall hI
    go_enter Try.func98, Try.ntmps98
    go_wp2
    go_ret
    exact ⟨none, 0, rfl, .nil _ _ _, h0, KeepsC.refl _ _⟩
  · have hne : ¬ ((ys.length : Int) = 0) := by omega
    have HA := Lib.hid hA
    have Hc := Lib.hid hcall
    have HI := Lib.hid hI
    have H0 := Lib.hid h0
    clear hA hcall hI h0
    go_enter Try.func98, Try.ntmps98
    go_wp2_with (first
      | (at_make; go_must (
         refine wpList_make_full _ rfl _ _ 29 rfl w.heap.size 31 i0 (.agg #[.int .i64 0, .slice none 0 0]) 2 Try.underlying29 hi hz0 hz1 .i64 .i64 _ _ ys.length rfl rfl rfl rfl (by rw [hz2]; omega) (by unfold maxLen; omega) (by simp) ?_
         intro w1 hown hgrow
         have hB1 := (Below.refl w.heap.size w).grown hgrow (Nat.le_refl _) (fun k e => by cases e)
         clear hgrow))
      | fail)
    have hbs1 : w.heap.size < w1.heap.size := by
      rcases hown.2 with ⟨h, _⟩ | ⟨g, cap, cur, h, _, hg, _⟩
      · cases h
      · injection h with h _ _; injection h with h; injection h with h _ _; subst h
        exact (Array.getElem?_eq_some_iff.1 hg).1
    have HR : Hid (∃ vs A' c' m, RowK w1 w.heap.size ys.length ys 0 vs A' c' m) := ⟨_, fun _ => none, fun _ => 0, fun _ => w.heap.size + 1, hown, Nat.le_refl _, hbs1, fun i h => by omega, fun i t h => by omega, fun i t h => by omega, fun i t h => by omega, fun i t h => by omega⟩
    have HI1 := Lib.hid (HI.out 0 w w1 H0.out ((Keeps.of_below hB1).mono fun g e => hDb g e))
    have hK1 : KeepsC C w w1 := KeepsC.of_below hB1
    clear hown hB1
    go_loopw [16] (fun i wr => ∃ j : Nat, j ≤ ys.length ∧ i = .int .i64 (j : Int) ∧ KeepsC C w wr ∧ w.heap.size < wr.heap.size ∧ Hid (I j wr) ∧ Hid (∃ vs A' c' m, RowK wr w.heap.size ys.length ys j vs A' c' m)) (fun i _ => ys.length - (intOf i).toNat)
    case atStart => exact ⟨0, Nat.zero_le _, rfl, hK1, hbs1, HI1, HR⟩
    case round =>
      obtain ⟨j, hj, rfl, hKr, hbs, HIj, H⟩ := hrel
      by_cases hlt : j < ys.length
      · obtain ⟨y, hy⟩ : ∃ y, ys[j]? = some y := ⟨_, List.getElem?_eq_getElem hlt⟩
        obtain ⟨t, ht⟩ : ∃ t, xs[j]? = some t := ⟨_, List.getElem?_eq_getElem (by omega)⟩
        obtain ⟨bb, off, A1, c1, rfl, ha⟩ := (argsN_upK HA.out hKr hNb hNC).get ht
        have e0 := ha.c0
        have e1 := ha.c1
        have hsub := ha.sub
        have hi64 := ha.hi
        obtain ⟨vs, A', c', m, hR⟩ := H.out
        have hvl : vs.length = ys.length * 2 := hR.row.1
        have hbx := (Below.refl wr.heap.size wr).alloc (Nat.le_refl _) (.cells #[.int .i64 t.fn, .slice A1 t.args.length c1] 31)
        have hcall := Lib.hid (Hc.out j t y A1 c1 (wr.alloc (.cells #[.int .i64 t.fn, .slice A1 t.args.length c1] 31)) ht hy (by simp; omega) (hKr.alloc _) (HI.out j wr _ HIj.out ((Keeps.of_below hbx).mono fun g e => by have := hDb g e; show g < wr.heap.size; omega)) hi64 (hsub.keep fun g e => hbx.block g (by have := hNb g e; omega)))
        have hR := Lib.hid hR
        have Hy := Lib.hid hy
        clear ht ha hy hsub
        go_wp2_with (first
          | (with_reducible refine hcall.out.mono ?_; go_must (
             rintro e w4 ⟨A4, c4, rfl, hy64, hO4, hI4, hk4⟩
             have hK4 := (hKr.alloc (.cells #[.int .i64 t.fn, .slice A1 t.args.length c1] 31)).trans hk4
             have hs4 := hk4.size
             have hsz : (wr.alloc (.cells #[.int .i64 t.fn, .slice A1 t.args.length c1] 31)).heap.size = wr.heap.size + 1 := by simp
             have hkk : ∀ g, w.heap.size ≤ g → g < wr.heap.size → w4.heap[g]? = wr.heap[g]? := fun g h1 h2 => (hk4.block (by omega) (fun e => by have := hCb g e; omega)).trans (hbx.block g h2)
             have hR4 := hR.out.onK hbs (by omega) hkk
             have r0 := (hR4.row.cellAt (j * 2) (by omega)).trans (List.getElem?_eq_getElem (by omega))
             have r1 := (hR4.row.cellAt (j * 2 + 1) (by omega)).trans (List.getElem?_eq_getElem (by omega))
             have s0 := hR4.row.frozenAt (j * 2)
             have s1 := hR4.row.frozenAt (j * 2 + 1)
             have hR4 := Lib.hid hR4
             have hO4 := Lib.hid hO4
             have hI4 := Lib.hid hI4))
          | fail)
        have hlo := hR.out.mke
        have hst := hR4.out.step (c1 := c4) Hy.out hy64 hO4.out (by omega)
        go_roundw
        case rel => exact ⟨j + 1, by omega, by go_num, (hK4.set (Nat.le_refl _) _).set (Nat.le_refl _) _, by simp; omega, HI.out _ _ _ hI4.out (((Keeps.set w4 ⟨w.heap.size, j * 2, none⟩ _).mono fun g e => by have := hDb g e; show g ≠ w.heap.size; omega).trans ((Keeps.set _ ⟨w.heap.size, j * 2 + 1, none⟩ _).mono fun g e => by have := hDb g e; show g ≠ w.heap.size; omega)), hst⟩
        case measure => simp [intOf]; omega
      · obtain rfl : j = ys.length := by omega
        obtain ⟨vs, A', c', m, hR⟩ := H.out
        go_wp2
        go_ret
        exact ⟨some ⟨w.heap.size, 0, none⟩, ys.length, rfl, hR.whole hy0 (by omega) (Nat.le_refl _) (Nat.le_refl _), HIj.out, hKr⟩
end Go.Proofs.Ytdeegdndfblnkaa
