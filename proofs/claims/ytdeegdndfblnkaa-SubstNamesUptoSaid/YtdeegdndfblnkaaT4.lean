/- Terms in memory of a call's own: rows that lie apart. -/
import Derived.Test.YtdeegdndfblnkaaT0
import Derived.Test.YtdeegdndfblnkaaWA
namespace Go.Proofs.Ytdeegdndfblnkaa
open Go.RowKit
set_option maxRecDepth 100000

theorem info_term : (Try.prog.info? 31).map (fun i => (i.zero, i.size, i.bytes)) = some (some (.agg #[.int .i64 0, .slice none 0 0]), 2, 32) := by kernel_rfl

/-- The slice at A holds the terms; all its rows lie in blocks lo .. hi - 1, each in a block of its own. -/
inductive OwnT (w : World) : Nat → Nat → Option Addr → List Tm → Prop
  | nil (lo hi : Nat) (A : Option Addr) : OwnT w lo hi A []
  | row (lo hi b cap : Nat) (xs : List Tm) (vs : List Value) (A' : Nat → Option Addr) (c' m : Nat → Nat) (hlo : lo ≤ b) (hpos : 0 < xs.length) (hlen : xs.length ≤ 9223372036854775807) (hrow : w.ownsRow b 31 2 (.slice (some ⟨b, 0, none⟩) xs.length cap) xs.length vs)
      (hm0 : b + 1 ≤ m 0) (hmn : m xs.length ≤ hi) (hm : ∀ i : Nat, i < xs.length → m i ≤ m (i + 1)) (hi64 : ∀ (i : Nat) (t : Tm), xs[i]? = some t → I64 t.fn)
      (h0 : ∀ (i : Nat) (t : Tm), xs[i]? = some t → vs[i * 2]? = some (.int .i64 t.fn))
      (h1 : ∀ (i : Nat) (t : Tm), xs[i]? = some t → vs[i * 2 + 1]? = some (.slice (A' i) t.args.length (c' i)))
      (hs : ∀ (i : Nat) (t : Tm), xs[i]? = some t → OwnT w (m i) (m (i + 1)) (A' i) t.args) : OwnT w lo hi (some ⟨b, 0, none⟩) xs

theorem mono_to {m : Nat → Nat} {n : Nat} (h : ∀ i : Nat, i < n → m i ≤ m (i + 1)) : ∀ {i j : Nat}, i ≤ j → j ≤ n → m i ≤ m j := by
  intro i j hij hj
  induction j with
  | zero => obtain rfl : i = 0 := by omega
            exact Nat.le_refl _
  | succ j ih =>
    by_cases e : i = j + 1
    · subst e; exact Nat.le_refl _
    · exact Nat.le_trans (ih (by omega) (by omega)) (h j (by omega))

theorem ownsRow_keep {w w' : World} {base e size n : Nat} {v : Value} {xs : List Value} {g : Nat} (h : w.ownsRow base e size v n xs) (hv : ∀ g', v.ownBlock = some g' → g' = g) (hk : w'.heap[g]? = w.heap[g]?) : w'.ownsRow base e size v n xs := by
  refine ⟨h.1, ?_⟩
  rcases h.2 with h0 | ⟨g', cap, cur, rfl, hbase, hg, hrest⟩
  · exact .inl h0
  · obtain rfl := hv g' rfl
    exact .inr ⟨g', cap, cur, rfl, hbase, hk.trans hg, hrest⟩

section
variable {w w' : World} {lo hi lo' hi' : Nat} {A : Option Addr} {xs : List Tm}
theorem OwnT.keep (h : OwnT w lo hi A xs) : (∀ g, lo ≤ g → g < hi → w'.heap[g]? = w.heap[g]?) → OwnT w' lo hi A xs := by
  induction h with
  | nil lo hi A => intro _; exact .nil lo hi A
  | row lo hi b cap xs vs A' c' m hlo hpos hlen hrow hm0 hmn hm hi64 h0 h1 _ ih =>
    intro hk
    have hbm : b < hi := by have := mono_to hm (Nat.zero_le xs.length) (Nat.le_refl _); omega
    refine .row lo hi b cap xs vs A' c' m hlo hpos hlen (ownsRow_keep hrow (fun g' e => by simp [Value.ownBlock] at e; exact e.symm) (hk b hlo hbm)) hm0 hmn hm hi64 h0 h1 fun i t hit => ih i t hit fun g h2 h3 => hk g ?_ ?_
    · have hil := (List.getElem?_eq_some_iff.1 hit).1
      have := mono_to hm (Nat.zero_le i) (by omega)
      omega
    · have hil := (List.getElem?_eq_some_iff.1 hit).1
      have := mono_to hm (show i + 1 ≤ xs.length by omega) (Nat.le_refl _)
      omega
theorem OwnT.on (h : OwnT w lo hi A xs) (hb : Below w.heap.size w w') (hh : hi ≤ w.heap.size) : OwnT w' lo hi A xs := h.keep fun g _ hg => hb.block g (by omega)
theorem OwnT.wide (h : OwnT w lo hi A xs) (h1 : lo' ≤ lo) (h2 : hi ≤ hi') : OwnT w lo' hi' A xs := by
  cases h with
  | nil => exact .nil lo' hi' A
  | row _ _ b cap _ vs A' c' m hlo hpos hlen hrow hm0 hmn hm hi64 a0 a1 hs => exact .row lo' hi' b cap xs vs A' c' m (by omega) hpos hlen hrow hm0 (by omega) hm hi64 a0 a1 hs
theorem OwnT.args {B : Nat} (h : OwnT w lo hi A xs) : hi ≤ B → Args w B A xs := by
  induction h with
  | nil lo hi A => intro _; exact .nil A
  | row lo hi b cap xs vs A' c' m hlo hpos hlen hrow hm0 hmn hm hi64 h0 h1 _ ih =>
    intro hB
    have hbm : b < hi := by have := mono_to hm (Nat.zero_le xs.length) (Nat.le_refl _); omega
    have hvs : vs.length = xs.length * 2 := hrow.1
    refine .row b 0 xs A' c' (by omega) hlen hi64 (fun i t e => ?_) (fun i t e => ?_) fun i t hit => ih i t hit ?_
    · have hil := (List.getElem?_eq_some_iff.1 e).1
      rw [Nat.zero_add, hrow.cellAt (i * 2) (by omega)]
      exact h0 i t e
    · have hil := (List.getElem?_eq_some_iff.1 e).1
      rw [Nat.zero_add, hrow.cellAt (i * 2 + 1) (by omega)]
      exact h1 i t e
    · have hil := (List.getElem?_eq_some_iff.1 hit).1
      have := mono_to hm (show i + 1 ≤ xs.length by omega) (Nat.le_refl _)
      omega

end
/-- The first k terms of a row of xs.length elements are laid. -/
structure RowK (w : World) (b cap : Nat) (xs : List Tm) (k : Nat) (vs : List Value) (A' : Nat → Option Addr) (c' m : Nat → Nat) : Prop where
  row : w.ownsRow b 31 2 (.slice (some ⟨b, 0, none⟩) xs.length cap) xs.length vs
  m0 : b + 1 ≤ m 0
  mke : m k ≤ w.heap.size
  mono : ∀ i : Nat, i < k → m i ≤ m (i + 1)
  i64 : ∀ (i : Nat) (t : Tm), i < k → xs[i]? = some t → I64 t.fn
  v0 : ∀ (i : Nat) (t : Tm), i < k → xs[i]? = some t → vs[i * 2]? = some (.int .i64 t.fn)
  v1 : ∀ (i : Nat) (t : Tm), i < k → xs[i]? = some t → vs[i * 2 + 1]? = some (.slice (A' i) t.args.length (c' i))
  sub : ∀ (i : Nat) (t : Tm), i < k → xs[i]? = some t → OwnT w (m i) (m (i + 1)) (A' i) t.args
section
variable {w w' : World} {lo hi : Nat} {xs : List Tm} {b cap k : Nat} {vs : List Value} {A' : Nat → Option Addr} {c' m : Nat → Nat}
theorem RowK.whole (h : RowK w b cap xs xs.length vs A' c' m) (hpos : 0 < xs.length) (hlen : xs.length ≤ 9223372036854775807) (hlo : lo ≤ b) (hhi : w.heap.size ≤ hi) : OwnT w lo hi (some ⟨b, 0, none⟩) xs :=
  have hlt : ∀ {i : Nat} {t : Tm}, xs[i]? = some t → i < xs.length := fun e => (List.getElem?_eq_some_iff.1 e).1
  .row lo hi b cap xs vs A' c' m hlo hpos hlen h.row h.m0 (Nat.le_trans h.mke hhi) h.mono (fun i t e => h.i64 i t (hlt e) e) (fun i t e => h.v0 i t (hlt e) e) (fun i t e => h.v1 i t (hlt e) e) fun i t e => h.sub i t (hlt e) e
theorem RowK.on (h : RowK w b cap xs k vs A' c' m) (hbs : b < w.heap.size) (hb : Below w.heap.size w w') : RowK w' b cap xs k vs A' c' m :=
  ⟨ownsRow_keep h.row (fun g' e => by simp [Value.ownBlock] at e; exact e.symm) (hb.block b hbs), h.m0, Nat.le_trans h.mke hb.size, h.mono, h.i64, h.v0, h.v1, fun i t hik e => (h.sub i t hik e).on hb (Nat.le_trans (mono_to h.mono (show i + 1 ≤ k by omega) (Nat.le_refl _)) h.mke)⟩
/-- One more. -/
theorem RowK.step (h : RowK w b cap xs k vs A' c' m) {t : Tm} {A1 : Option Addr} {c1 lo1 : Nat} (hk : xs[k]? = some t) (hi : I64 t.fn) (hs : OwnT w lo1 w.heap.size A1 t.args) (hlo : m k ≤ lo1) :
    ∃ vs' A'' c'' m', RowK ((w.setCell ⟨b, k * 2, none⟩ (.int .i64 t.fn)).setCell ⟨b, k * 2 + 1, none⟩ (.slice A1 t.args.length c1)) b cap xs (k + 1) vs' A'' c'' m' := by
  have hkl := (List.getElem?_eq_some_iff.1 hk).1
  have hvs : vs.length = xs.length * 2 := h.row.1
  have h1 := (h.row.stored (k * 2) (.int .i64 t.fn)).1
  have h2 := (h1.stored (k * 2 + 1) (.slice A1 t.args.length c1)).1
  have hother : ∀ g, b + 1 ≤ g → ((w.setCell ⟨b, k * 2, none⟩ (.int .i64 t.fn)).setCell ⟨b, k * 2 + 1, none⟩ (.slice A1 t.args.length c1)).heap[g]? = w.heap[g]? := fun g hg =>
    (heap_setCell_other _ _ _ _ (show g ≠ b by omega)).trans (heap_setCell_other _ _ _ _ (show g ≠ b by omega))
  have hm0 : ∀ i, i ≤ k → b + 1 ≤ m i := fun i hi => Nat.le_trans h.m0 (mono_to h.mono (Nat.zero_le i) hi)
  refine ⟨_, fun i => if i = k then A1 else A' i, fun i => if i = k then c1 else c' i, fun i => if i = k + 1 then w.heap.size else m i, h2, ?_, ?_, ?_, ?_, ?_, ?_, ?_⟩
  · simp only [if_neg (show ¬ (0 = k + 1) by omega)]; exact h.m0
  · simp
  · intro i hik
    by_cases e : i = k
    · subst e
      simp only [if_neg (show ¬ (i = i + 1) by omega), if_true]
      exact h.mke
    · simp only [if_neg (show ¬ (i = k + 1) by omega), if_neg (show ¬ (i + 1 = k + 1) by omega)]
      exact h.mono i (by omega)
  · intro i u hik e
    by_cases e1 : i = k
    · subst e1; rw [hk] at e; cases e; exact hi
    · exact h.i64 i u (by omega) e
  · intro i u hik e
    by_cases e1 : i = k
    · subst e1; rw [hk] at e; cases e
      rw [List.getElem?_set_ne (by omega), List.getElem?_set_self (by omega)]
    · rw [List.getElem?_set_ne (by omega), List.getElem?_set_ne (by omega)]
      exact h.v0 i u (by omega) e
  · intro i u hik e
    by_cases e1 : i = k
    · subst e1; rw [hk] at e; cases e
      simp only [if_true]
      rw [List.getElem?_set_self (by simp; omega)]
    · simp only [if_neg e1]
      rw [List.getElem?_set_ne (by omega), List.getElem?_set_ne (by omega)]
      exact h.v1 i u (by omega) e
  · intro i u hik e
    by_cases e1 : i = k
    · subst e1; rw [hk] at e; cases e
      simp only [if_true, if_neg (show ¬ (i = i + 1) by omega)]
      exact (hs.wide hlo (Nat.le_refl _)).keep fun g h3 _ => hother g (Nat.le_trans (hm0 i (Nat.le_refl _)) h3)
    · simp only [if_neg e1, if_neg (show ¬ (i = k + 1) by omega), if_neg (show ¬ (i + 1 = k + 1) by omega)]
      exact (h.sub i u (by omega) e).keep fun g h3 _ => hother g (Nat.le_trans (hm0 i (by omega)) h3)
end
end Go.Proofs.Ytdeegdndfblnkaa
