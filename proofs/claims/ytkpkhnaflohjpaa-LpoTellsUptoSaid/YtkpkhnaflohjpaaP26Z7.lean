import Derived.Test.YtkpkhnaflohjpaaP26Z2
import Derived.Test.YtkpkhnaflohjpaaP26Z1
/- rows of numbers in memory -/

namespace Go.Proofs.Ytkpkhnaflohjpaa

open Go.RowKit Go.Shelf
set_option maxRecDepth 100000
set_option maxRecDepth 100000

/-- The slice v is the call's own; it holds the numbers. -/
structure IntsR (w : World) (base : Nat) (v : Value) (l : List Int) : Prop where
  row : w.ownsRow base 3 1 v l.length (l.map (Value.int .i64))
  i64 : ∀ x ∈ l, I64 x

theorem IntsR.get {w : World} {base : Nat} {v : Value} {l : List Int} (h : IntsR w base v l) {i : Nat} {x : Int} (hx : l[i]? = some x) : ∃ g c, v = .slice (some ⟨g, 0, none⟩) l.length c ∧ g < w.heap.size ∧ w.cell? ⟨g, i, none⟩ = some (.int .i64 x) := by
  have hlt := (List.getElem?_eq_some_iff.1 hx).1
  rcases h.row.2 with ⟨_, h0⟩ | ⟨g, cap, cur, rfl, hb, hg, _⟩
  · omega
  · refine ⟨g, cap, rfl, (Array.getElem?_eq_some_iff.1 hg).1, ?_⟩
    rw [h.row.cellAt i (by simpa using hlt)]
    simp [hx]

theorem IntsR.on {w w' : World} {base : Nat} {v : Value} {l : List Int} (h : IntsR w base v l) (hb : Below w.heap.size w w') : IntsR w' base v l := ⟨row_keep h.row fun g e => hb.block g (row_lt h.row g e).2, h.i64⟩

theorem row_slice {W : World} {base n : Nat} {e : TypeId} {size : Nat} {v : Value} {vs : List Value} (h : W.ownsRow base e size v n vs) : ∃ A c, v = .slice A n c := by
  rcases h.2 with ⟨hv, h0⟩ | ⟨g, cap, cur, hv, _⟩
  · exact ⟨none, 0, by rw [hv, h0]⟩
  · exact ⟨_, cap, hv⟩

theorem frozen_9 {W : World} {b : Nat} {cs : Array Value} {t : TypeId} (h : W.heap[b]? = some (.cells cs t)) (o : Nat) : W.frozen? ⟨b, o, none⟩ = false := by simp [World.frozen?, h]

theorem info_int : (Try.prog.info? 3).map (fun i => (i.zero, i.size, i.bytes)) = some (some (.int .i64 0), 1, 8) := by kernel_rfl

end Go.Proofs.Ytkpkhnaflohjpaa

/- rows of numbers that grow by a term -/

namespace Go.Proofs.Ytkpkhnaflohjpaa

open Go.RowKit Go.Shelf
set_option maxRecDepth 100000
set_option maxRecDepth 100000

/-- The row that has grown: nothing else has turned. -/
structure OrdW (base : Nat) (v : Value) (w : World) (v' : Value) (l : List Int) (w' : World) : Prop where
  row : IntsR w' base v' l
  gr : w.grownBy w' v.ownBlock
  own : ∀ g, v'.ownBlock = some g → v.ownBlock = some g ∨ w.heap.size ≤ g

theorem ord_app {base : Nat} {v v5 : Value} {w wr w5 : World} {l : List Int} {x : Int} {o : Obj} (h : IntsR w base v l) (hb : Below w.heap.size w wr) (hx : I64 x) (hown : w5.ownsRow base 3 1 v5 (l.length + 1) (l.map (Value.int .i64) ++ [.int .i64 x])) (hgr : (wr.alloc o).grownBy w5 v.ownBlock) (hat : v5.ownBlock = v.ownBlock ∨ v5.ownBlock = some (wr.alloc o).heap.size) : OrdW base v w v5 (l ++ [x]) w5 := by
  have hs := hb.size
  have hs5 := hgr.size
  have hsz : wr.heap.size + 1 ≤ w5.heap.size := by simpa using hs5
  refine ⟨⟨by simpa using hown, fun y hy => ?_⟩, ⟨hgr.os.trans hb.os, hgr.tape.trans hb.tape, hgr.output.trans hb.output, by omega, fun g hg hn => ?_⟩, fun g e => ?_⟩
  · rcases List.mem_append.1 hy with hy | hy
    · exact h.i64 y hy
    · simp at hy; subst hy; exact hx
  · exact (hgr.block g (by simp; omega) hn).trans ((Below.heap_alloc wr o g (by omega)).trans (hb.block g hg))
  · rcases hat with h' | h'
    · rw [h'] at e; exact .inl e
    · rw [h'] at e; injection e with e; simp at e; exact .inr (by omega)

end Go.Proofs.Ytkpkhnaflohjpaa

/- The document's own answers: Size, Depth, low, over, Small. -/

namespace Go.Proofs.Ytkpkhnaflohjpaa

open Go.RowKit
set_option maxRecDepth 100000

theorem sizes_snoc : ∀ (xs : List Tm) (u : Tm), sizes (xs ++ [u]) = sizes xs + u.size
  | [], u => by simp [sizes]
  | x :: xs, u => by simp only [List.cons_append, sizes, sizes_snoc xs u]; omega

theorem depths_snoc : ∀ (xs : List Tm) (u : Tm), depths (xs ++ [u]) = max (depths xs) u.depth
  | [], u => by simp [depths]
  | x :: xs, u => by simp only [List.cons_append, depths, depths_snoc xs u]; omega

theorem sizes_take {xs : List Tm} {k : Nat} {u : Tm} (h : xs[k]? = some u) : sizes (xs.take (k + 1)) = sizes (xs.take k) + u.size := by
  rw [List.take_add_one, h]; exact sizes_snoc _ _

theorem depths_take {xs : List Tm} {k : Nat} {u : Tm} (h : xs[k]? = some u) : depths (xs.take (k + 1)) = max (depths (xs.take k)) u.depth := by
  rw [List.take_add_one, h]; exact depths_snoc _ _

theorem sizes_le (xs : List Tm) (k : Nat) : sizes (xs.take k) ≤ sizes xs := by
  have key : ∀ (ys zs : List Tm), sizes zs ≤ sizes (zs ++ ys) := by
    intro ys zs
    induction zs with
    | nil => simp [sizes]
    | cons z zs ih => simp only [List.cons_append, sizes]; omega
  have := key (xs.drop k) (xs.take k)
  rwa [List.take_append_drop] at this

theorem depth_le_size (t : Tm) : t.depth ≤ t.size := by
  refine Tm.ind (P := fun t => t.depth ≤ t.size) (fun f xs ih => ?_) t
  simp only [Tm.depth, Tm.size]
  have key : ∀ ys : List Tm, (∀ t ∈ ys, t.depth ≤ t.size) → depths ys ≤ sizes ys := by
    intro ys
    induction ys with
    | nil => intro _; simp [depths]
    | cons y ys ihy =>
      intro h
      have h1 := h y (by simp)
      have h2 := ihy fun t ht => h t (by simp [ht])
      simp only [depths, sizes]
      omega
  have := key xs ih
  omega

theorem depths_le (xs : List Tm) (k : Nat) : depths (xs.take k) ≤ depths xs := by
  have key : ∀ (ys zs : List Tm), depths zs ≤ depths (zs ++ ys) := by
    intro ys zs
    induction zs with
    | nil => simp [depths]
    | cons z zs ih => simp only [List.cons_append, depths]; omega
  have := key (xs.drop k) (xs.take k)
  rwa [List.take_append_drop] at this

/-- The box of a term that is a parameter, and what stays of it. -/
theorem box_term {w W : World} {f : Int} {A : Option Addr} {n c : Nat} (hW : w.alloc (.cells #[.int .i64 f, .slice A n c] 27) = W) : Below w.heap.size w W ∧ w.heap.size < W.heap.size ∧ ∀ w', Below W.heap.size W w' → w'.cell? ⟨w.heap.size, 0, none⟩ = some (.int .i64 f) ∧ w'.cell? ⟨w.heap.size, 1, none⟩ = some (.slice A n c) := by
  have hb : W.heap[w.heap.size]? = some (.cells #[.int .i64 f, .slice A n c] 27) := by rw [← hW]; exact heap_alloc_new w _
  have hlt := (Array.getElem?_eq_some_iff.1 hb).1
  refine ⟨by rw [← hW]; exact (Below.refl _ _).alloc (Nat.le_refl _) _, hlt, fun w' h => ?_⟩
  obtain ⟨h0, h1, _, _⟩ := cells_two ((h.block _ hlt).trans hb)
  exact ⟨h0, h1⟩

def RSize (t : Tm) : Prop := t.size ≤ 4611686018427387904 → ∀ (A : Option Addr) (c : Nat) (w : World), I64 t.fn → Args w w.heap.size A t.args →
  Calls Try.prog 9 #[.agg #[.int .i64 t.fn, .slice A t.args.length c]] w fun e w' => e = .returned (.int .i64 (t.size : Int)) ∧ Below w.heap.size w w'

set_option maxHeartbeats 1000000 in
theorem refSize_any (t : Tm) : RSize t := by
  refine Tm.ind (P := RSize) (fun f xs ih => ?_) t
  intro hsz A c w hf hA
  simp only [Tm.fn, Tm.args] at hf hA ⊢
  have hlen := hA.len
  obtain ⟨W, hW⟩ : ∃ W, w.alloc (.cells #[.int .i64 f, .slice A xs.length c] 27) = W := ⟨_, rfl⟩
  obtain ⟨hB, hlt, hS⟩ := box_term hW
  have HW := Lib.hid hW
  have hszs : sizes xs + 1 ≤ 4611686018427387904 := by simpa only [Tm.size] using hsz
  clear hW
  go_enter Try.func9, Try.ntmps9
  go_upto_region 1 with fail
  rw [HW.out]
  go_wp2
  go_loopw [3, 4] (fun n i wr => ∃ k : Nat, k ≤ xs.length ∧ i = .int .i64 (k : Int) ∧ n = .int .i64 ((sizes (xs.take k) + 1 : Nat) : Int) ∧ Below W.heap.size W wr) (fun _ i _ => xs.length - (intOf i).toNat)
  case atStart => exact ⟨0, Nat.zero_le _, rfl, by simp [sizes], Below.refl _ _⟩
  case round =>
    obtain ⟨k, hk, rfl, rfl, hBr⟩ := hrel
    obtain ⟨_, x1⟩ := hS _ hBr
    have hsk := sizes_le xs k
    by_cases hkl : k < xs.length
    · obtain ⟨u, hu⟩ : ∃ u, xs[k]? = some u := ⟨_, List.getElem?_eq_getElem hkl⟩
      obtain ⟨bb, off, A1, c1, rfl, ha⟩ := (hA.on (hB.trans (hBr.mono hB.size))).get hu
      have e0 := ha.c0
      have e1 := ha.c1
      have hmem := List.mem_of_getElem? hu
      have hsu := size_mem hmem
      have hst := Lib.hid (sizes_take hu)
      have hsk1 := sizes_le xs (k + 1)
      have hst' := sizes_take hu
      have hsub := Lib.hid ha.sub
      have hu64 := ha.hi
      clear hu ha
      go_wp2_with (first
        | (go_at_call 9
           go_must (
           refine (ih u hmem (by omega) A1 c1 wr hu64 hsub.out).mono ?_
           rintro e w2 ⟨rfl, hb2⟩))
        | fail)
      refine ⟨⟨k + 1, by omega, by go_num, ?_, hBr.trans (hb2.mono hBr.size)⟩, by simp [intOf]; omega⟩
      rw [hst']
      go_num
    · obtain rfl : k = xs.length := by omega
      go_wp2
      go_ret
      exact ⟨by rw [List.take_length]; rfl, hB.trans (hBr.mono hB.size)⟩

end Go.Proofs.Ytkpkhnaflohjpaa

