import Derived.Test.YtnmpeodngipfcaaP22Z1
import Derived.Test.YtnmpeodngipfcaaP22Z11
import Derived.Test.YtnmpeodngipfcaaP22Z2
import Derived.Deep.RegionLaw
import Derived.Test.YtnmpeodngipfcaaP22Z5
/- terms put in for variables, plain -/

namespace Go.Proofs.Ytnmpeodngipfcaa

open Go.RowKit
set_option maxRecDepth 20000
set_option maxRecDepth 20000

/-- A term with the rows' terms put in for its variables. -/
def valT (l : List Tm) (f : Int) : Tm := if -1 - f < (l.length : Int) then l.getD (-1 - f).toNat (.node f []) else .node f []

mutual
def putT (l : List Tm) : Tm → Tm
  | .node f xs => if f < 0 then (if -1 - f < (l.length : Int) then l.getD (-1 - f).toNat (.node f []) else .node f xs) else .node f (putL l xs)
def putL (l : List Tm) : List Tm → List Tm
  | [] => []
  | t :: ts => putT l t :: putL l ts
end

theorem putT_var {ar : List Nat} {l : List Tm} {t : Tm} (hw : wfT ar t = true) (hv : t.fn < 0) : putT l t = valT l t.fn := by
  obtain ⟨f, xs⟩ := t
  change f < 0 at hv
  rw [wf_var hw hv, putT, if_pos hv]; rfl

theorem putT_sym {l : List Tm} {f : Int} {xs : List Tm} (hf : ¬ f < 0) : putT l (.node f xs) = .node f (putL l xs) := by rw [putT, if_neg hf]

theorem putL_mem {l : List Tm} : ∀ {xs : List Tm} {x : Tm}, x ∈ xs → putT l x ∈ putL l xs
  | [], _, h => by simp at h
  | y :: ys, x, h => by
    rw [putL]
    rcases List.mem_cons.1 h with rfl | h
    · simp
    · exact List.mem_cons_of_mem _ (putL_mem h)

end Go.Proofs.Ytnmpeodngipfcaa

/- terms put in, in memory -/

namespace Go.Proofs.Ytnmpeodngipfcaa

open Go.RowKit Go.Shelf Go.Maps
set_option maxRecDepth 100000
set_option maxRecDepth 100000

section

variable {w w' : World} {base base' : Nat} {v : Value} {l : List Ti} {N M : Nat → Prop}

/-- The slice v is the call's own; it holds the terms l, whose arguments lie in N's blocks. -/
structure RowKT (w : World) (base : Nat) (v : Value) (l : List Ti) (N : Nat → Prop) : Prop where
  row : w.ownsRow base 27 2 v l.length (l.flatMap Ti.cells)
  i64 : ∀ x ∈ l, I64 x.t.fn
  sub : ∀ x ∈ l, ArgsK w N x.A x.c x.t.args

theorem RowKT.nil_ (w : World) (base : Nat) (N : Nat → Prop) : RowKT w base (.slice none 0 0) [] N :=
  ⟨World.ownsRow_nil w _ _ _, fun x hx => by simp at hx, fun x hx => by simp at hx⟩

theorem RowKT.argsK (h : RowKT w base v l N) (hl : l.length ≤ 9223372036854775807) (hv : ∀ g, v.ownBlock = some g → M g) (hN : ∀ g, N g → M g) : ∃ A c, v = .slice A l.length c ∧ ArgsK w M A c (l.map Ti.t) := by
  rcases h.row.2 with ⟨rfl, h0⟩ | ⟨g, cap, cur, rfl, hb, hg, hcap, _⟩
  · obtain rfl : l = [] := List.eq_nil_of_length_eq_zero h0
    exact ⟨none, 0, rfl, .nil _ _⟩
  · refine ⟨_, _, rfl, .row g 0 cap _ (fun i => ((l[i]?).map Ti.A).getD none) (fun i => ((l[i]?).map Ti.c).getD 0) (by simpa using hcap) (hv g rfl) (by simpa using hl) (fun i t e => ?_) (fun i t e => ?_) (fun i t e => ?_) fun i t e => ?_⟩
    all_goals
      rw [List.getElem?_map] at e
      cases hx : l[i]? with
      | none => rw [hx] at e; cases e
      | some x =>
        rw [hx] at e
        injection e with e
        subst e
        have hlt := (List.getElem?_eq_some_iff.1 hx).1
        have hm := List.mem_of_getElem? hx
        have q0 := ti_get l i 0 (by omega)
        have q1 := ti_get l i 1 (by omega)
        have c0 := h.row.cellAt (i * 2) (by omega)
        have c1 := h.row.cellAt (i * 2 + 1) (by omega)
        rw [Nat.add_zero, hx] at q0
        rw [hx] at q1
        rw [q0] at c0
        rw [q1] at c1
        try simp only [Option.map_some, Option.getD_some]
        try rw [Nat.zero_add]
        first | exact h.i64 x hm | exact c0 | exact c1 | exact (h.sub x hm).wide hN

theorem RowKT.push {x : Ti} {v' : Value} (h : RowKT w base v l N) (hrow : w'.ownsRow base 27 2 v' (l.length + 1) (l.flatMap Ti.cells ++ x.cells)) (hi : I64 x.t.fn) (hx : ArgsK w' M x.A x.c x.t.args) (hk : ∀ g, N g → w'.heap[g]? = w.heap[g]?) (hNM : ∀ g, N g → M g) : RowKT w' base v' (l ++ [x]) M := by
  refine ⟨?_, ?_, ?_⟩
  · rw [List.length_append, List.flatMap_append]
    simpa using hrow
  · intro y hy
    rcases List.mem_append.1 hy with hy | hy
    · exact h.i64 y hy
    · simp only [List.mem_cons, List.not_mem_nil, or_false] at hy
      subst hy; exact hi
  · intro y hy
    rcases List.mem_append.1 hy with hy | hy
    · exact ((h.sub y hy).keep hk).wide hNM
    · simp only [List.mem_cons, List.not_mem_nil, or_false] at hy
      subst hy; exact hx

theorem rowOwn {W : World} {base n : Nat} {e : TypeId} {size : Nat} {v : Value} {vs : List Value} (h : W.ownsRow base e size v n vs) : ∃ A c, v = .slice A n c := by
  rcases h.2 with ⟨hv, h0⟩ | ⟨g, cap, cur, hv, _⟩
  · exact ⟨none, 0, by rw [hv, h0]⟩
  · exact ⟨_, cap, hv⟩

/-- Where the arguments of what is put together lie: what was there ahead (below b0), or new memory (from lo on); the row itself apart. -/
def ApB (b0 lo : Nat) (v : Value) (w : World) (g : Nat) : Prop := (g < b0 ∨ lo ≤ g) ∧ g < w.heap.size ∧ v.ownBlock ≠ some g

def RPlPost (b0 : Nat) (r : Tm) (w : World) (e : Ending) (w' : World) : Prop := ∃ A' c', e = .returned (.agg #[.int .i64 r.fn, .slice A' r.args.length c']) ∧ I64 r.fn ∧ ArgsK w' (fun g => (g < b0 ∨ w.heap.size ≤ g) ∧ g < w'.heap.size) A' c' r.args ∧ Below w.heap.size w w'

/-- What the loop has laid. -/
structure RPlI (b0 : Nat) (l0 : List Tm) (w wr : World) (f : Int) (xs : List Tm) (k : Nat) (v : Value) (l : List Ti) : Prop where
  box : wr.heap[w.heap.size + 2]? = some (.cells #[.int .i64 f, v] 27)
  key : l.map Ti.t = putL l0 (xs.take k)
  row : RowKT wr (w.heap.size + 3) v l (ApB b0 (w.heap.size + 3) v wr)

theorem putL_len (l0 : List Tm) : ∀ xs : List Tm, (putL l0 xs).length = xs.length
  | [] => rfl
  | x :: xs => by rw [putL, List.length_cons, List.length_cons, putL_len l0 xs]

theorem putL_app (l0 : List Tm) : ∀ xs ys : List Tm, putL l0 (xs ++ ys) = putL l0 xs ++ putL l0 ys
  | [], ys => rfl
  | x :: xs, ys => by rw [List.cons_append, putL, putL, List.cons_append, putL_app l0 xs ys]

theorem putL_take {l0 xs : List Tm} {k : Nat} {u : Tm} (h : xs[k]? = some u) : putL l0 (xs.take (k + 1)) = putL l0 (xs.take k) ++ [putT l0 u] := by
  rw [List.take_add_one, h, Option.toList_some, putL_app, putL, putL]

theorem RPlI.len {b0 : Nat} {l0 : List Tm} {w wr : World} {f : Int} {xs : List Tm} {k : Nat} {v : Value} {l : List Ti} (h : RPlI b0 l0 w wr f xs k v l) (hk : k ≤ xs.length) : l.length = k := by
  have := congrArg List.length h.key
  rw [putL_len] at this
  simpa [Nat.min_eq_left hk] using this

theorem RPlI.next {b0 : Nat} {l0 : List Tm} {w wr w4 w5 : World} {f : Int} {xs : List Tm} {k : Nat} {v v5 : Value} {l : List Ti} {u r : Tm} {A4 : Option Addr} {c4 : Nat} {o : Obj} (h : RPlI b0 l0 w wr f xs k v l) (hb0 : b0 ≤ w.heap.size) (hu : xs[k]? = some u) (hr : putT l0 u = r) (hi : I64 r.fn)
    (hA4 : ArgsK w4 (fun g => (g < b0 ∨ wr.heap.size ≤ g) ∧ g < w4.heap.size) A4 c4 r.args) (hb4 : Below wr.heap.size wr w4) (hown : w5.ownsRow (w.heap.size + 3) 27 2 v5 (k + 1) (l.flatMap Ti.cells ++ (⟨r, A4, c4⟩ : Ti).cells))
    (hgr : (w4.alloc o).grownBy w5 v.ownBlock) (hat : v5.ownBlock = v.ownBlock ∨ v5.ownBlock = some (w4.alloc o).heap.size) :
    RPlI b0 l0 w (w5.setCell ⟨w.heap.size + 2, 1, none⟩ v5) f xs (k + 1) v5 (l ++ [⟨r, A4, c4⟩]) := by
  have hkl := (List.getElem?_eq_some_iff.1 hu).1
  have hlen := h.len (by omega)
  have hlt := row_lt h.row.row
  have hs4 := hb4.size
  have hs5 := hgr.size
  have hbs : w.heap.size + 2 < wr.heap.size := (Array.getElem?_eq_some_iff.1 h.box).1
  have hK : ∀ g, g < wr.heap.size → v.ownBlock ≠ some g → w5.heap[g]? = wr.heap[g]? := fun g h1 h2 => (hgr.block g (by simp; omega) (fun e => h2 e.symm)).trans ((Below.heap_alloc w4 o g (by omega)).trans (hb4.block g h1))
  have hK4 : ∀ g, g < w4.heap.size → v.ownBlock ≠ some g → w5.heap[g]? = w4.heap[g]? := fun g h1 h2 => (hgr.block g (by simp; omega) (fun e => h2 e.symm)).trans (Below.heap_alloc w4 o g h1)
  have hb2 : v.ownBlock ≠ some (w.heap.size + 2) := fun e => by have := (hlt _ e).1; omega
  have hbox5 := (hK _ hbs hb2).trans h.box
  have hset : ∀ g, g ≠ w.heap.size + 2 → (w5.setCell ⟨w.heap.size + 2, 1, none⟩ v5).heap[g]? = w5.heap[g]? := fun g e => heap_setCell_other _ _ _ _ e
  have hlt5 := row_lt hown
  have hv5 : ∀ g, g < wr.heap.size → v.ownBlock ≠ some g → v5.ownBlock ≠ some g := fun g h1 h2 e => by
    rcases hat with h3 | h3
    · rw [h3] at e; exact h2 e
    · rw [h3] at e; injection e with e; simp at e; omega
  have hvo : ∀ g, (g < b0 ∨ wr.heap.size ≤ g) → v.ownBlock ≠ some g := fun g hg e => by have := hlt _ e; omega
  have hv54 : ∀ g, (g < b0 ∨ wr.heap.size ≤ g) → g < w4.heap.size → v5.ownBlock ≠ some g := fun g h1 h2 e => by
    rcases hat with h3 | h3
    · rw [h3] at e; exact hvo g h1 e
    · rw [h3] at e; injection e with e; simp at e; omega
  have hsz5 : w4.heap.size + 1 ≤ w5.heap.size := by simpa using hs5
  refine ⟨?_, ?_, ?_⟩
  · exact heap_setCell_same w5 _ 1 _ _ _ hbox5
  · rw [List.map_append, h.key, putL_take hu, hr]; rfl
  · refine RowKT.push (w := wr) (N := ApB b0 (w.heap.size + 3) v wr) h.row ?_ hi ?_ (fun g hg => ?_) (fun g hg => ⟨hg.1, by have := hg.2.1; simp; omega, hv5 g hg.2.1 hg.2.2⟩)
    · rw [hlen]
      exact row_keep hown fun g e => hset g (by have := (hlt5 g e).1; omega)
    · refine (hA4.keep fun g hg => ?_).wide fun g hg => ⟨by omega, by simp; omega, hv54 g hg.1 hg.2⟩
      exact (hset g (by omega)).trans (hK4 g hg.2 (hvo g hg.1))
    · exact (hset g (by have := hg.1; omega)).trans (hK g hg.2.1 hg.2.2)

end

end Go.Proofs.Ytnmpeodngipfcaa

/- lpo: Put (of the law), walked. -/

namespace Go.Proofs.Ytnmpeodngipfcaa

open Go.RowKit Go.Shelf Go.Maps
set_option maxRecDepth 100000

def RQlAt (l : List Tm) (t : Tm) : Prop := t.size ≤ 1099511627776 → ∀ (A Al : Option Addr) (c cl b0 : Nat) (w : World), I64 t.fn → ArgsK w (· < b0) A c t.args → ArgsK w (· < b0) Al cl l → b0 ≤ w.heap.size →
  Calls Try.prog 34 #[.agg #[.int .i64 t.fn, .slice A t.args.length c], .slice Al l.length cl] w (RPlPost b0 (putT l t) w)

set_option maxHeartbeats 4000000 in
theorem lpoPut_any (l : List Tm) (t : Tm) : RQlAt l t := by
  refine Tm.ind (P := RQlAt l) (fun f xs ih => ?_) t
  intro hsz A Al c cl b0 w hf hA hAl hb0
  simp only [Tm.fn, Tm.args] at hf hA ⊢
  have hlen : xs.length ≤ 1099511627776 := by have := sizes_len xs; simp only [Tm.size] at hsz; omega
  have hll64 := hAl.len
  obtain ⟨i0, hi, hz0, hz1, hz2⟩ := info_parts info_term
  by_cases hneg : f < 0
  · obtain ⟨j, rfl⟩ : ∃ j : Nat, f = -1 - (j : Int) := ⟨(-1 - f).toNat, by omega⟩
    have hwj : IntKind.i64.wrap (-1 - (-1 - (j : Int))) = (j : Int) := by rw [IntKind.wrap_i64]; have := hf.1; omega
    have q0 := heap_alloc_new w (.cells #[.int .i64 (-1 - (j : Int)), .slice A xs.length c] 27)
    obtain ⟨p0, p1⟩ := heap2 w (.cells #[.int .i64 (-1 - (j : Int)), .slice A xs.length c] 27) (.cells #[.int .i64 0, .slice none 0 0] 27)
    obtain ⟨W, hW⟩ : ∃ W, (w.alloc (.cells #[.int .i64 (-1 - (j : Int)), .slice A xs.length c] 27)).alloc (.cells #[.int .i64 0, .slice none 0 0] 27) = W := ⟨_, rfl⟩
    have hB : Below w.heap.size w W := by rw [← hW]; exact ((Below.refl _ _).alloc (Nat.le_refl _) _).alloc (by simp) _
    rw [hW] at p0 p1
    obtain ⟨a0, a1, _, _⟩ := cells_two p0
    obtain ⟨r0, r1, rf0, rf1⟩ := cells_two p1
    have HW := Lib.hid hW
    have hBs : ∀ (x y : Value), Below w.heap.size w ((W.setCell ⟨w.heap.size + 1, 0, none⟩ x).setCell ⟨w.heap.size + 1, 1, none⟩ y) := fun x y => (hB.setCell (by show _ ≤ w.heap.size + 1; omega) _).setCell (by show _ ≤ w.heap.size + 1; omega) _
    have hZ : ∀ (x y : Value), ((W.setCell ⟨w.heap.size + 1, 0, none⟩ x).setCell ⟨w.heap.size + 1, 1, none⟩ y).heap[w.heap.size + 1]? = some (.cells #[x, y] 27) := fun x y => by
      have z1 : (W.setCell ⟨w.heap.size + 1, 0, none⟩ x).heap[w.heap.size + 1]? = some (.cells #[x, .slice none 0 0] 27) := heap_setCell_same W _ 0 _ _ _ p1
      exact heap_setCell_same _ _ 1 _ _ _ z1
    have hlt1 := (Array.getElem?_eq_some_iff.1 p1).1
    clear hW q0
    by_cases hj : j < l.length
    · obtain ⟨x, hx⟩ : ∃ x, l[j]? = some x := ⟨_, List.getElem?_eq_getElem hj⟩
      obtain ⟨bb, off, A1, c1, rfl, hbb, hix, e0, e1, hsub⟩ := hAl.get hx
      have e0' := cell_on hB (by omega) e0
      have e1' := cell_on hB (by omega) e1
      have hres : putT l (.node (-1 - (j : Int)) xs) = x := by
        rw [putT, if_pos hneg, if_pos (by omega), show ((-1 - (-1 - (j : Int))).toNat) = j by omega, List.getD_eq_getElem?_getD, hx]; rfl
      have hkeep := (hsub.keep (w' := (W.setCell ⟨w.heap.size + 1, 0, none⟩ (.int .i64 x.fn)).setCell ⟨w.heap.size + 1, 1, none⟩ (.slice A1 x.args.length c1)) fun g (hg : g < b0) => (hBs _ _).block g (by omega)).wide (M := fun g => (g < b0 ∨ w.heap.size ≤ g) ∧ g < ((W.setCell ⟨w.heap.size + 1, 0, none⟩ (.int .i64 x.fn)).setCell ⟨w.heap.size + 1, 1, none⟩ (.slice A1 x.args.length c1)).heap.size) fun g (hg : g < b0) => ⟨.inl hg, by have := (hBs (.int .i64 x.fn) (.slice A1 x.args.length c1)).size; omega⟩
      obtain ⟨y0, y1, _, _⟩ := cells_two (hZ (.int .i64 x.fn) (.slice A1 x.args.length c1))
      have HR := Lib.hid hres
      have HK := Lib.hid hkeep
      have HBs := Lib.hid (hBs (.int .i64 x.fn) (.slice A1 x.args.length c1))
      clear hres hkeep hx hA hAl hsub p0 p1 hZ hBs e0 e1 hlen hsz hB
      go_enter Try.func34, Try.ntmps34
      go_upto_region 1 with fail
      rw [HW.out]
      go_wp2
      refine bodyPost_ret (v := .agg #[.int .i64 x.fn, .slice A1 x.args.length c1]) (by simp [results, Try.results34, go_sem, y0, y1]) rfl ?_
      rw [HR.out]
      exact ⟨A1, c1, rfl, hix, HK.out, HBs.out⟩
    · have hres : putT l (.node (-1 - (j : Int)) xs) = .node (-1 - (j : Int)) xs := by
        rw [putT, if_pos hneg, if_neg (by omega)]
      have hkeep := (hA.keep (w' := (W.setCell ⟨w.heap.size + 1, 0, none⟩ (.int .i64 (-1 - (j : Int)))).setCell ⟨w.heap.size + 1, 1, none⟩ (.slice A xs.length c)) fun g (hg : g < b0) => (hBs _ _).block g (by omega)).wide (M := fun g => (g < b0 ∨ w.heap.size ≤ g) ∧ g < ((W.setCell ⟨w.heap.size + 1, 0, none⟩ (.int .i64 (-1 - (j : Int)))).setCell ⟨w.heap.size + 1, 1, none⟩ (.slice A xs.length c)).heap.size) fun g (hg : g < b0) => ⟨.inl hg, by have := (hBs (.int .i64 (-1 - (j : Int))) (.slice A xs.length c)).size; omega⟩
      obtain ⟨y0, y1, _, _⟩ := cells_two (hZ (.int .i64 (-1 - (j : Int))) (.slice A xs.length c))
      have HR := Lib.hid hres
      have HK := Lib.hid hkeep
      have HBs := Lib.hid (hBs (.int .i64 (-1 - (j : Int))) (.slice A xs.length c))
      clear hres hkeep hA hAl p0 p1 hZ hBs hlen hsz hB
      go_enter Try.func34, Try.ntmps34
      go_upto_region 1 with fail
      rw [HW.out]
      go_wp2
      refine bodyPost_ret (v := .agg #[.int .i64 (-1 - (j : Int)), .slice A xs.length c]) (by simp [results, Try.results34, go_sem, y0, y1]) rfl ?_
      rw [HR.out]
      exact ⟨A, c, rfl, hf, HK.out, HBs.out⟩
  · obtain ⟨q0, q1, q2⟩ := heap3 w (.cells #[.int .i64 f, .slice A xs.length c] 27) (.cells #[.int .i64 0, .slice none 0 0] 27) (.cells #[.int .i64 f, .slice none 0 0] 27)
    obtain ⟨W, hW⟩ : ∃ W, (((w.alloc (.cells #[.int .i64 f, .slice A xs.length c] 27)).alloc (.cells #[.int .i64 0, .slice none 0 0] 27)).alloc (.cells #[.int .i64 f, .slice none 0 0] 27)) = W := ⟨_, rfl⟩
    have hB : Below w.heap.size w W := by rw [← hW]; exact (((Below.refl _ _).alloc (Nat.le_refl _) _).alloc (by simp) _).alloc (by simp; omega) _
    rw [hW] at q0 q1 q2
    have hWs : w.heap.size + 2 < W.heap.size := (Array.getElem?_eq_some_iff.1 q2).1
    have hI0 : RPlI b0 l w W f xs 0 (.slice none 0 0) [] := ⟨q2, rfl, RowKT.nil_ _ _ _⟩
    have HI0 := Lib.hid hI0
    have HA := Lib.hid hA
    have HAl := Lib.hid hAl
    have HW := Lib.hid hW
    clear hW hA q2 hI0 hAl
    go_enter Try.func34, Try.ntmps34
    go_wp2
    rw [HW.out]
    go_loopw [6] (fun i wr => ∃ (k : Nat) (v : Value) (l1 : List Ti), k ≤ xs.length ∧ i = .int .i64 (k : Int) ∧ Below (w.heap.size + 2) W wr ∧ Hid (RPlI b0 l w wr f xs k v l1)) (fun i _ => xs.length - (intOf i).toNat)
    case atStart => exact ⟨0, _, [], Nat.zero_le _, rfl, Below.refl _ _, HI0⟩
    case round =>
      obtain ⟨k, v, l1, hk, rfl, hBr, H⟩ := hrel
      have hbx := H.out.box
      have hbs : w.heap.size + 2 < wr.heap.size := (Array.getElem?_eq_some_iff.1 hbx).1
      obtain ⟨a0, a1, _, _⟩ := cells_two ((hBr.block _ (by omega)).trans q0)
      obtain ⟨c0, c1, g0, g1⟩ := cells_two hbx
      have hBw : Below w.heap.size w wr := hB.trans (hBr.mono (by omega))
      by_cases hlt : k < xs.length
      · obtain ⟨u, hu⟩ : ∃ u, xs[k]? = some u := ⟨_, List.getElem?_eq_getElem hlt⟩
        obtain ⟨bb, off, A1, c1', rfl, hbw, hi64, e0, e1, hsub⟩ := HA.out.get hu
        have e0 := cell_on hBw (by omega) e0
        have e1 := cell_on hBw (by omega) e1
        have hbb : bb < wr.heap.size := by omega
        have hs1 : Hid (ArgsK wr.drew (· < b0) A1 c1' u.args) := Lib.hid (hsub.keep fun g (hg : g < b0) => hBw.block g (by omega))
        have hs2 : Hid (ArgsK wr.drew (· < b0) Al cl l) := Lib.hid (HAl.out.keep fun g (hg : g < b0) => hBw.block g (by omega))
        have hmem := List.mem_of_getElem? hu
        have hszt : u.size ≤ 1099511627776 := by have := size_mem hmem; simp only [Tm.size] at hsz; omega
        have hb0r : b0 ≤ wr.drew.heap.size := by show b0 ≤ wr.heap.size; omega
        have Hu := Lib.hid hu
        have hrow := H.out.row.row
        have hll := H.out.len hk
        rw [hll] at hrow
        obtain ⟨Av, cv, hv⟩ := rowOwn hrow
        subst hv
        have hrl := row_lt hrow
        have Hrow := Lib.hid hrow
        obtain ⟨r, hr⟩ : ∃ r, putT l u = r := ⟨_, rfl⟩
        have HC : Hid (Calls Try.prog 34 #[.agg #[.int .i64 u.fn, .slice A1 u.args.length c1'], .slice Al l.length cl] wr.drew (RPlPost b0 r wr.drew)) := Lib.hid (by rw [← hr]; exact ih u hmem hszt A1 Al c1' cl b0 wr.drew hi64 hs1.out hs2.out hb0r)
        have Hr := Lib.hid hr
        have hSS : ∀ w', Below wr.heap.size wr w' → w'.cell? ⟨w.heap.size + 2, 1, none⟩ = some (.slice Av k cv) ∧ w'.cell? ⟨w.heap.size, 1, none⟩ = some (.slice (some ⟨bb, off, none⟩) xs.length c) ∧ w'.cell? ⟨bb, off + k * 2, none⟩ = some (.int .i64 u.fn) ∧ w'.cell? ⟨bb, off + k * 2 + 1, none⟩ = some (.slice A1 u.args.length c1') := fun w' h => ⟨cell_on h hbs c1, cell_on h (by omega) a1, cell_on h hbb e0, cell_on h hbb e1⟩
        have hne : ∀ g, g < w.heap.size + 3 → (Value.slice Av k cv).ownBlock ≠ some g := fun g h e => by have := (hrl g e).1; omega
        have hBX : ∀ w' : World, (∀ g, g < wr.heap.size → (Value.slice Av k cv).ownBlock ≠ some g → w'.heap[g]? = wr.heap[g]?) → w'.cell? ⟨w.heap.size + 2, 1, none⟩ = some (.slice Av k cv) ∧ w'.frozen? ⟨w.heap.size + 2, 1, none⟩ = false := fun w' h => ⟨(cell_of_heap (h _ hbs (hne _ (by omega)))).trans c1, ((show ∀ {w w' : World} {b o : Nat}, w'.heap[b]? = w.heap[b]? → w'.frozen? ⟨b, o, none⟩ = w.frozen? ⟨b, o, none⟩ from fun h => by simp [World.frozen?, h]) (h _ hbs (hne _ (by omega)))).trans g1⟩
        clear hu hsub hrow hr hs1 hs2
        go_wp2
        go_region_law
          (first
            | (go_simp
               go_at_call 34
               refine HC.out.mono ?_
               rintro e w4 ⟨A4, c4, rfl, hi4, hA4, hb4⟩
               have hB4 : Below wr.heap.size wr w4 := ⟨hb4.os, hb4.tape, hb4.output, hb4.size, hb4.block⟩
               have HA4 : Hid (ArgsK w4 (fun g => (g < b0 ∨ wr.heap.size ≤ g) ∧ g < w4.heap.size) A4 c4 r.args) := Lib.hid hA4
               obtain ⟨k4, _, _, _⟩ := hSS _ hB4
               obtain ⟨k4', _, _, _⟩ := hSS _ (hB4.alloc hB4.size (.cells #[.int .i64 r.fn, .slice A4 r.args.length c4] 27))
               clear hA4
               dsimp only)
            | (refine step_append_at rfl (.tmp 34) (.tmp 42) 25 rfl (w.heap.size + 3) 27 i0 (.agg #[.int .i64 0, .slice none 0 0]) 2 32 Try.underlying25 hi hz0 hz1 hz2 rfl (by decide) (.slice Av k cv) k _ (by simp [Act.eval]) (row_keep Hrow.out fun g e => (Below.heap_alloc w4 _ g (Nat.lt_of_lt_of_le (hrl g e).2 hB4.size)).trans (hB4.block g (hrl g e).2)) ⟨w4.heap.size, 0, none⟩ 1 1 [.int .i64 r.fn, .slice A4 r.args.length c4] (by simp [Act.eval]) rfl (cells_new_two _ _ _ _) (by simp [Value.oneCell']) (by unfold maxLen; omega) (by omega) (by have := hB4.size; simp; omega) ?_
               intro v5 w5 hown5 hgr5 hat5
               have hK5 : ∀ g, g < wr.heap.size → (Value.slice Av k cv).ownBlock ≠ some g → w5.heap[g]? = wr.heap[g]? := fun g h1 h2 => (hgr5.block g (by have := hB4.size; simp; omega) (fun e => h2 e.symm)).trans ((Below.heap_alloc w4 _ g (by have := hB4.size; omega)).trans (hB4.block g h1))
               obtain ⟨k1, kf⟩ := hBX w5 hK5
               obtain ⟨g5, cap5, hv5⟩ : ∃ g5 cap5, v5 = .slice (some ⟨g5, 0, none⟩) (k + 1) cap5 := by
                 rcases hown5.2 with ⟨_, h0⟩ | ⟨g, cap, cur, hv, _⟩
                 · omega
                 · exact ⟨g, cap, hv⟩
               have Hown5 := Lib.hid hown5
               have Hgr5 := Lib.hid hgr5
               have Hat5 := Lib.hid hat5
               subst hv5
               clear hown5 hgr5 hat5 hK5)
            | fail)
        all_goals
          have hst := H.out.next hb0 Hu.out Hr.out hi4 HA4.out hB4 Hown5.out Hgr5.out Hat5.out
          have hBe : Below (w.heap.size + 2) W w5 := ((hBr.trans (hB4.mono (by omega))).alloc (by have := hB4.size; omega) _).grown Hgr5.out (by have := hB4.size; simp; omega) (fun g e => by have := (hrl g e).1; omega)
          go_wp2
          go_roundw
          case rel => exact ⟨k + 1, _, _, by omega, by go_num, hBe.setCell (Nat.le_refl _) _, Lib.hid hst⟩
          case measure => simp [intOf]; omega
      · obtain rfl : k = xs.length := by omega
        have hrow := H.out.row.row
        have hll := H.out.len hk
        rw [hll] at hrow
        obtain ⟨Av, cv, hv⟩ := rowOwn hrow
        subst hv
        have hkey := Lib.hid H.out.key
        have HR := Lib.hid H.out.row
        obtain ⟨d0, d1, bg0, bg1⟩ := cells_two ((hBr.block _ (by omega)).trans q1)
        have hres := Lib.hid (show putT l (.node f xs) = .node f (putL l xs) by rw [putT, if_neg (by omega)])
        have Hll := Lib.hid hll
        clear hrow hll
        go_wp2
        have z1 : (wr.setCell ⟨w.heap.size + 1, 0, none⟩ (.int .i64 f)).heap[w.heap.size + 1]? = some (.cells #[.int .i64 f, .slice none 0 0] 27) := heap_setCell_same wr _ 0 _ _ _ ((hBr.block _ (by omega)).trans q1)
        have z2 : ((wr.setCell ⟨w.heap.size + 1, 0, none⟩ (.int .i64 f)).setCell ⟨w.heap.size + 1, 1, none⟩ (.slice Av xs.length cv)).heap[w.heap.size + 1]? = some (.cells #[.int .i64 f, .slice Av xs.length cv] 27) := heap_setCell_same _ _ 1 _ _ _ z1
        have p0 := (cells_two z1).1
        have p1 := (cells_two z2).2.1
        have hoth : ∀ g, g ≠ w.heap.size + 1 → ((wr.setCell ⟨w.heap.size + 1, 0, none⟩ (.int .i64 f)).setCell ⟨w.heap.size + 1, 1, none⟩ (.slice Av xs.length cv)).heap[g]? = wr.heap[g]? := fun g e => (heap_setCell_other _ _ _ _ e).trans (heap_setCell_other _ _ _ _ e)
        refine bodyPost_ret (v := .agg #[.int .i64 f, .slice Av xs.length cv]) (by simp [results, Try.results34, go_sem, p0, p1]) rfl ?_
        rw [hres.out]
        obtain ⟨A', c', he, hK⟩ := HR.out.argsK (M := fun g => ((g < b0 ∨ w.heap.size ≤ g) ∧ g ≠ w.heap.size + 1) ∧ g < wr.heap.size) (by rw [Hll.out]; omega) (fun g e => by have := row_lt HR.out.row g e; exact ⟨⟨.inr (by omega), by omega⟩, this.2⟩) (fun g hg => ⟨⟨hg.1.imp id (by omega), by have := hg.1; omega⟩, hg.2.1⟩)
        injection he with he1 _ he2
        subst he1 he2
        rw [hkey.out, List.take_length] at hK
        refine ⟨Av, cv, by show _ = Ending.returned (.agg #[.int .i64 f, .slice Av (putL l xs).length cv]); rw [putL_len], hf, (hK.keep fun g hg => hoth g hg.1.2).wide fun g hg => ⟨hg.1.1, by have := hg.2; simpa using this⟩, ?_⟩
        exact (hBw.setCell (by show _ ≤ w.heap.size + 1; omega) _).setCell (by show _ ≤ w.heap.size + 1; omega) _

end Go.Proofs.Ytnmpeodngipfcaa

/- lpo: kept under what is put in: plain. -/

namespace Go.Proofs.Ytnmpeodngipfcaa

open Go.RowKit
set_option maxRecDepth 20000

section

variable {p : List Int} {l : List Tm}

theorem putT_var' {t : Tm} (hw : vnT t = true) (hv : t.fn < 0) : putT l t = valT l t.fn := by
  obtain ⟨f, xs⟩ := t
  have := vn_var hw hv
  injection this with _ h
  subst h
  change f < 0 at hv
  rw [putT, if_pos hv]; rfl

theorem putL_inv {y' : Tm} : ∀ {ys : List Tm}, y' ∈ putL l ys → ∃ y ∈ ys, putT l y = y'
  | [], h => by simp [putL] at h
  | y :: ys, h => by
    rw [putL] at h
    rcases List.mem_cons.1 h with rfl | h
    · exact ⟨y, by simp, rfl⟩
    · obtain ⟨z, hz, e⟩ := putL_inv h
      exact ⟨z, by simp [hz], e⟩

theorem lp_putvar {v : Int} (hv : v < 0) : ∀ s : Tm, vnT s = true → vnT (putT l s) = true → ¬ s.fn < 0 → 0 < ofT v s → lpT p (putT l s) (valT l v) = true := by
  refine Tm.ind fun f xs ih hs hp hf ho => ?_
  change ¬ f < 0 at hf
  rw [ofT, if_neg (by omega)] at ho
  obtain ⟨x, hx, hox⟩ := of_mem (v := v) (xs := xs) (by omega)
  have hsx := vn_args hs hx
  rw [putT_sym hf] at hp ⊢
  have hm := putL_mem (l := l) hx
  by_cases hxf : x.fn < 0
  · have hxv : x.fn = v := by
      rw [vn_var hsx hxf, ofT, ofL] at hox
      by_cases e : x.fn = v
      · exact e
      · rw [if_neg e] at hox; omega
    refine lp_sub hp hm (.inl ?_)
    rw [putT_var' hsx hxf, hxv]
  · exact lp_sub hp hm (.inr (ih x hx hsx (vn_args hp hm) hxf hox))

theorem lexB_put {A B : Tm → Tm → Bool} : ∀ (xs ys : List Tm), (∀ x ∈ xs, ∀ y ∈ ys, A x y = true → B (putT l x) (putT l y) = true) → lexB A xs ys = true → lexB B (putL l xs) (putL l ys) = true
  | [], _, _, h => by rw [lexB] at h; cases h
  | _ :: _, [], _, _ => by rw [putL, putL, lexB]
  | x :: xs, y :: ys, ih, h => by
    rw [lexB, Bool.or_eq_true, Bool.and_eq_true, decide_eq_true_eq, cmp_zero_iff] at h
    rw [putL, putL, lexB, Bool.or_eq_true, Bool.and_eq_true, decide_eq_true_eq, cmp_zero_iff]
    rcases h with h | ⟨rfl, h⟩
    · exact .inl (ih x (by simp) y (by simp) h)
    · exact .inr ⟨rfl, lexB_put xs ys (fun a ha b hb => ih a (by simp [ha]) b (by simp [hb])) h⟩

/-- What is above stays above, whatever is put in. -/
theorem lp_put : ∀ (n : Nat) (s t : Tm), s.size + t.size ≤ n → vnT s = true → vnT t = true → vnT (putT l s) = true → vnT (putT l t) = true → lpT p s t = true → lpT p (putT l s) (putT l t) = true
  | 0, s, _, h, _, _, _, _, _ => by have := size_pos s; omega
  | n + 1, .node f xs, t, hn, hs, ht, ps, pt, h => by
    obtain ⟨hf, r⟩ := lp_iff.1 h
    have e1 := putT_sym (l := l) (xs := xs) hf
    have deep : ¬ t.fn < 0 → (∀ y ∈ t.args, lpT p (.node f xs) y = true) → ∃ ys, putT l t = .node t.fn (putL l ys) ∧ t.args = ys ∧ ∀ y ∈ putL l ys, lpT p (putT l (.node f xs)) y = true := fun htn ha => by
      obtain ⟨g, ys⟩ := t
      change ¬ g < 0 at htn
      refine ⟨ys, putT_sym htn, rfl, fun y' hy' => ?_⟩
      obtain ⟨y, hy, rfl⟩ := putL_inv hy'
      rw [putT_sym htn] at pt
      exact lp_put n _ y (by have := size_arg (f := g) hy; omega) hs (vn_args ht hy) ps (vn_args pt hy') (ha y hy)
    cases r with
    | var h ho =>
      rw [putT_var' ht h]
      exact lp_putvar h _ hs ps hf ho
    | sub x hx h =>
      rw [e1] at ps ⊢
      have hm := putL_mem (l := l) hx
      refine lp_sub ps hm ?_
      rcases h with rfl | h
      · exact .inl rfl
      · exact .inr (lp_put n x t (by have := size_arg (f := f) hx; omega) (vn_args hs hx) ht (vn_args ps hm) pt h)
    | rank htn ha hr =>
      obtain ⟨ys, e2, e3, hall⟩ := deep htn ha
      rw [e2, e1]
      rw [e1] at hall
      exact lp_iff.2 ⟨hf, .rank htn hall hr⟩
    | lex htn ha he hl =>
      obtain ⟨ys, e2, e3, hall⟩ := deep htn ha
      rw [e2] at pt ⊢
      rw [e1] at ps ⊢
      rw [e1] at hall
      rw [e3] at hl
      refine lp_iff.2 ⟨hf, .lex htn hall he (lexB_put xs ys (fun x hx y hy hxy => ?_) hl)⟩
      have hyt : y ∈ t.args := by rw [e3]; exact hy
      exact lp_put n x y (by have := size_arg (f := f) hx; have := size_args hyt; omega) (vn_args hs hx) (vn_arg ht hyt) (vn_args ps (putL_mem hx)) (vn_args pt (putL_mem hy)) hxy

end

end Go.Proofs.Ytnmpeodngipfcaa

/- boxes of two terms -/

namespace Go.Proofs.Ytnmpeodngipfcaa

open Go.RowKit Go.Shelf Go.Maps
set_option maxRecDepth 100000
set_option maxRecDepth 100000

theorem heap4 (w : World) (o0 o1 o2 o3 : Obj) : ((((w.alloc o0).alloc o1).alloc o2).alloc o3).heap[w.heap.size]? = some o0 ∧ ((((w.alloc o0).alloc o1).alloc o2).alloc o3).heap[w.heap.size + 1]? = some o1 ∧ ((((w.alloc o0).alloc o1).alloc o2).alloc o3).heap[w.heap.size + 2]? = some o2 ∧
    ((((w.alloc o0).alloc o1).alloc o2).alloc o3).heap[w.heap.size + 3]? = some o3 := by
  obtain ⟨a, b, c, d, _⟩ := heap5 w o0 o1 o2 o3 o3
  have s : ∀ (v : World) (o : Obj), (v.alloc o).heap.size = v.heap.size + 1 := fun v o => by simp
  refine ⟨(Below.heap_alloc _ _ _ (by simp only [s]; omega)).symm.trans a, (Below.heap_alloc _ _ _ (by simp only [s]; omega)).symm.trans b, (Below.heap_alloc _ _ _ (by simp only [s]; omega)).symm.trans c, (Below.heap_alloc _ _ _ (by simp only [s]; omega)).symm.trans d⟩

/-- The boxes of a signature, an order and two terms. -/
structure Box4 (w : World) (b : Nat) (o : Odr) (s t : Tm) (As P Q A A2 : Option Addr) (n cs pc qc c c2 : Nat) : Prop where
  so : BoxSO w b o As P Q n cs pc qc
  s0 : w.cell? ⟨b + 2, 0, none⟩ = some (.int .i64 s.fn)
  s1 : w.cell? ⟨b + 2, 1, none⟩ = some (.slice A s.args.length c)
  t0 : w.cell? ⟨b + 3, 0, none⟩ = some (.int .i64 t.fn)
  t1 : w.cell? ⟨b + 3, 1, none⟩ = some (.slice A2 t.args.length c2)

theorem box4_of {w W : World} {o : Odr} {s t : Tm} {As P Q A A2 : Option Addr} {n cs pc qc c c2 : Nat} (hW : ((((w.alloc (.cells #[.slice As n cs] 36)).alloc (.cells #[.bool o.lpo, .slice P o.prec.length pc, .slice Q o.wts.length qc, .int .i64 o.var] 24)).alloc (.cells #[.int .i64 s.fn, .slice A s.args.length c] 27)).alloc (.cells #[.int .i64 t.fn, .slice A2 t.args.length c2] 27)) = W) : Below w.heap.size w W ∧ ∀ w1, Below W.heap.size W w1 → Box4 w1 w.heap.size o s t As P Q A A2 n cs pc qc c c2 := by
  obtain ⟨q0, q1, q2, q3⟩ := heap4 w (.cells #[.slice As n cs] 36) (.cells #[.bool o.lpo, .slice P o.prec.length pc, .slice Q o.wts.length qc, .int .i64 o.var] 24) (.cells #[.int .i64 s.fn, .slice A s.args.length c] 27) (.cells #[.int .i64 t.fn, .slice A2 t.args.length c2] 27)
  rw [hW] at q0 q1 q2 q3
  have hz : w.heap.size + 4 = W.heap.size := by rw [← hW]; simp
  refine ⟨by rw [← hW]; exact ((((Below.refl _ _).alloc (Nat.le_refl _) _).alloc (by simp) _).alloc (by simp; omega) _).alloc (by simp; omega) _, fun w1 hb => ?_⟩
  obtain ⟨a0, a1, _, _⟩ := cells_two ((hb.block _ (by omega)).trans q2)
  obtain ⟨b0, b1, _, _⟩ := cells_two ((hb.block _ (by omega)).trans q3)
  exact ⟨boxSO_of ((hb.block _ (by omega)).trans q0) ((hb.block _ (by omega)).trans q1), a0, a1, b0, b1⟩

theorem putT_size (l : List Tm) (t : Tm) : (putT l t).size ≤ t.size * (1 + sizes l) := by
  refine Tm.ind (P := fun t => (putT l t).size ≤ t.size * (1 + sizes l)) (fun f xs ih => ?_) t
  have key : ∀ ys : List Tm, (∀ y ∈ ys, y ∈ xs) → sizes (putL l ys) ≤ sizes ys * (1 + sizes l) := by
    intro ys
    induction ys with
    | nil => intro _; simp [putL, sizes]
    | cons y ys ih2 =>
      intro h
      have h1 := ih y (h y (by simp))
      have h2 := ih2 fun z hz => h z (by simp [hz])
      rw [putL, sizes, sizes, Nat.add_mul]
      omega
  have hk := key xs fun _ h => h
  rw [putT, Tm.size]
  by_cases hf : f < 0
  · rw [if_pos hf]
    by_cases hl : -1 - f < (l.length : Int)
    · rw [if_pos hl]
      have : ∀ (k : Nat) (d : Tm), k < l.length → (l.getD k d).size ≤ sizes l := fun k d hk => by
        rw [List.getD_eq_getElem?_getD, List.getElem?_eq_getElem hk]
        exact size_mem (List.getElem_mem hk)
      have h1 := this (-1 - f).toNat (.node f []) (by omega)
      rw [Nat.add_mul]
      omega
    · rw [if_neg hl, Tm.size]
      exact Nat.le_mul_of_pos_right _ (by omega)
  · rw [if_neg hf, Tm.size, Nat.add_mul]
    omega

end Go.Proofs.Ytnmpeodngipfcaa

/- Two results of calls, kept in two new boxes, in whatever order the machine goes about it: for RZ's regions. -/

namespace Go.Proofs.Ytnmpeodngipfcaa

open Go Go.RowKit Go.Shelf Go.Maps
set_option maxRecDepth 100000

def Gt (v : Value) (T : Tm) (w : World) : Prop := v = undef ∨ ∃ A c, v = .agg #[.int .i64 T.fn, .slice A T.args.length c] ∧ I64 T.fn ∧ ArgsK w (· < w.heap.size) A c T.args

def Dj (b : Nat) (v : Value) (T : Tm) (w : World) : Prop := v = undef ∨ ∃ A c, v = .agg #[.int .i64 T.fn, .slice A T.args.length c] ∧ ArgsK w (fun g => g < w.heap.size ∧ g ≠ b) A c T.args

structure Zb (b0 : Nat) (v : Value) (w : World) (b : Nat) : Prop where
  v : v = .pointer (some ⟨b, 0, none⟩)
  ge : b0 ≤ b
  z : w.heap[b]? = some (.cells #[.int .i64 0, .slice none 0 0] 27)

theorem Gt.on {v : Value} {T : Tm} {w w' : World} (h : Gt v T w) (hb : Below w.heap.size w w') : Gt v T w' := h.imp id fun ⟨A, c, hv, hi, hA⟩ => ⟨A, c, hv, hi, hA.on hb⟩

theorem Dj.on {b : Nat} {v : Value} {T : Tm} {w w' : World} (h : Dj b v T w) (hb : Below w.heap.size w w') : Dj b v T w' := h.imp id fun ⟨A, c, hv, hA⟩ => ⟨A, c, hv, (hA.keep fun g e => hb.block g e.1).wide fun _ e => ⟨Nat.lt_of_lt_of_le e.1 hb.size, e.2⟩⟩

theorem Zb.lt {b0 : Nat} {v : Value} {w : World} {b : Nat} (h : Zb b0 v w b) : b < w.heap.size := (Array.getElem?_eq_some_iff.1 h.z).1

theorem Zb.on {b0 : Nat} {v : Value} {w w' : World} {b : Nat} (h : Zb b0 v w b) (hb : Below w.heap.size w w') : Zb b0 v w' b := ⟨h.v, h.ge, (hb.block b h.lt).trans h.z⟩

/-- What is said of the four slots together. -/
structure RR (b0 x1 x2 y1 y2 : Nat) (T1 T2 : Tm) (a : Act) (w : World) : Prop where
  g1 : Gt (a.eval (.tmp y1)) T1 w
  g2 : Gt (a.eval (.tmp y2)) T2 w
  p1 : a.eval (.tmp x1) = undef ∨ ∃ b, Zb b0 (a.eval (.tmp x1)) w b ∧ Dj b (a.eval (.tmp y1)) T1 w ∧ Dj b (a.eval (.tmp y2)) T2 w
  p2 : a.eval (.tmp x2) = undef ∨ ∃ b, Zb b0 (a.eval (.tmp x2)) w b ∧ Dj b (a.eval (.tmp y1)) T1 w ∧ Dj b (a.eval (.tmp y2)) T2 w
  ne : ∀ b, a.eval (.tmp x1) = .pointer (some ⟨b, 0, none⟩) → a.eval (.tmp x2) ≠ .pointer (some ⟨b, 0, none⟩)

section

variable {b0 x1 x2 y1 y2 : Nat} {T1 T2 : Tm} {a : Act} {w : World}

theorem RR.swapX (h : RR b0 x1 x2 y1 y2 T1 T2 a w) : RR b0 x2 x1 y1 y2 T1 T2 a w := ⟨h.g1, h.g2, h.p2, h.p1, fun b e1 e2 => h.ne b e2 e1⟩

theorem RR.swapY (h : RR b0 x1 x2 y1 y2 T1 T2 a w) : RR b0 x1 x2 y2 y1 T2 T1 a w := ⟨h.g2, h.g1, h.p1.imp id fun ⟨b, h1, h2, h3⟩ => ⟨b, h1, h3, h2⟩, h.p2.imp id fun ⟨b, h1, h2, h3⟩ => ⟨b, h1, h3, h2⟩, h.ne⟩

theorem eval_put_ne {a : Act} {d x : Nat} {v : Value} (h : d ≠ x) : (a.put (some d) v).eval (.tmp x) = a.eval (.tmp x) := by
  simp [Act.put, Act.eval, Array.getElem?_setIfInBounds_ne h]

theorem eval_put_eq {a : Act} {d : Nat} {v : Value} (h : d < a.tmps.size) : (a.put (some d) v).eval (.tmp d) = v := by simp [Act.put, Act.eval, h]

theorem RR.other {d : Nat} {v : Value} {w' : World} (h : RR b0 x1 x2 y1 y2 T1 T2 a w) (hb : Below w.heap.size w w') (h1 : d ≠ x1) (h2 : d ≠ x2) (h3 : d ≠ y1) (h4 : d ≠ y2) : RR b0 x1 x2 y1 y2 T1 T2 (a.put (some d) v) w' := by
  refine ⟨?_, ?_, ?_, ?_, ?_⟩
  all_goals simp only [eval_put_ne h1, eval_put_ne h2, eval_put_ne h3, eval_put_ne h4]
  · exact h.g1.on hb
  · exact h.g2.on hb
  · exact h.p1.imp id fun ⟨b, e1, e2, e3⟩ => ⟨b, e1.on hb, e2.on hb, e3.on hb⟩
  · exact h.p2.imp id fun ⟨b, e1, e2, e3⟩ => ⟨b, e1.on hb, e2.on hb, e3.on hb⟩
  · exact h.ne

/-- A new box. -/
theorem RR.box (h : RR b0 x1 x2 y1 y2 T1 T2 a w) (hx : x1 < a.tmps.size) (h2 : x1 ≠ x2) (h3 : x1 ≠ y1) (h4 : x1 ≠ y2) (hb0 : b0 ≤ w.heap.size) :
    RR b0 x1 x2 y1 y2 T1 T2 (a.put (some x1) (.pointer (some ⟨w.heap.size, 0, none⟩))) (w.alloc (.cells #[.int .i64 0, .slice none 0 0] 27)) := by
  have hb : Below w.heap.size w (w.alloc (.cells #[.int .i64 0, .slice none 0 0] 27)) := (Below.refl _ _).alloc (Nat.le_refl _) _
  have hD : ∀ (v : Value) (T : Tm), Gt v T w → Dj w.heap.size v T (w.alloc (.cells #[.int .i64 0, .slice none 0 0] 27)) := fun v T hg => hg.imp id fun ⟨A, c, hv, _, hA⟩ => ⟨A, c, hv, (hA.keep fun g e => hb.block g e).wide fun _ e => ⟨Nat.lt_of_lt_of_le e hb.size, Nat.ne_of_lt e⟩⟩
  refine ⟨?_, ?_, ?_, ?_, ?_⟩
  all_goals simp only [eval_put_ne h2, eval_put_ne h3, eval_put_ne h4, eval_put_eq hx]
  · exact h.g1.on hb
  · exact h.g2.on hb
  · exact .inr ⟨w.heap.size, ⟨rfl, hb0, heap_alloc_new w _⟩, hD _ _ h.g1, hD _ _ h.g2⟩
  · exact h.p2.imp id fun ⟨b, e1, e2, e3⟩ => ⟨b, e1.on hb, e2.on hb, e3.on hb⟩
  · intro b e e2
    injection e with e
    injection e with e
    injection e with e
    rcases h.p2 with h0 | ⟨b', hz, _, _⟩
    · rw [h0] at e2; exact absurd e2 (by simp [undef])
    · have h1 := hz.lt
      rw [hz.v] at e2
      injection e2 with e2
      injection e2 with e2
      injection e2 with e2
      omega

/-- A result. -/
theorem RR.res {w' : World} {A : Option Addr} {c : Nat} (h : RR b0 x1 x2 y1 y2 T1 T2 a w) (hy : y1 < a.tmps.size) (h1 : y1 ≠ x1) (h2 : y1 ≠ x2) (h4 : y1 ≠ y2) (hb : Below w.heap.size w w') (hi : I64 T1.fn) (hA : ArgsK w' (fun g => (g < b0 ∨ w.heap.size ≤ g) ∧ g < w'.heap.size) A c T1.args) :
    RR b0 x1 x2 y1 y2 T1 T2 (a.put (some y1) (.agg #[.int .i64 T1.fn, .slice A T1.args.length c])) w' := by
  have hD : ∀ b, b0 ≤ b → b < w.heap.size → Dj b (.agg #[.int .i64 T1.fn, .slice A T1.args.length c]) T1 w' := fun b e1 e2 => .inr ⟨A, c, rfl, hA.wide fun g e => ⟨e.2, by have := e.1; omega⟩⟩
  refine ⟨?_, ?_, ?_, ?_, ?_⟩
  all_goals simp only [eval_put_ne h1, eval_put_ne h2, eval_put_ne h4, eval_put_eq hy]
  · exact .inr ⟨A, c, rfl, hi, hA.wide fun g e => e.2⟩
  · exact h.g2.on hb
  · exact h.p1.imp id fun ⟨b, e1, e2, e3⟩ => ⟨b, e1.on hb, hD b e1.ge e1.lt, e3.on hb⟩
  · exact h.p2.imp id fun ⟨b, e1, e2, e3⟩ => ⟨b, e1.on hb, hD b e1.ge e1.lt, e3.on hb⟩
  · exact h.ne

end

/-- Not undef. -/
def Fct.has : Fct := ⟨fun v _ => v ≠ undef, fun h _ => h⟩

section

variable {b0 x1 x2 y1 y2 n : Nat} {T1 T2 : Tm} {Fs : List Fct} {a0 : Act} {W : World} {d : Nat} {ty : TypeId} {pos : String} {after : Array Edge}

theorem sg_load {s b : Nat} {x y : Value} (hs : a0.eval (.tmp s) = .pointer (some ⟨b, 0, none⟩)) (hW : W.heap[b]? = some (.cells #[x, y] 27)) (h1 : d ≠ x1) (h2 : d ≠ x2) (h3 : d ≠ y1) (h4 : d ≠ y2) :
    stepG Try.prog (RR b0 x1 x2 y1 y2 T1 T2) n Fs a0 W ⟨some d, .load 27 (.tmp s), ty, pos, after, none⟩ [(s, none)] (Fct.eq (.agg #[x, y])) := by
  refine ⟨rfl, fun a w hb hn hl hR => ?_⟩
  have e1 := ev_get (hl.1.trans hs)
  obtain ⟨c0, c1, _, _⟩ := cells_two ((hb.block b (Array.getElem?_eq_some_iff.1 hW).1).trans hW)
  simp [go_sem, leaves, e1, c0, c1]
  exact ⟨Below.refl _ _, rfl, hR.other (Below.refl _ _) h1 h2 h3 h4⟩

theorem sg_move {s : Nat} {v : Value} (hs : a0.eval (.tmp s) = v) (h1 : d ≠ x1) (h2 : d ≠ x2) (h3 : d ≠ y1) (h4 : d ≠ y2) :
    stepG Try.prog (RR b0 x1 x2 y1 y2 T1 T2) n Fs a0 W ⟨some d, .move (.tmp s), ty, pos, after, none⟩ [(s, none)] (Fct.eq v) := by
  refine ⟨rfl, fun a w hb hn hl hR => ?_⟩
  have e1 := ev_get (hl.1.trans hs)
  simp [go_sem, leaves, e1]
  exact ⟨Below.refl _ _, rfl, hR.other (Below.refl _ _) h1 h2 h3 h4⟩

theorem sg_box1 (hd : x1 < n) (h2 : x1 ≠ x2) (h3 : x1 ≠ y1) (h4 : x1 ≠ y2) (hb0 : b0 ≤ W.heap.size) :
    stepG Try.prog (RR b0 x1 x2 y1 y2 T1 T2) n Fs a0 W ⟨some x1, .alloc 27, ty, pos, after, none⟩ [] Fct.has := by
  refine ⟨rfl, fun a w hb hn hl hR => ?_⟩
  simp [go_sem, leaves]
  exact ⟨(Below.refl _ _).alloc (Nat.le_refl _) _, by simp [Fct.has, undef], hR.box (by rw [hn]; exact hd) h2 h3 h4 (Nat.le_trans hb0 hb.size)⟩

theorem sg_box2 (hd : x2 < n) (h2 : x2 ≠ x1) (h3 : x2 ≠ y1) (h4 : x2 ≠ y2) (hb0 : b0 ≤ W.heap.size) :
    stepG Try.prog (RR b0 x1 x2 y1 y2 T1 T2) n Fs a0 W ⟨some x2, .alloc 27, ty, pos, after, none⟩ [] Fct.has := by
  refine ⟨rfl, fun a w hb hn hl hR => ?_⟩
  simp [go_sem, leaves]
  exact ⟨(Below.refl _ _).alloc (Nat.le_refl _) _, by simp [Fct.has, undef], (hR.swapX.box (by rw [hn]; exact hd) h2 h3 h4 (Nat.le_trans hb0 hb.size)).swapX⟩

theorem sg_call1 {f s s' j j' : Nat} {v v' : Value} {t t' : TypeId} (hent : Go.Proofs.Enters Try.prog f) (hC : ∀ w, Below W.heap.size W w → Calls Try.prog f #[v, v'] w (RPlPost b0 T1 w)) (hF : Fs.getD j Fct.any = Fct.eq v) (hF' : Fs.getD j' Fct.any = Fct.eq v') (hd : y1 < n) (h1 : y1 ≠ x1) (h2 : y1 ≠ x2) (h4 : y1 ≠ y2) :
    stepG Try.prog (RR b0 x1 x2 y1 y2 T1 T2) n Fs a0 W ⟨some y1, .call ⟨.value (.func f), #[.tmp s, .tmp s'], #[t, t']⟩, ty, pos, after, none⟩ [(s, some j), (s', some j')] Fct.has := by
  refine ⟨rfl, fun a w hb hn hl hR => ?_⟩
  obtain ⟨h5, h6, _⟩ := hl
  rw [hF] at h5
  rw [hF'] at h6
  have e1 := ev_get h5
  have e2 := ev_get h6
  have he := hent #[v, v'] w
  simp [go_sem, leaves, e1, e2, he]
  refine (hC w hb).mono fun e w' ⟨A, c, he', hi, hA, hbw⟩ => ?_
  exact ⟨_, he', hbw, by simp [Fct.has, undef], hR.res (by rw [hn]; exact hd) h1 h2 h4 hbw hi hA⟩

theorem sg_call2 {f s s' j j' : Nat} {v v' : Value} {t t' : TypeId} (hent : Go.Proofs.Enters Try.prog f) (hC : ∀ w, Below W.heap.size W w → Calls Try.prog f #[v, v'] w (RPlPost b0 T2 w)) (hF : Fs.getD j Fct.any = Fct.eq v) (hF' : Fs.getD j' Fct.any = Fct.eq v') (hd : y2 < n) (h1 : y2 ≠ x1) (h2 : y2 ≠ x2) (h4 : y2 ≠ y1) :
    stepG Try.prog (RR b0 x1 x2 y1 y2 T1 T2) n Fs a0 W ⟨some y2, .call ⟨.value (.func f), #[.tmp s, .tmp s'], #[t, t']⟩, ty, pos, after, none⟩ [(s, some j), (s', some j')] Fct.has := by
  refine ⟨rfl, fun a w hb hn hl hR => ?_⟩
  obtain ⟨h5, h6, _⟩ := hl
  rw [hF] at h5
  rw [hF'] at h6
  have e1 := ev_get h5
  have e2 := ev_get h6
  have he := hent #[v, v'] w
  simp [go_sem, leaves, e1, e2, he]
  refine (hC w hb).mono fun e w' ⟨A, c, he', hi, hA, hbw⟩ => ?_
  exact ⟨_, he', hbw, by simp [Fct.has, undef], (hR.swapY.res (by rw [hn]; exact hd) h1 h2 h4 hbw hi hA).swapY⟩

end

/-- What the two stores leave. -/
structure TwoB (W : World) (b0 bx by' : Nat) (T1 T2 : Tm) (A1 A2 : Option Addr) (c1 c2 : Nat) (w : World) : Prop where
  blw : Below b0 W w
  bx : w.heap[bx]? = some (.cells #[.int .i64 T1.fn, .slice A1 T1.args.length c1] 27)
  by' : w.heap[by']? = some (.cells #[.int .i64 T2.fn, .slice A2 T2.args.length c2] 27)
  k1 : TmK w T1 A1 c1
  k2 : TmK w T2 A2 c2

theorem two_stored {W w : World} {b0 bx by' : Nat} {T1 T2 : Tm} {A1 A2 : Option Addr} {c1 c2 : Nat} (hb : Below b0 W w) (hx : b0 ≤ bx) (hy : b0 ≤ by') (hne : bx ≠ by') (zx : w.heap[bx]? = some (.cells #[.int .i64 0, .slice none 0 0] 27)) (zy : w.heap[by']? = some (.cells #[.int .i64 0, .slice none 0 0] 27))
    (i1 : I64 T1.fn) (i2 : I64 T2.fn) (h1 : ArgsK w (fun g => g < w.heap.size ∧ g ≠ bx ∧ g ≠ by') A1 c1 T1.args) (h2 : ArgsK w (fun g => g < w.heap.size ∧ g ≠ bx ∧ g ≠ by') A2 c2 T2.args) :
    TwoB W b0 bx by' T1 T2 A1 A2 c1 c2 ((((w.setCell ⟨bx, 0, none⟩ (.int .i64 T1.fn)).setCell ⟨bx, 1, none⟩ (.slice A1 T1.args.length c1)).setCell ⟨by', 0, none⟩ (.int .i64 T2.fn)).setCell ⟨by', 1, none⟩ (.slice A2 T2.args.length c2)) := by
  have e1 : (w.setCell ⟨bx, 0, none⟩ (.int .i64 T1.fn)).heap[bx]? = some (.cells #[.int .i64 T1.fn, .slice none 0 0] 27) := heap_setCell_same w _ 0 _ _ _ zx
  have e2 : ((w.setCell ⟨bx, 0, none⟩ (.int .i64 T1.fn)).setCell ⟨bx, 1, none⟩ (.slice A1 T1.args.length c1)).heap[bx]? = some (.cells #[.int .i64 T1.fn, .slice A1 T1.args.length c1] 27) := heap_setCell_same _ _ 1 _ _ _ e1
  have hoth : ∀ g, g ≠ bx → ((w.setCell ⟨bx, 0, none⟩ (.int .i64 T1.fn)).setCell ⟨bx, 1, none⟩ (.slice A1 T1.args.length c1)).heap[g]? = w.heap[g]? := fun g e => (heap_setCell_other _ _ _ _ e).trans (heap_setCell_other _ _ _ _ e)
  generalize hV : (w.setCell ⟨bx, 0, none⟩ (.int .i64 T1.fn)).setCell ⟨bx, 1, none⟩ (.slice A1 T1.args.length c1) = V at *
  have e3 : (V.setCell ⟨by', 0, none⟩ (.int .i64 T2.fn)).heap[by']? = some (.cells #[.int .i64 T2.fn, .slice none 0 0] 27) := heap_setCell_same V _ 0 _ _ _ ((hoth by' (fun e => hne e.symm)).trans zy)
  have e4 : ((V.setCell ⟨by', 0, none⟩ (.int .i64 T2.fn)).setCell ⟨by', 1, none⟩ (.slice A2 T2.args.length c2)).heap[by']? = some (.cells #[.int .i64 T2.fn, .slice A2 T2.args.length c2] 27) := heap_setCell_same _ _ 1 _ _ _ e3
  have hoth2 : ∀ g, g ≠ by' → ((V.setCell ⟨by', 0, none⟩ (.int .i64 T2.fn)).setCell ⟨by', 1, none⟩ (.slice A2 T2.args.length c2)).heap[g]? = V.heap[g]? := fun g e => (heap_setCell_other _ _ _ _ e).trans (heap_setCell_other _ _ _ _ e)
  have hbV : Below b0 W V := by rw [← hV]; exact (hb.setCell hx _).setCell hx _
  have hsz : V.heap.size = w.heap.size := by rw [← hV]; simp
  have hsz2 : ((V.setCell ⟨by', 0, none⟩ (.int .i64 T2.fn)).setCell ⟨by', 1, none⟩ (.slice A2 T2.args.length c2)).heap.size = w.heap.size := by simp [hsz]
  have hk : ∀ g, (g < w.heap.size ∧ g ≠ bx ∧ g ≠ by') → ((V.setCell ⟨by', 0, none⟩ (.int .i64 T2.fn)).setCell ⟨by', 1, none⟩ (.slice A2 T2.args.length c2)).heap[g]? = w.heap[g]? := fun g e => (hoth2 g e.2.2).trans (hoth g e.2.1)
  refine ⟨(hbV.setCell hy _).setCell hy _, (hoth2 bx hne).trans e2, e4, ⟨i1, (h1.keep hk).wide fun g e => ?_⟩, ⟨i2, (h2.keep hk).wide fun g e => ?_⟩⟩
  · rw [hsz2]; exact e.1
  · rw [hsz2]; exact e.1

theorem ArgsK.and {w : World} {N M : Nat → Prop} {A : Option Addr} {c : Nat} {xs : List Tm} (h : ArgsK w N A c xs) : ArgsK w M A c xs → ArgsK w (fun g => N g ∧ M g) A c xs := by
  induction h with
  | nil A c => intro _; exact .nil _ _
  | row b off c xs A' c' hc hb hlen hi h0 h1 hs ih =>
    intro h2
    cases h2 with
    | nil => exact .nil _ _
    | row _ _ _ _ A2 c2 hc2 hb2 hlen2 hi2 k0 k1 ks =>
      refine .row b off c xs A' c' hc ⟨hb, hb2⟩ hlen hi h0 h1 fun i t e => ?_
      have e1 := h1 i t e
      have e2 := k1 i t e
      rw [e1] at e2
      injection e2 with e2
      injection e2 with ea _ ec
      exact ih i t e (by rw [ea, ec]; exact ks i t e)

/-- What the slots hold when all have come up. -/
structure TwoV (b0 : Nat) (T1 T2 : Tm) (u1 u2 v1 v2 : Value) (bx by' : Nat) (A1 A2 : Option Addr) (c1 c2 : Nat) (w : World) : Prop where
  x1 : u1 = .pointer (some ⟨bx, 0, none⟩)
  x2 : u2 = .pointer (some ⟨by', 0, none⟩)
  y1 : v1 = .agg #[.int .i64 T1.fn, .slice A1 T1.args.length c1]
  y2 : v2 = .agg #[.int .i64 T2.fn, .slice A2 T2.args.length c2]
  gx : b0 ≤ bx
  gy : b0 ≤ by'
  ne : bx ≠ by'
  zx : w.heap[bx]? = some (.cells #[.int .i64 0, .slice none 0 0] 27)
  zy : w.heap[by']? = some (.cells #[.int .i64 0, .slice none 0 0] 27)
  i1 : I64 T1.fn
  i2 : I64 T2.fn
  k1 : ArgsK w (fun g => g < w.heap.size ∧ g ≠ bx ∧ g ≠ by') A1 c1 T1.args
  k2 : ArgsK w (fun g => g < w.heap.size ∧ g ≠ bx ∧ g ≠ by') A2 c2 T2.args

theorem dj_both {bx by' : Nat} {T : Tm} {A : Option Addr} {c : Nat} {w : World} (h1 : Dj bx (.agg #[.int .i64 T.fn, .slice A T.args.length c]) T w) (h2 : Dj by' (.agg #[.int .i64 T.fn, .slice A T.args.length c]) T w) : ArgsK w (fun g => g < w.heap.size ∧ g ≠ bx ∧ g ≠ by') A c T.args := by
  have key : ∀ b, Dj b (.agg #[.int .i64 T.fn, .slice A T.args.length c]) T w → ArgsK w (fun g => g < w.heap.size ∧ g ≠ b) A c T.args := fun b h => by
    rcases h with h | ⟨A', c', h, hA⟩
    · exact absurd h (by simp [undef])
    · simp only [Value.agg.injEq, Array.mk.injEq, List.cons.injEq, Value.slice.injEq, and_true, true_and] at h
      obtain ⟨rfl, rfl⟩ := h
      exact hA
  exact ((key bx h1).and (key by' h2)).wide fun g e => ⟨e.1.1, e.1.2, e.2.2⟩

theorem two_of {b0 : Nat} {T1 T2 : Tm} {u1 u2 v1 v2 : Value} {w : World} (g1 : Gt v1 T1 w) (g2 : Gt v2 T2 w) (p1 : u1 = undef ∨ ∃ b, Zb b0 u1 w b ∧ Dj b v1 T1 w ∧ Dj b v2 T2 w) (p2 : u2 = undef ∨ ∃ b, Zb b0 u2 w b ∧ Dj b v1 T1 w ∧ Dj b v2 T2 w) (ne : ∀ b, u1 = .pointer (some ⟨b, 0, none⟩) → u2 ≠ .pointer (some ⟨b, 0, none⟩))
    (h1 : u1 ≠ undef) (h2 : u2 ≠ undef) (h3 : v1 ≠ undef) (h4 : v2 ≠ undef) : ∃ bx by' A1 A2 c1 c2, TwoV b0 T1 T2 u1 u2 v1 v2 bx by' A1 A2 c1 c2 w := by
  rcases p1 with h | ⟨bx, zx, d1, d2⟩
  · exact absurd h h1
  rcases p2 with h | ⟨by', zy, d3, d4⟩
  · exact absurd h h2
  rcases g1 with h | ⟨A1, c1, rfl, i1, _⟩
  · exact absurd h h3
  rcases g2 with h | ⟨A2, c2, rfl, i2, _⟩
  · exact absurd h h4
  exact ⟨bx, by', A1, A2, c1, c2, zx.v, zy.v, rfl, rfl, zx.ge, zy.ge, fun e => ne bx zx.v (by rw [e]; exact zy.v), zx.z, zy.z, i1, i2, dj_both d1 d3, dj_both d2 d4⟩

theorem tail_stores {Q : Exit → Act → World → Prop} {a : Act} {w : World} {x1 x2 y1 y2 bx by' : Nat} {j1 j2 : Int} {B1 B2 : Option Addr} {m1 m2 c1 c2 : Nat} {ty ty2 : TypeId} {pos pos2 : String} {after after2 : Array Edge} {g g2 : Option (Nat × Bool)}
    (hx : a.eval (.tmp x1) = .pointer (some ⟨bx, 0, none⟩)) (hy : a.eval (.tmp x2) = .pointer (some ⟨by', 0, none⟩)) (h1 : a.eval (.tmp y1) = .agg #[(.int .i64 j1), (.slice B1 m1 c1)]) (h2 : a.eval (.tmp y2) = .agg #[(.int .i64 j2), (.slice B2 m2 c2)])
    (zx : w.heap[bx]? = some (.cells #[.int .i64 0, .slice none 0 0] 27)) (zy : w.heap[by']? = some (.cells #[.int .i64 0, .slice none 0 0] 27)) (hne : bx ≠ by')
    (h : Q .normal a ((((w.setCell ⟨bx, 0, none⟩ (.int .i64 j1)).setCell ⟨bx, 1, none⟩ (.slice B1 m1 c1)).setCell ⟨by', 0, none⟩ (.int .i64 j2)).setCell ⟨by', 1, none⟩ (.slice B2 m2 c2))) :
    TailS Try.prog Q [⟨none, .store 27 (.tmp x1) (.tmp y1), ty, pos, after, g⟩, ⟨none, .store 27 (.tmp x2) (.tmp y2), ty2, pos2, after2, g2⟩] a w := by
  have e1 := ev_get hx
  have e2 := ev_get hy
  have e3 := ev_get h1
  have e4 := ev_get h2
  obtain ⟨z0, z1, f0, f1⟩ := cells_two zx
  have zy' : ((w.setCell ⟨bx, 0, none⟩ (.int .i64 j1)).setCell ⟨bx, 1, none⟩ (.slice B1 m1 c1)).heap[by']? = some (.cells #[.int .i64 0, .slice none 0 0] 27) := ((heap_setCell_other _ _ _ _ (fun e => hne e.symm)).trans (heap_setCell_other _ _ _ _ (fun e => hne e.symm))).trans zy
  obtain ⟨d0, d1, k0, k1⟩ := cells_two zy'
  refine ⟨?_⟩
  unfold tailWp Oper.wp
  simp [go_sem, e1, e3, z0, z1, f0, f1, Oper.upon, Act.put]
  unfold tailWp Oper.wp
  simp [go_sem, e2, e4, d0, d1, k0, k1, Oper.upon, Act.put]
  unfold tailWp
  exact h

end Go.Proofs.Ytnmpeodngipfcaa

