import Derived.Test.YtbchignbndgigaaP20Z2
import Derived.Test.YtbchignbndgigaaP20Z1
import Derived.Test.YtbchignbndgigaaP17Z1
import Derived.Test.YtbchignbndgigaaP17Z6
import Derived.Test.YtbchignbndgigaaRows
/- The document's own Places, again: its rows have room for what they hold. (gen_ek.py) -/

namespace Go.Proofs.Ytbchignbndgigaa

open Go.RowKit Go.Shelf
set_option maxRecDepth 100000

structure PkFxK (w : World) (N : Nat → Prop) (x : Pk) : Prop where
  pos : IntsN w N x.Ap x.p
  i64 : I64 x.t.fn
  args : ArgsK w N x.A x.c x.t.args

theorem PkFxK.keep {w w' : World} {N : Nat → Prop} {x : Pk} (h : PkFxK w N x) (hk : ∀ g, N g → w'.heap[g]? = w.heap[g]?) : PkFxK w' N x := ⟨h.pos.keep hk, h.i64, h.args.keep hk⟩

theorem PkFxK.wide {w : World} {N M : Nat → Prop} {x : Pk} (h : PkFxK w N x) (hk : ∀ g, N g → M g) : PkFxK w M x := ⟨h.pos.wide hk, h.i64, h.args.wide hk⟩

/-- The slice v is the call's own; it holds the places l, whose numbers and terms lie in N's blocks. -/
structure RowPK (w : World) (base : Nat) (v : Value) (l : List Pk) (N : Nat → Prop) : Prop where
  row : w.ownsRow base 45 3 v l.length (l.flatMap Pk.cells)
  fx : ∀ x ∈ l, PkFxK w N x

section

variable {w w' : World} {base : Nat} {v : Value} {l : List Pk} {N M : Nat → Prop}

theorem RowPK.keep (h : RowPK w base v l N) (hv : ∀ g, v.ownBlock = some g → w'.heap[g]? = w.heap[g]?) (hN : ∀ g, N g → w'.heap[g]? = w.heap[g]?) : RowPK w' base v l N :=
  ⟨row_keep h.row hv, fun x hx => (h.fx x hx).keep hN⟩

theorem RowPK.wide (h : RowPK w base v l N) (hk : ∀ g, N g → M g) : RowPK w base v l M := ⟨h.row, fun x hx => (h.fx x hx).wide hk⟩

theorem RowPK.shape (h : RowPK w base v l N) : ∃ A c, v = .slice A l.length c := by
  rcases h.row.2 with ⟨hv, h0⟩ | ⟨g, cap, cur, hv, _⟩
  · exact ⟨none, 0, by rw [hv, h0]⟩
  · exact ⟨_, cap, hv⟩

/-- One of the places, read. -/
theorem RowPK.get (h : RowPK w base v l N) {i : Nat} {x : Pk} (hx : l[i]? = some x) : ∃ g c, v = .slice (some ⟨g, 0, none⟩) l.length c ∧ v.ownBlock = some g ∧ g < w.heap.size ∧ w.cell? ⟨g, i * 3, none⟩ = some (.slice x.Ap x.p.length x.cp) ∧ w.cell? ⟨g, i * 3 + 1, none⟩ = some (.int .i64 x.t.fn) ∧ w.cell? ⟨g, i * 3 + 2, none⟩ = some (.slice x.A x.t.args.length x.c) ∧ PkFxK w N x := by
  have hlt := (List.getElem?_eq_some_iff.1 hx).1
  rcases h.row.2 with ⟨_, h0⟩ | ⟨g, cap, cur, rfl, hb, hg, _⟩
  · omega
  · refine ⟨g, cap, rfl, rfl, (Array.getElem?_eq_some_iff.1 hg).1, ?_, ?_, ?_, h.fx x (List.mem_of_getElem? hx)⟩
    · have hq := pk_get l i 0 (by omega)
      rw [Nat.add_zero, hx] at hq
      rw [h.row.cellAt (i * 3) (by omega), hq]
      rfl
    · have hq := pk_get l i 1 (by omega)
      rw [hx] at hq
      rw [h.row.cellAt (i * 3 + 1) (by omega), hq]
      rfl
    · have hq := pk_get l i 2 (by omega)
      rw [hx] at hq
      rw [h.row.cellAt (i * 3 + 2) (by omega), hq]
      rfl

/-- One more. -/
theorem RowPK.push {x : Pk} {v' : Value} (h : RowPK w base v l N) (hrow : w'.ownsRow base 45 3 v' (l.length + 1) (l.flatMap Pk.cells ++ x.cells)) (hx : PkFxK w' M x) (hk : ∀ g, N g → w'.heap[g]? = w.heap[g]?) (hNM : ∀ g, N g → M g) : RowPK w' base v' (l ++ [x]) M := by
  refine ⟨?_, ?_⟩
  · rw [List.length_append, List.flatMap_append]
    simpa using hrow
  · intro y hy
    rcases List.mem_append.1 hy with hy | hy
    · exact ((h.fx y hy).keep hk).wide hNM
    · simp only [List.mem_cons, List.not_mem_nil, or_false] at hy
      subst hy; exact hx

end

/-- One place more, behind an append. -/
theorem RowPK.grow {w2 w3 w5 : World} {lo : Nat} {v v5 : Value} {L : List Pk} {x : Pk} {o : Obj} (h : RowPK w2 lo v L (Apart lo v w2)) (hb : Below w2.heap.size w2 w3) (hx : PkFxK w3 (Apart lo v w3) x)
    (hown : w5.ownsRow lo 45 3 v5 (L.length + 1) (L.flatMap Pk.cells ++ x.cells)) (hgr : (w3.alloc o).grownBy w5 v.ownBlock) (hat : v5.ownBlock = v.ownBlock ∨ v5.ownBlock = some (w3.alloc o).heap.size) :
    RowPK w5 lo v5 (L ++ [x]) (Apart lo v5 w5) := by
  have hlt := row_lt h.row
  have hs3 := hb.size
  have hs5 := hgr.size
  simp at hs5
  have hK : ∀ g, g < w3.heap.size → v.ownBlock ≠ some g → w5.heap[g]? = w3.heap[g]? := fun g h1 h2 => (hgr.block g (by simp; omega) (fun e => h2 e.symm)).trans (Below.heap_alloc w3 o g h1)
  have hNM : ∀ g, Apart lo v w3 g → Apart lo v5 w5 g := fun g e => ⟨e.1, by have := e.2.1; omega, fun e2 => by
    rcases hat with h3 | h3
    · rw [h3] at e2; exact e.2.2 e2
    · rw [h3] at e2; injection e2 with e2; simp at e2; have := e.2.1; omega⟩
  have h3 : RowPK w3 lo v L (Apart lo v w3) := (h.keep (fun g e => hb.block g (hlt g e).2) (fun g e => hb.block g e.2.1)).wide fun g e => ⟨e.1, by have := e.2.1; omega, e.2.2⟩
  exact h3.push hown ((hx.keep fun g e => hK g e.2.1 e.2.2).wide hNM) (fun g e => hK g e.2.1 e.2.2) hNM

def RPlacesPostK (t : Tm) (w : World) (e : Ending) (w' : World) : Prop := ∃ v L, e = .returned v ∧ L.map Pk.key = vis [] t ∧ RowPK w' w.heap.size v L (Apart w.heap.size v w') ∧ Below w.heap.size w w'

def RPlacesAtK (t : Tm) : Prop := t.size ≤ 1099511627776 → ∀ (A : Option Addr) (c : Nat) (w : World), I64 t.fn → Args w w.heap.size A t.args → Calls Try.prog 23 #[.agg #[.int .i64 t.fn, .slice A t.args.length c]] w (RPlacesPostK t w)

/-- What the outer loop has laid. -/
structure RPIK (w W wr : World) (xs : List Tm) (f : Int) (k : Nat) (v : Value) (L : List Pk) : Prop where
  blw : Below (w.heap.size + 1) W wr
  key : L.map Pk.key = ([], .node f xs) :: visL [] 0 (xs.take k)
  row : RowPK wr (w.heap.size + 1) v L (Apart (w.heap.size + 1) v wr)

/-- What the inner loop has laid; the argument's places lie there still. -/
structure RPJK (w W wr w4 wx : World) (xs : List Tm) (f : Int) (k : Nat) (v4 : Value) (L4 : List Pk) (m : Nat) (v : Value) (L : List Pk) : Prop where
  blw : Below (w.heap.size + 1) W wx
  key : L.map Pk.key = (([], .node f xs) :: visL [] 0 (xs.take k)) ++ (L4.take m).map fun x => ((k : Int) :: x.p, x.t)
  row : RowPK wx (w.heap.size + 1) v L (Apart (w.heap.size + 1) v wx)
  inn : RowPK wx wr.heap.size v4 L4 (Apart wr.heap.size v4 w4)
  off : ∀ g, v.ownBlock = some g → g < wr.heap.size ∨ w4.heap.size ≤ g
  big : w4.heap.size ≤ wx.heap.size
  mid : wr.heap.size ≤ w4.heap.size
  inn4 : ∀ g, v4.ownBlock = some g → wr.heap.size ≤ g ∧ g < w4.heap.size

theorem RPJK.room {w W wr w4 wx : World} {xs : List Tm} {f : Int} {k m : Nat} {v4 v : Value} {L4 L : List Pk} {u : Tm} (h : RPJK w W wr w4 wx xs f k v4 L4 m v L) (hu : xs[k]? = some u) (h4 : L4.map Pk.key = vis [] u) (hm : m < L4.length) : L.length + 1 ≤ (Tm.node f xs).size := by
  have h1 := vis_room (f := f) hu
  have h2 := congrArg List.length h.key
  have h3 := congrArg List.length h4
  rw [vis_len, List.length_map] at h3
  rw [List.length_map, List.length_append, List.length_map, List.length_take] at h2
  simp only [List.length_cons] at h2
  omega

/-- The next place of the argument, at the row's end. -/
theorem RPJK.next {w W wr w4 wx wz w5 : World} {xs : List Tm} {f : Int} {k m : Nat} {v4 v v5 vp : Value} {L4 L : List Pk} {x : Pk} {o : Obj} {Ap : Option Addr} {cp : Nat} (h : RPJK w W wr w4 wx xs f k v4 L4 m v L) (hWs : W.heap.size = w.heap.size + 1) (hrs : W.heap.size ≤ wr.heap.size) (hx : L4[m]? = some x) (hb : Below wx.heap.size wx wz)
    (hvp : vp = .slice Ap (x.p.length + 1) cp) (hp : wz.ownsRow wx.heap.size 3 1 vp (x.p.length + 1) (((k : Int) :: x.p).map (Value.int .i64))) (hk : I64 (k : Int)) (hxl : x.p.length + 1 ≤ 9223372036854775807)
    (hown : w5.ownsRow (w.heap.size + 1) 45 3 v5 (L.length + 1) (L.flatMap Pk.cells ++ (⟨(k : Int) :: x.p, x.t, Ap, cp, x.A, x.c⟩ : Pk).cells)) (hgr : (wz.alloc o).grownBy w5 v.ownBlock) (hat : v5.ownBlock = v.ownBlock ∨ v5.ownBlock = some (wz.alloc o).heap.size) :
    RPJK w W wr w4 w5 xs f k v4 L4 (m + 1) v5 (L ++ [⟨(k : Int) :: x.p, x.t, Ap, cp, x.A, x.c⟩]) := by
  have hlt := row_lt h.row.row
  have hzs := hb.size
  have h5s := hgr.size
  simp at h5s
  have hbig := h.big
  have hmid := h.mid
  have hfx := h.inn.fx x (List.mem_of_getElem? hx)
  have h4l := row_lt h.inn.row
  have hvv := h.off
  have hK : ∀ g, g < wx.heap.size → v.ownBlock ≠ some g → w5.heap[g]? = wx.heap[g]? := fun g h1 h2 => (hgr.block g (by simp; omega) (fun e => h2 e.symm)).trans ((Below.heap_alloc wz o g (by omega)).trans (hb.block g h1))
  have hin : ∀ g, wr.heap.size ≤ g → g < w4.heap.size → v.ownBlock ≠ some g := fun g h1 h2 e => by have := hvv g e; omega
  refine ⟨?_, ?_, ?_, ?_, ?_, by omega, hmid, h.inn4⟩
  · exact ((h.blw.trans (hb.mono (by omega))).alloc (by omega) _).grown hgr (by simp; omega) fun g e => (hlt g e).1
  · rw [List.map_append, h.key, List.take_add_one, hx, List.map_append, List.append_assoc]; rfl
  · refine h.row.grow hb ⟨?_, hfx.i64, ?_⟩ hown hgr hat
    · have hl : ((k : Int) :: x.p).length = x.p.length + 1 := rfl
      obtain ⟨A2, c2, e, hI⟩ := row_intsN (N := Apart (w.heap.size + 1) v wz) (l := (k : Int) :: x.p) (by rw [hl]; exact hp) (by rw [hl]; exact hxl) (fun y hy => by
        rcases List.mem_cons.1 hy with rfl | hy
        · exact hk
        · exact hfx.pos.i64 y hy) (fun g e => ⟨by have := (row_lt hp g e).1; omega, (row_lt hp g e).2, fun e2 => by have := (row_lt hp g e).1; have := (hlt g e2).2; omega⟩)
      rw [hvp] at e
      injection e with e1 _ e3
      subst e1; subst e3
      exact hI
    · exact (hfx.args.keep fun g e => hb.block g (by have := e.2.1; omega)).wide fun g e => ⟨by have := e.1; omega, by have := e.2.1; omega, hin g e.1 e.2.1⟩
  · exact h.inn.keep (fun g e => hK g (by have := h.inn4 g e; omega) (hin g (h.inn4 g e).1 (h.inn4 g e).2)) (fun g e => hK g (by have := e.2.1; omega) (hin g e.1 e.2.1))
  · intro g e
    rcases hat with h3 | h3
    · rw [h3] at e; exact hvv g e
    · rw [h3] at e; injection e with e; simp at e; right; omega

set_option maxHeartbeats 4000000 in
theorem refPlacesK_any (t : Tm) : RPlacesAtK t := by
  refine Tm.ind (P := RPlacesAtK) (fun f xs ih => ?_) t
  intro hsz A c w hf hA
  simp only [Tm.fn, Tm.args] at hf hA ⊢
  obtain ⟨i0, hi, hz0, hz1, hz2⟩ := info_parts info_place
  obtain ⟨i1, hi1, hy0, hy1, hy2⟩ := info_parts infoInt
  obtain ⟨W, hW⟩ : ∃ W, w.alloc (.cells #[.int .i64 f, .slice A xs.length c] 27) = W := ⟨_, rfl⟩
  have hB : Below w.heap.size w W := by rw [← hW]; exact (Below.refl _ _).alloc (Nat.le_refl _) _
  have q0 : W.heap[w.heap.size]? = some (.cells #[.int .i64 f, .slice A xs.length c] 27) := by rw [← hW]; exact heap_alloc_new _ _
  have hWs : W.heap.size = w.heap.size + 1 := by rw [← hW]; simp
  obtain ⟨a0, a1, _, _⟩ := cells_two q0
  have HW := Lib.hid hW
  have HA := Lib.hid hA
  have hl64 := hA.len
  have H1 := Lib.hid (hA.on hB)
  clear hW hA
  go_enter Try.func23, Try.ntmps23
  go_upto_region 1 with fail
  rw [HW.out]
  go_wp2_with (first
    | (go_at_call 50; refine (refCopyK_at (.node f xs) A c W (by omega) hf H1.out).mono ?_; go_must (rintro e w2 ⟨A4, c4, rfl, hN4, hb4⟩; simp only [Tm.fn, Tm.args] at hN4 ⊢))
    | fail)
  have hs2 := hb4.size
  have hI0 : Hid (RPIK w W (w2.alloc (.cells #[.slice none 0 0, .int .i64 f, .slice A4 xs.length c4] 45)) xs f 0 (.slice (some ⟨w2.heap.size, 0, none⟩) 1 1) [⟨[], .node f xs, none, 0, A4, c4⟩]) := by
    have hBa : Below w2.heap.size w2 (w2.alloc (.cells #[.slice none 0 0, .int .i64 f, .slice A4 xs.length c4] 45)) := (Below.refl _ _).alloc (Nat.le_refl _) _
    refine ⟨?_, by simp [visL, Pk.key], ⟨row_base (own_three w2 _ _ _ _) (by omega), fun x hx => ?_⟩⟩
    · exact ((hb4.mono (by omega)).trans (hBa.mono (by omega)))
    · simp only [List.mem_cons, List.not_mem_nil, or_false] at hx
      subst hx
      exact ⟨IntsN.nil_ _ _ _, hf, (hN4.keep fun g e => hBa.block g e.2).wide fun g e => ⟨by omega, by have := e.2; simp; omega, fun e2 => by injection e2 with e2; have e3 : w2.heap.size = g := e2; have := e.2; omega⟩⟩
  clear hN4
  go_loopw [3, 4] (fun s3 i wr => ∃ (k : Nat) (v : Value) (L : List Pk), k ≤ xs.length ∧ i = .int .i64 (k : Int) ∧ v = s3 ∧ Hid (RPIK w W wr xs f k v L)) (fun _ i _ => xs.length - (intOf i).toNat)
  case atStart => exact ⟨0, _, _, Nat.zero_le _, rfl, rfl, hI0⟩
  case round =>
    obtain ⟨k, v, L, hk, rfl, rfl, H⟩ := hrel
    obtain ⟨wo, rfl⟩ : ∃ wo, wo = wr := ⟨_, rfl⟩
    have hBr := H.out.blw
    by_cases hlt : k < xs.length
    · obtain ⟨u, hu⟩ : ∃ u, xs[k]? = some u := ⟨_, List.getElem?_eq_getElem hlt⟩
      have hBw : Below w.heap.size w wo := hB.trans (hBr.mono (by omega))
      have hrs : W.heap.size ≤ wo.heap.size := hBr.size
      obtain ⟨a0, a1, _, _⟩ := cells_two ((hBr.block w.heap.size (by omega)).trans q0)
      obtain ⟨bb, off, A1, c1, rfl, ha⟩ := HA.out.get hu
      have e0 := cell_on hBw ha.hb ha.c0
      have e1 := cell_on hBw ha.hb ha.c1
      have hs1 : Hid (Args wo wo.heap.size A1 u.args) := ha.sub.on hBw
      have hi64 := ha.hi
      have hmem := List.mem_of_getElem? hu
      have husz : u.size ≤ 1099511627776 := by have := size_mem hmem; simp only [Tm.size] at hsz; omega
      have hk64 : I64 (k : Int) := ⟨by omega, by omega⟩
      have Hu := Lib.hid hu
      clear hu ha
      go_wp2_with (first
        | (go_at_call 23
           go_must (
           refine (ih u hmem husz A1 c1 wo hi64 hs1.out).mono ?_
           rintro e w4 ⟨v4, L4, rfl, hL4, hR4, hb4⟩
           have hl4 : L4.length = u.size := by have := congrArg List.length hL4; rwa [vis_len, List.length_map] at this
           have hrow4 := hR4.row
           obtain ⟨g4, c4, hv4⟩ := row_some hrow4 (by have := size_pos u; omega)
           subst hv4
           have HR4 := Lib.hid hR4
           clear hR4 hrow4))
        | fail)
      have hJ0 : Hid (RPJK w W wo w4 w4 xs f k (.slice (some ⟨g4, 0, none⟩) L4.length c4) L4 0 v L) := by
        have hlt4 := row_lt HR4.out.row
        have hlv := row_lt H.out.row.row
        exact ⟨hBr.trans (hb4.mono (by omega)), by rw [H.out.key]; simp, (H.out.row.keep (fun g e => hb4.block g (hlv g e).2) (fun g e => hb4.block g e.2.1)).wide fun g e => ⟨e.1, by have := e.2.1; have := hb4.size; omega, e.2.2⟩, HR4.out, fun g e => .inl (hlv g e).2, Nat.le_refl _, hb4.size, hlt4⟩
      clear a0 a1 e0 e1
      go_loopw [3, 6] (fun s3 i' wx => ∃ (m : Nat) (v' : Value) (L' : List Pk), m ≤ L4.length ∧ i' = .int .i64 (m : Int) ∧ v' = s3 ∧ Hid (RPJK w W wo w4 wx xs f k (.slice (some ⟨g4, 0, none⟩) L4.length c4) L4 m v' L')) (fun _ i' _ => L4.length - (intOf i').toNat)
      case atStart => exact ⟨0, _, _, Nat.zero_le _, rfl, rfl, hJ0⟩
      case round =>
        obtain ⟨m, v', L', hm, rfl, rfl, HJ⟩ := hrel
        obtain ⟨wx, rfl⟩ : ∃ wx, wx = wr := ⟨_, rfl⟩
        have hL64 : L4.length ≤ 9223372036854775807 := by omega
        by_cases hml : m < L4.length
        · obtain ⟨x, hx⟩ : ∃ x, L4[m]? = some x := ⟨_, List.getElem?_eq_getElem hml⟩
          obtain ⟨g4', c4', e4, hog, hg4, y0, y1, y2, hfx⟩ := HJ.out.inn.get hx
          injection e4 with e4 _ e5
          injection e4 with e4
          injection e4 with e4 _ _
          subst e4
          subst e5
          have hxd := pk_depth hL4 (List.mem_of_getElem? hx)
          have hud := depth_le_size u
          have hroom := HJ.out.room Hu.out hL4 hml
          have hpx := hfx.pos
          have hxl : x.p.length ≤ 1099511627776 := by omega
          have hinB : ∀ g, Apart wo.heap.size (.slice (some ⟨g4, 0, none⟩) L4.length c4) w4 g → g < wx.heap.size := fun g e => Nat.lt_of_lt_of_le e.2.1 HJ.out.big
          have Hx := Lib.hid hx
          have Hpx := Lib.hid hpx
          have Hown0 := Lib.hid (own_one wx (.int .i64 (k : Int)) 3)
          have hBa : Below wx.heap.size wx (wx.alloc (.cells #[.int .i64 (k : Int)] 3)) := (Below.refl _ _).alloc (Nat.le_refl _) _
          clear hx hpx hfx hog
          go_wp2
          go_loopw [7, 8] (fun s7 j' wz => ∃ (j : Nat) (vp : Value), j ≤ x.p.length ∧ j' = .int .i64 (j : Int) ∧ vp = s7 ∧ Below wx.heap.size wx wz ∧ Hid (wz.ownsRow wx.heap.size 3 1 vp (j + 1) (((k : Int) :: x.p.take j).map (Value.int .i64)))) (fun _ j' _ => x.p.length - (intOf j').toNat)
          case atStart => exact ⟨0, _, Nat.zero_le _, rfl, rfl, hBa, by simpa using Hown0⟩
          case round =>
            obtain ⟨j, vp, hj, rfl, rfl, hBz, HP⟩ := hrel
            obtain ⟨wz, rfl⟩ : ∃ wz, wz = wr := ⟨_, rfl⟩
            have z0 := cell_on hBz hg4 y0
            have hp64 : x.p.length ≤ 9223372036854775807 := by omega
            by_cases hjl : j < x.p.length
            · obtain ⟨y, hy⟩ : ∃ y, x.p[j]? = some y := ⟨_, List.getElem?_eq_getElem hjl⟩
              obtain ⟨pb, po, epb, hpb, hpc⟩ := Hpx.out.ad (by omega)
              have z1 := cell_on hBz (hinB _ hpb) (hpc _ _ hy)
              rw [epb] at z0
              have htk : x.p.take (j + 1) = x.p.take j ++ [y] := by rw [List.take_add_one, hy]; rfl
              have Hy := Lib.hid htk
              have hbzs := hBz.size
              have hrl := row_lt HP.out
              clear hy hpc htk
              go_wp2_with (first
                | (at_builtin
                   go_must (
                   refine wpList_append_own _ rfl _ _ 43 rfl wx.heap.size 3 i1 (.int .i64 0) 1 8 Try.underlying43 hi1 hy0 hy1 hy2 rfl (by decide) _ (j + 1) _ rfl ((row_keep HP.out fun g e => Below.heap_alloc wz _ g (hrl g e).2)) ⟨wz.heap.size, 0, none⟩ 1 1 [.int .i64 y] rfl rfl (cell_one_new _ _ _) (by simp [Value.oneCell']) (by unfold maxLen; omega) (by omega) (by simp; omega) ?_
                   intro v2 w2' hown2 hgr2 _
                   have hB2 : Below wx.heap.size wx w2' := (hBz.alloc hbzs _).grown hgr2 (by simp; omega) fun g hg => (hrl g hg).1
                   have Hown2 := Lib.hid hown2
                   clear hgr2 hown2))
                | fail)
              go_roundw
              case rel => exact ⟨j + 1, _, by omega, by go_num, rfl, hB2, by rw [Hy.out]; simpa using Hown2⟩
              case measure => simp [intOf]; omega
            · obtain rfl : j = x.p.length := by omega
              obtain ⟨gp, cpp, evp⟩ := ownsRow_succ HP.out
              subst evp
              have HQ := Lib.hid (show wz.ownsRow wx.heap.size 3 1 (.slice (some ⟨gp, 0, none⟩) (x.p.length + 1) cpp) (x.p.length + 1) (((k : Int) :: x.p).map (Value.int .i64)) by simpa using HP.out)
              have w1' := cell_on hBz hg4 y1
              have w2' := cell_on hBz hg4 y2
              have hbzs := hBz.size
              have hrow := Lib.hid HJ.out.row.row
              have hrl := row_lt hrow.out
              have hwxs : w.heap.size + 1 ≤ wx.heap.size := by have := HJ.out.mid; have := HJ.out.big; omega
              go_wp2_with (first
                | (at_builtin
                   go_must (
                   refine wpList_append_own_at _ rfl _ _ 41 rfl (w.heap.size + 1) 45 i0 (.agg #[.slice none 0 0, .int .i64 0, .slice none 0 0]) 3 56 Try.underlying41 hi hz0 hz1 hz2 rfl (by decide) v' L'.length _ rfl (row_keep hrow.out fun g e => (Below.heap_alloc wz _ g (Nat.lt_of_lt_of_le (hrl g e).2 hbzs)).trans (hBz.block g (hrl g e).2)) ⟨wz.heap.size, 0, none⟩ 1 1 [.slice (some ⟨gp, 0, none⟩) (x.p.length + 1) cpp, .int .i64 x.t.fn, .slice x.A x.t.args.length x.c] rfl rfl (cells_new_three _ _ _ _ _) (by simp [Value.oneCell']) (by unfold maxLen; omega) (by omega) (by simp; omega) ?_
                   intro v5 w5 hown5 hgr5 _ hat5
                   have Hn5 := Lib.hid (HJ.out.next (x := x) (Ap := some ⟨gp, 0, none⟩) (cp := cpp) hWs hrs Hx.out hBz rfl HQ.out hk64 (by omega) hown5 hgr5 hat5)
                   clear hown5 hgr5 hat5))
                | fail)
              go_roundw
              case rel => exact ⟨m + 1, _, _, by omega, by go_num, rfl, Hn5⟩
              case measure => simp [intOf]; omega
        · obtain rfl : m = L4.length := by omega
          have hkey2 := HJ.out.key
          rw [List.take_length] at hkey2
          have Hnext : Hid (RPIK w W wx xs f (k + 1) v' L') := ⟨HJ.out.blw, by
            rw [hkey2, visL_take Hu.out]
            have e : (L4.map fun x => ((k : Int) :: x.p, x.t)) = vis ([] ++ [(k : Int)]) u := by
              rw [List.nil_append, vis_one, ← hL4, List.map_map]; rfl
            rw [e]; simp, HJ.out.row⟩
          clear hkey2
          go_wp2
          go_roundw
          case rel => exact ⟨k + 1, _, _, by omega, by go_num, rfl, Hnext⟩
          case measure => simp [intOf]; omega
    · obtain rfl : k = xs.length := by omega
      obtain ⟨a0, a1, _, _⟩ := cells_two ((hBr.block w.heap.size (by omega)).trans q0)
      have hrow := H.out.row
      have hkey := H.out.key
      rw [List.take_length] at hkey
      have hBw : Below w.heap.size w wo := hB.trans (hBr.mono (by omega))
      go_wp2
      go_ret
      exact ⟨_, L, rfl, by rw [hkey, vis_eq]; rfl, ⟨row_base hrow.row (by omega), fun x hx => (hrow.fx x hx).wide fun g e => ⟨by have := e.1; omega, e.2.1, e.2.2⟩⟩, hBw⟩

end Go.Proofs.Ytbchignbndgigaa

/- kbo: a term is above what stands at its places; what may be at places: plain. -/

namespace Go.Proofs.Ytbchignbndgigaa

open Go.RowKit
set_option maxRecDepth 20000

section

variable {o : Odr} {ar : List Nat}

theorem visL_mem {q : List Int} {u : Tm} : ∀ (xs : List Tm) (p : List Int) (k : Nat), (q, u) ∈ visL p k xs → ∃ x ∈ xs, ∃ p', (q, u) ∈ vis p' x
  | [], p, k, h => by simp [visL] at h
  | x :: xs, p, k, h => by
    simp only [visL, List.mem_append] at h
    rcases h with h | h
    · exact ⟨x, by simp, _, h⟩
    · obtain ⟨y, hy, p', h'⟩ := visL_mem xs p _ h
      exact ⟨y, by simp [hy], p', h'⟩

theorem vis_gd : ∀ (t : Tm) (p q : List Int) (u : Tm), Gd ar t → (q, u) ∈ vis p t → Gd ar u := by
  refine Tm.ind fun f xs ih p q u hg h => ?_
  rw [vis_eq, List.mem_cons] at h
  rcases h with h | h
  · injection h with _ h
    rw [h]; exact hg
  · obtain ⟨x, hx, p', h'⟩ := visL_mem _ _ _ h
    exact ih x hx p' q u (hg.arg hx) h'

theorem abv_vis (A : Adm o ar) : ∀ (t : Tm) (p q : List Int) (u : Tm), Gd ar t → (q, u) ∈ visL p 0 t.args → abvT o t u = true := by
  refine Tm.ind fun f xs ih p q u hg h => ?_
  obtain ⟨x, hx, p', h'⟩ := visL_mem _ _ _ h
  have h1 := abv_arg A x f xs hg hx
  rw [vis_eq, List.mem_cons] at h'
  rcases h' with h' | h'
  · injection h' with _ h'
    rw [h']; exact h1
  · have h2 := ih x hx p' q u (hg.arg hx) h'
    obtain ⟨y, hy, p2, h3⟩ := visL_mem _ _ _ h'
    exact abv_trans A _ x u hg (hg.arg hx) (vis_gd x p' q u (hg.arg hx) (by rw [vis_eq]; exact List.mem_cons_of_mem _ h')) h1 h2

theorem vis_size : ∀ (t : Tm) (p q : List Int) (u : Tm), (q, u) ∈ vis p t → u.size ≤ t.size := by
  refine Tm.ind fun f xs ih p q u h => ?_
  rw [vis_eq, List.mem_cons] at h
  rcases h with h | h
  · injection h with _ h
    rw [h]; exact Nat.le_refl _
  · obtain ⟨x, hx, p', h'⟩ := visL_mem _ _ _ h
    have h1 := ih x hx p' q u h'
    have h2 := size_mem (show x ∈ xs from hx)
    rw [Tm.size]; omega

end

end Go.Proofs.Ytbchignbndgigaa

/- KboSubterms, the law. -/

namespace Go.Proofs.Ytbchignbndgigaa

open Go.RowKit Go.Shelf Go.Maps
set_option maxRecDepth 100000

/-- The boxes of a signature, an order and a term. -/
structure Box3 (w : World) (b : Nat) (o : Odr) (t : Tm) (As P Q A : Option Addr) (n cs pc qc c : Nat) : Prop where
  so : BoxSO w b o As P Q n cs pc qc
  t0 : w.cell? ⟨b + 2, 0, none⟩ = some (.int .i64 t.fn)
  t1 : w.cell? ⟨b + 2, 1, none⟩ = some (.slice A t.args.length c)

theorem box3_of {w W : World} {o : Odr} {t : Tm} {As P Q A : Option Addr} {n cs pc qc c : Nat} (hW : (((w.alloc (.cells #[.slice As n cs] 36)).alloc (.cells #[.bool o.lpo, .slice P o.prec.length pc, .slice Q o.wts.length qc, .int .i64 o.var] 24)).alloc (.cells #[.int .i64 t.fn, .slice A t.args.length c] 27)) = W) : Below w.heap.size w W ∧ ∀ w1, Below W.heap.size W w1 → Box3 w1 w.heap.size o t As P Q A n cs pc qc c := by
  obtain ⟨q0, q1, q2⟩ := heap3 w (.cells #[.slice As n cs] 36) (.cells #[.bool o.lpo, .slice P o.prec.length pc, .slice Q o.wts.length qc, .int .i64 o.var] 24) (.cells #[.int .i64 t.fn, .slice A t.args.length c] 27)
  rw [hW] at q0 q1 q2
  have hz : w.heap.size + 3 = W.heap.size := by rw [← hW]; simp
  refine ⟨by rw [← hW]; exact (((Below.refl _ _).alloc (Nat.le_refl _) _).alloc (by simp) _).alloc (by simp; omega) _, fun w1 hb => ?_⟩
  obtain ⟨a0, a1, _, _⟩ := cells_two ((hb.block _ (by omega)).trans q2)
  exact ⟨boxSO_of ((hb.block _ (by omega)).trans q0) ((hb.block _ (by omega)).trans q1), a0, a1⟩

set_option maxHeartbeats 4000000 in
theorem kboSubterms_of (sy : List Sm) (o : Odr) (t : Tm) (As P Q A : Option Addr) (n cs pc qc c : Nat) (w : World) (hS : Syms w w.heap.size As n sy) (hn : n * 32 ≤ 140737488351232) (hM : OdrM w w.heap.size o P Q) (ht : TmK w t A c) (hzt : t.size ≤ 1048576) :
    Calls Try.prog 5 #[.agg #[.slice As n cs], .agg #[.bool o.lpo, .slice P o.prec.length pc, .slice Q o.wts.length qc, .int .i64 o.var], .agg #[.int .i64 t.fn, .slice A t.args.length c]] w fun e w' => e = .returned (.bool true) ∧ Below w.heap.size w w' := by
  obtain ⟨W, hW⟩ : ∃ W, (((w.alloc (.cells #[.slice As n cs] 36)).alloc (.cells #[.bool o.lpo, .slice P o.prec.length pc, .slice Q o.wts.length qc, .int .i64 o.var] 24)).alloc (.cells #[.int .i64 t.fn, .slice A t.args.length c] 27)) = W := ⟨_, rfl⟩
  obtain ⟨hB, hX⟩ := box3_of hW
  have HW := Lib.hid hW
  have HX := Lib.hid hX
  have htW := ht.on hB
  have hMW := hM.on hB
  have hSW := hS.on hB
  have hb5 : Below W.heap.size W (W.alloc (.cells #[.int .i64 t.fn, .slice A t.args.length c] 27)) := (Below.refl _ _).alloc (Nat.le_refl _) _
  have HB5 := Lib.hid hb5
  have HG : Hid (Calls Try.prog 13 #[.slice (some ⟨W.heap.size, 0, none⟩) 1 1] (W.alloc (.cells #[.int .i64 t.fn, .slice A t.args.length c] 27)) fun e w' => e = .returned (.bool (decide (2000 < sizes [t]))) ∧ Below (W.alloc (.cells #[.int .i64 t.fn, .slice A t.args.length c] 27)).heap.size (W.alloc (.cells #[.int .i64 t.fn, .slice A t.args.length c] 27)) w') := Lib.hid (kboGreat_any [t] (fun x hx => by simp at hx; subst hx; omega) (some ⟨W.heap.size, 0, none⟩) 1 (W.alloc (.cells #[.int .i64 t.fn, .slice A t.args.length c] 27)) (row_one htW (Below.refl _ _)))
  have HF : Hid (∀ w1, Below W.heap.size W w1 → Calls Try.prog 20 #[.agg #[.slice As n cs], .agg #[.bool o.lpo, .slice P o.prec.length pc, .slice Q o.wts.length qc, .int .i64 o.var], .slice (some ⟨w1.heap.size, 0, none⟩) 1 1] (w1.alloc (.cells #[.int .i64 t.fn, .slice A t.args.length c] 27)) fun e w' => e = .returned (.bool (fitsB sy o [t])) ∧ Below w1.heap.size w1 w') := Lib.hid fun w1 hb => by
    have hb1 : Below w1.heap.size w1 (w1.alloc (.cells #[.int .i64 t.fn, .slice A t.args.length c] 27)) := (Below.refl _ _).alloc (Nat.le_refl _) _
    exact (kboFits_any sy o [t] As P Q (some ⟨w1.heap.size, 0, none⟩) n cs pc qc 1 _ ((hSW.on hb).on hb1) hn ((hMW.on hb).on hb1) (fun x hx => by simp at hx; subst hx; omega) (row_one htW hb)).mono fun e w' ⟨he, hw⟩ => ⟨he, hb1.trans (hw.mono hb1.size)⟩
  have HPl : Hid (∀ w1, Below W.heap.size W w1 → Calls Try.prog 23 #[.agg #[.int .i64 t.fn, .slice A t.args.length c]] w1 (RPlacesPostK t w1)) := Lib.hid fun w1 hb => refPlacesK_any t (by omega) A c w1 (htW.on hb).i64 (htW.on hb).args.toA
  have Hwk := Lib.hid kboWakes_any
  have HBB : Hid (∀ w1, Below W.heap.size W w1 → Below w.heap.size w w1) := Lib.hid fun w1 h => hB.trans (h.mono hB.size)
  obtain ⟨⟨x0, x1, x2, x3, x4⟩, x5, x6⟩ := hX W (Below.refl _ _)
  have HtW := Lib.hid htW
  have HMW := Lib.hid hMW
  clear hW hX hS hM ht htW hMW hSW hb5 hB
  cases hgr : decide (2000 < sizes [t]) with
  | true =>
    rw [hgr] at HG
    clear hgr
    go_enter Try.func5, Try.ntmps5
    go_upto_region 1 with fail
    rw [HW.out]
    go_wp2_with (first
      | (go_at_call 13; go_must ((with_reducible refine HG.out.mono ?_); rintro e w1 ⟨rfl, hb1⟩; have hbw1 := HB5.out.trans (hb1.mono HB5.out.size); obtain ⟨⟨y0, y1, y2, y3, y4⟩, y5, y6⟩ := HX.out w1 hbw1))
      | (go_at_call 14; go_must ((with_reducible refine (Hwk.out _).mono ?_); rintro e w9 ⟨rfl, hb9⟩))
      | fail)
    go_ret
    exact ⟨rfl, HBB.out _ (hbw1.trans (hb9.mono hbw1.size))⟩
  | false =>
    rw [hgr] at HG
    clear hgr
    cases hft : fitsB sy o [t] with
    | false =>
      rw [hft] at HF
      clear hft
      go_enter Try.func5, Try.ntmps5
      go_upto_region 1 with fail
      rw [HW.out]
      go_wp2_with (first
        | (go_at_call 13; go_must ((with_reducible refine HG.out.mono ?_); rintro e w1 ⟨rfl, hb1⟩; have hbw1 := HB5.out.trans (hb1.mono HB5.out.size); obtain ⟨⟨y0, y1, y2, y3, y4⟩, y5, y6⟩ := HX.out w1 hbw1))
        | (go_at_call 20; go_must ((with_reducible refine (HF.out w1 hbw1).mono ?_); rintro e w2 ⟨rfl, hb2⟩; have hbw2 := hbw1.trans (hb2.mono hbw1.size); obtain ⟨⟨z0, z1, z2, z3, z4⟩, z5, z6⟩ := HX.out w2 hbw2))
        | (go_at_call 14; go_must ((with_reducible refine (Hwk.out _).mono ?_); rintro e w9 ⟨rfl, hb9⟩))
        | fail)
      go_ret
      exact ⟨rfl, HBB.out _ (hbw2.trans (hb9.mono hbw2.size))⟩
    | true =>
      rw [hft] at HF
      have hgd := fits_gd hft
      have hK : Adm o (arL sy) := by
        unfold fitsB at hft
        simp only [Bool.and_eq_true, Bool.not_eq_true', decide_eq_true_eq] at hft
        exact chkO_adm hft.1 hft.2.1
      have gt := hgd t (by simp)
      have HK := Lib.hid (And.intro hK gt)
      clear hft hgd hK gt
      go_enter Try.func5, Try.ntmps5
      go_upto_region 1 with fail
      rw [HW.out]
      go_wp2_with (first
        | (go_at_call 13; go_must ((with_reducible refine HG.out.mono ?_); rintro e w1 ⟨rfl, hb1⟩; have hbw1 := HB5.out.trans (hb1.mono HB5.out.size); obtain ⟨⟨y0, y1, y2, y3, y4⟩, y5, y6⟩ := HX.out w1 hbw1))
        | (go_at_call 20; go_must ((with_reducible refine (HF.out w1 hbw1).mono ?_); rintro e w2 ⟨rfl, hb2⟩; have hbw2 := hbw1.trans (hb2.mono hbw1.size); obtain ⟨⟨z0, z1, z2, z3, z4⟩, z5, z6⟩ := HX.out w2 hbw2))
        | (go_at_call 23; go_must ((with_reducible refine (HPl.out w2 hbw2).mono ?_); rintro e w3 ⟨v, L, rfl, hL, hRow, hb3⟩; have hbw3 := hbw2.trans (hb3.mono hbw2.size); obtain ⟨Av, cv, hv⟩ := row_slice hRow.row; subst hv))
        | fail)
      have hL0 : L.length = t.size := by
        have := congrArg List.length hL
        rwa [vis_len, List.length_map] at this
      have hts := size_pos t
      have HL := Lib.hid hL
      have HRow := Lib.hid hRow
      have hL64 : L.length ≤ 9223372036854775807 := by omega
      have hL1 : 1 ≤ L.length := by omega
      clear hL hRow hb3 hL0 hts x0 x1 x2 x3 x4 x5 x6 y0 y1 y2 y3 y4 y5 y6 z0 z1 z2 z3 z4 z5 z6
      go_loopw [8] (fun i wr => ∃ k : Nat, 1 ≤ k ∧ k ≤ L.length ∧ i = .int .i64 (k : Int) ∧ Below w3.heap.size w3 wr) (fun i _ => L.length - (intOf i).toNat)
      case atStart => exact ⟨1, Nat.le_refl _, hL1, rfl, Below.refl _ _⟩
      case round =>
        obtain ⟨k, hk1, hk, rfl, hB3⟩ := hrel
        have hBr := hbw3.trans (hB3.mono hbw3.size)
        by_cases hkl : k < L.length
        · obtain ⟨x, hx⟩ : ∃ x, L[k]? = some x := ⟨_, List.getElem?_eq_getElem hkl⟩
          have hRr := HRow.out.keep (w' := wr) (fun g e => hB3.block g (row_lt HRow.out.row g e).2) (fun g e => hB3.block g e.2.1)
          obtain ⟨g, c', hv, hog, hgl, c0, c1, c2, hfx⟩ := hRr.get hx
          injection hv with hA _ hc
          subst hA hc
          have hmem : (x.p, x.t) ∈ visL [] 0 t.args := by
            have h1 := congrArg (fun l => l[k]?) HL.out
            simp only [List.getElem?_map, hx, vis_eq, Option.map_some] at h1
            obtain ⟨k', rfl⟩ : ∃ k', k = k' + 1 := ⟨k - 1, by omega⟩
            rw [List.getElem?_cons_succ] at h1
            exact List.mem_of_getElem? h1.symm
          obtain ⟨hK, gt⟩ := HK.out
          have hab := abv_vis hK t [] x.p x.t gt hmem
          have hmv : (x.p, x.t) ∈ vis [] t := by rw [vis_eq]; exact List.mem_cons_of_mem _ hmem
          have hxz := vis_size t [] x.p x.t hmv
          have hxk : TmK wr x.t x.A x.c := ⟨hfx.i64, hfx.args.wide fun g e => Nat.lt_of_lt_of_le e.2.1 hB3.size⟩
          have hgx := vis_gd t [] x.p x.t gt hmv
          have H1 : Hid (∀ y : Later wr.heap.size wr, Calls Try.prog 17 #[.agg #[.bool o.lpo, .slice P o.prec.length pc, .slice Q o.wts.length qc, .int .i64 o.var], .agg #[.int .i64 t.fn, .slice A t.args.length c], .agg #[.int .i64 x.t.fn, .slice x.A x.t.args.length x.c]] y.w fun e w' => e = .returned (.bool true) ∧ Below y.w.heap.size y.w w') := Lib.hid fun y => by
            have := kboAbove_at (pc := pc) (qc := qc) (HMW.out.on hBr) (HtW.out.on hBr) hxk (by omega) y.w y.h
            rwa [(cmpR_three hK gt hgx).2 hab] at this
          have hy : ∀ y : Later wr.heap.size wr, Below W.heap.size W y.w := fun y => hBr.trans (y.h.mono hBr.size)
          have m1 : ∀ y : Later wr.heap.size wr, y.w.cell? ⟨w.heap.size + 1, 0, none⟩ = some (.bool o.lpo) := fun y => (HX.out y.w (hy y)).so.o0
          have m2 : ∀ y : Later wr.heap.size wr, y.w.cell? ⟨w.heap.size + 1, 1, none⟩ = some (.slice P o.prec.length pc) := fun y => (HX.out y.w (hy y)).so.o1
          have m3 : ∀ y : Later wr.heap.size wr, y.w.cell? ⟨w.heap.size + 1, 2, none⟩ = some (.slice Q o.wts.length qc) := fun y => (HX.out y.w (hy y)).so.o2
          have m4 : ∀ y : Later wr.heap.size wr, y.w.cell? ⟨w.heap.size + 1, 3, none⟩ = some (.int .i64 o.var) := fun y => (HX.out y.w (hy y)).so.o3
          have m5 : ∀ y : Later wr.heap.size wr, y.w.cell? ⟨w.heap.size + 1 + 1, 0, none⟩ = some (.int .i64 t.fn) := fun y => (HX.out y.w (hy y)).t0
          have m6 : ∀ y : Later wr.heap.size wr, y.w.cell? ⟨w.heap.size + 1 + 1, 1, none⟩ = some (.slice A t.args.length c) := fun y => (HX.out y.w (hy y)).t1
          have m7 : ∀ y : Later wr.heap.size wr, y.w.cell? ⟨g, k * 3 + 1, none⟩ = some (.int .i64 x.t.fn) := fun y => cell_on y.h hgl c1
          have m8 : ∀ y : Later wr.heap.size wr, y.w.cell? ⟨g, k * 3 + 1 + 1, none⟩ = some (.slice x.A x.t.args.length x.c) := fun y => cell_on y.h hgl c2
          clear hy hx hRr hog c0 c1 c2 hfx hmem hab hmv hxz hxk hgx hK gt
          go_upto_region 7 with fail
          refine wp_region_later wr.heap.size wr (by kernel_rfl) (by kernel_rfl) (bl_drewN (Below.refl _ _) 1) ?_
          repeat (go_big_quiet_step (first | (go_at_call 17; with_reducible refine calls_later _ (Nat.le_refl _) (H1.out _)) | fail))
          refine wpQuiet_nil ?_
          rintro _ ⟨z, rfl⟩
          clear m1 m2 m3 m4 m5 m6 m7 m8
          go_wp2
          go_roundw
          case rel => exact ⟨k + 1, by omega, by omega, by go_num, hB3.trans (z.h.mono hB3.size)⟩
          case measure => simp [intOf]; omega
        · obtain rfl : k = L.length := by omega
          go_wp2_with (first
            | (go_at_call 14; go_must ((with_reducible refine (Hwk.out _).mono ?_); rintro e w9 ⟨rfl, hb9⟩))
            | fail)
          go_ret
          exact ⟨rfl, HBB.out _ (hBr.trans (hb9.mono hBr.size))⟩

end Go.Proofs.Ytbchignbndgigaa

/- A signature that is an argument: its length is bounded by what the arguments hold together. -/

namespace Go.Proofs.Ytbchignbndgigaa

open Go.ChangeShapes Go.WideShapes Go.ChangeAt Go.RowKit
set_option maxRecDepth 20000

theorem bulk_pos {H : Type} (d : DataW H) : 1 ≤ Rows.uptoBulk d := by
  cases d with
  | lit l => cases l <;> simp [Rows.uptoBulk]
  | _ => simp [Rows.uptoBulk]

theorem bulk_length {H : Type} : ∀ ds : List (DataW H), ds.length ≤ Rows.uptoBulkAll ds
  | [] => by simp
  | d :: ds => by
    have h1 := bulk_pos d
    have h2 := bulk_length ds
    simp only [Rows.uptoBulkAll, List.length_cons]; omega

theorem sig_bulk {H : Type} {d : DataW H} {len : Nat} (hl : len = 0 ∨ ∃ elems spare, d = .agg [.slice elems spare] ∧ elems.length = len) : len ≤ Rows.uptoBulk d := by
  rcases hl with rfl | ⟨elems, spare, rfl, rfl⟩
  · omega
  · have := bulk_length elems
    simp only [Rows.uptoBulk, Rows.uptoBulkAll]; omega

theorem trodAll_five {H : Type} {enc : TypeId × Value → H} {P : Program} {w : World} {base : Nat} {spare : Nat → Bool} {held : Bool} {t0 t1 t2 t3 t4 : TypeId} {args : Array Value} {ds : List (DataW H)} {ps : List MemPlace} (h : DataW.TrodAll enc P w base spare held [t0, t1, t2, t3, t4] args.toList ds ps) :
    ∃ v0 v1 v2 v3 v4 d0 d1 d2 d3 d4 p0 p1 p2 p3 p4, args = #[v0, v1, v2, v3, v4] ∧ ds = [d0, d1, d2, d3, d4] ∧ ps = p0 ++ (p1 ++ (p2 ++ (p3 ++ (p4)))) ∧ DataW.Trod enc P w base spare held t0 v0 d0 p0 ∧ DataW.Trod enc P w base spare held t1 v1 d1 p1 ∧ DataW.Trod enc P w base spare held t2 v2 d2 p2 ∧ DataW.Trod enc P w base spare held t3 v3 d3 p3 ∧ DataW.Trod enc P w base spare held t4 v4 d4 p4 := by
  obtain ⟨v0, w0, d0, e0, p0, q0, hargs, rfl, rfl, k0, r0⟩ := trodAll_cons h
  obtain ⟨v1, w1, d1, e1, p1, q1, rfl, rfl, rfl, k1, r1⟩ := trodAll_cons r0
  obtain ⟨v2, w2, d2, e2, p2, q2, rfl, rfl, rfl, k2, r2⟩ := trodAll_cons r1
  obtain ⟨v3, w3, d3, e3, p3, q3, rfl, rfl, rfl, k3, r3⟩ := trodAll_cons r2
  obtain ⟨v4, w4, d4, e4, p4, q4, rfl, rfl, rfl, k4, r4⟩ := trodAll_cons r3
  obtain ⟨rfl, rfl, rfl⟩ := trodAll_nil r4
  exact ⟨v0, v1, v2, v3, v4, d0, d1, d2, d3, d4, p0, p1, p2, p3, p4, by cases args; simp_all, rfl, by simp, k0, k1, k2, k3, k4⟩

theorem trodAll_six {H : Type} {enc : TypeId × Value → H} {P : Program} {w : World} {base : Nat} {spare : Nat → Bool} {held : Bool} {t0 t1 t2 t3 t4 t5 : TypeId} {args : Array Value} {ds : List (DataW H)} {ps : List MemPlace} (h : DataW.TrodAll enc P w base spare held [t0, t1, t2, t3, t4, t5] args.toList ds ps) :
    ∃ v0 v1 v2 v3 v4 v5 d0 d1 d2 d3 d4 d5 p0 p1 p2 p3 p4 p5, args = #[v0, v1, v2, v3, v4, v5] ∧ ds = [d0, d1, d2, d3, d4, d5] ∧ ps = p0 ++ (p1 ++ (p2 ++ (p3 ++ (p4 ++ (p5))))) ∧ DataW.Trod enc P w base spare held t0 v0 d0 p0 ∧ DataW.Trod enc P w base spare held t1 v1 d1 p1 ∧ DataW.Trod enc P w base spare held t2 v2 d2 p2 ∧ DataW.Trod enc P w base spare held t3 v3 d3 p3 ∧ DataW.Trod enc P w base spare held t4 v4 d4 p4 ∧ DataW.Trod enc P w base spare held t5 v5 d5 p5 := by
  obtain ⟨v0, w0, d0, e0, p0, q0, hargs, rfl, rfl, k0, r0⟩ := trodAll_cons h
  obtain ⟨v1, w1, d1, e1, p1, q1, rfl, rfl, rfl, k1, r1⟩ := trodAll_cons r0
  obtain ⟨v2, w2, d2, e2, p2, q2, rfl, rfl, rfl, k2, r2⟩ := trodAll_cons r1
  obtain ⟨v3, w3, d3, e3, p3, q3, rfl, rfl, rfl, k3, r3⟩ := trodAll_cons r2
  obtain ⟨v4, w4, d4, e4, p4, q4, rfl, rfl, rfl, k4, r4⟩ := trodAll_cons r3
  obtain ⟨v5, w5, d5, e5, p5, q5, rfl, rfl, rfl, k5, r5⟩ := trodAll_cons r4
  obtain ⟨rfl, rfl, rfl⟩ := trodAll_nil r5
  exact ⟨v0, v1, v2, v3, v4, v5, d0, d1, d2, d3, d4, d5, p0, p1, p2, p3, p4, p5, by cases args; simp_all, rfl, by simp, k0, k1, k2, k3, k4, k5⟩

end Go.Proofs.Ytbchignbndgigaa

