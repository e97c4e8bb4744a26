/- Two rows of the same numbers. The document's own answer: Places. TermPlaces: what its range keeps; the contracts in the form that it wants. A region that draws its order and only reads, in a round of a range over a function. TermPlaces. -/
import Derived.Test.YtimgomoafeaoiaaDoorC0
import Derived.Test.YtimgomoafeaoiaaDoorEA
import Derived.Test.YtimgomoafeaoiaaDoorB4
import Derived.Test.YtimgomoafeaoiaaDoorM1
import Derived.Test.YtimgomoafeaoiaaDoorB5
import Derived.Sort.QuietTacIn
namespace Go.Proofs.YtimgomoafeaoiaaDoor
open Go.RowKit
set_option maxRecDepth 100000

set_option maxHeartbeats 1000000 in
theorem numbers_same (l : List Int) (A A2 : Option Addr) (c c2 : Nat) (w : World) (hA : Ints w w.heap.size A l) (hA2 : Ints w w.heap.size A2 l) :
    Calls Tryd.prog 13 #[.slice A l.length c, .slice A2 l.length c2] w fun e w' => e = .returned (.bool true) ∧ Below w.heap.size w w' := by
  have hlen := hA.len
  go_enter Tryd.func13, Tryd.ntmps13
  go_wp2
  go_loopw [13] (fun i wr => ∃ k : Nat, k ≤ l.length ∧ i = .int .i64 (k : Int) ∧ Below w.heap.size w wr) (fun i _ => l.length - (intOf i).toNat)
  case atStart => exact ⟨0, Nat.zero_le _, rfl, Below.refl _ _⟩
  case round =>
    obtain ⟨k, hk, rfl, hBr⟩ := hrel
    by_cases hkl : k < l.length
    · obtain ⟨x, hx⟩ : ∃ x, l[k]? = some x := ⟨_, List.getElem?_eq_getElem hkl⟩
      obtain ⟨pb, po, rfl, hpb, hpc⟩ := hA.ad (by omega)
      obtain ⟨qb, qo, rfl, hqb, hqc⟩ := hA2.ad (by omega)
      have p0 := cell_on hBr hpb (hpc _ _ hx)
      have q0 := cell_on hBr hqb (hqc _ _ hx)
      clear hx hpc hqc
      go_wp2
      go_quiet (fail)
      go_wp2
      go_roundw
      case rel => exact ⟨k + 1, by omega, by go_num, bl_drewN hBr _⟩
      case measure => simp [intOf]; omega
    · obtain rfl : k = l.length := by omega
      go_wp2
      go_ret
      exact ⟨rfl, hBr⟩
end Go.Proofs.YtimgomoafeaoiaaDoor

namespace Go.Proofs.YtimgomoafeaoiaaDoor
open Go.RowKit Go.Shelf
set_option maxRecDepth 100000

theorem info_place : (Tryd.prog.info? 40).map (fun i => (i.zero, i.size, i.bytes)) = some (some (.agg #[.slice none 0 0, .int .i64 0, .slice none 0 0]), 3, 56) := by kernel_rfl

/-- One place more, behind an append. -/
theorem RowP.grow {w2 w3 w5 : World} {lo : Nat} {v v5 : Value} {L : List Pk} {x : Pk} {o : Obj} (h : RowP w2 lo v L (Apart lo v w2)) (hb : Below w2.heap.size w2 w3) (hx : PkFx w3 (Apart lo v w3) x)
    (hown : w5.ownsRow lo 40 3 v5 (L.length + 1) (L.flatMap Pk.cells ++ x.cells)) (hgr : (w3.alloc o).grownBy w5 v.ownBlock) (hat : v5.ownBlock = v.ownBlock ∨ v5.ownBlock = some (w3.alloc o).heap.size) :
    RowP w5 lo v5 (L ++ [x]) (Apart lo v5 w5) := by
  have hlt := row_lt h.row
  have hs3 := hb.size
  have hs5 := hgr.size
  simp at hs5
  have hK : ∀ g, g < w3.heap.size → v.ownBlock ≠ some g → w5.heap[g]? = w3.heap[g]? := fun g h1 h2 => (hgr.block g (by simp; omega) (fun e => h2 e.symm)).trans (Below.heap_alloc w3 o g h1)
  have hNM : ∀ g, Apart lo v w3 g → Apart lo v5 w5 g := fun g e => ⟨e.1, by have := e.2.1; omega, fun e2 => by
    rcases hat with h3 | h3
    · rw [h3] at e2; exact e.2.2 e2
    · rw [h3] at e2; injection e2 with e2; simp at e2; have := e.2.1; omega⟩
  have h3 : RowP w3 lo v L (Apart lo v w3) := (h.keep (fun g e => hb.block g (hlt g e).2) (fun g e => hb.block g e.2.1)).wide fun g e => ⟨e.1, by have := e.2.1; omega, e.2.2⟩
  exact h3.push hown ((hx.keep fun g e => hK g e.2.1 e.2.2).wide hNM) (fun g e => hK g e.2.1 e.2.2) hNM
theorem own_three (w : World) (x y z : Value) (t : TypeId) : (w.alloc (.cells #[x, y, z] t)).ownsRow w.heap.size t 3 (.slice (some ⟨w.heap.size, 0, none⟩) 1 1) 1 [x, y, z] :=
  ⟨rfl, .inr ⟨w.heap.size, 1, #[x, y, z], rfl, Nat.le_refl _, heap_alloc_new w _, Nat.le_refl _, by decide, rfl, rfl⟩⟩
theorem own_one (w : World) (x : Value) (t : TypeId) : (w.alloc (.cells #[x] t)).ownsRow w.heap.size t 1 (.slice (some ⟨w.heap.size, 0, none⟩) 1 1) 1 [x] :=
  ⟨rfl, .inr ⟨w.heap.size, 1, #[x], rfl, Nat.le_refl _, heap_alloc_new w _, Nat.le_refl _, by decide, rfl, rfl⟩⟩
theorem cells_new_three (w : World) (x y z : Value) (t : TypeId) : ∀ j u, [x, y, z][j]? = some u → (w.alloc (.cells #[x, y, z] t)).cell? ((⟨w.heap.size, 0, none⟩ : Addr).add j) = some u := by
  intro j u hj
  match j, hj with
  | 0, hj => simp at hj; subst hj; simp [Addr.add]
  | 1, hj => simp at hj; subst hj; simp [Addr.add]
  | 2, hj => simp at hj; subst hj; simp [Addr.add]
  | j + 3, hj => simp at hj

theorem row_base {W : World} {base base' n : Nat} {e : TypeId} {size : Nat} {v : Value} {vs : List Value} (h : W.ownsRow base e size v n vs) (hb : base' ≤ base) : W.ownsRow base' e size v n vs := by
  refine ⟨h.1, ?_⟩
  rcases h.2 with h0 | ⟨g, cap, cur, hv, h1, hrest⟩
  · exact .inl h0
  · exact .inr ⟨g, cap, cur, hv, Nat.le_trans hb h1, hrest⟩

def RPlacesPost (t : Tm) (w : World) (e : Ending) (w' : World) : Prop := ∃ v L, e = .returned v ∧ L.map Pk.key = vis [] t ∧ RowP w' w.heap.size v L (Apart w.heap.size v w') ∧ Below w.heap.size w w'
def RPlacesAt (t : Tm) : Prop := t.size ≤ 1099511627776 → ∀ (A : Option Addr) (c : Nat) (w : World), I64 t.fn → Args w w.heap.size A t.args → Calls Tryd.prog 11 #[.agg #[.int .i64 t.fn, .slice A t.args.length c]] w (RPlacesPost t w)

/-- What the outer loop has laid. -/
structure RPI (w W wr : World) (xs : List Tm) (f : Int) (k : Nat) (v : Value) (L : List Pk) : Prop where
  blw : Below (w.heap.size + 1) W wr
  key : L.map Pk.key = ([], .node f xs) :: visL [] 0 (xs.take k)
  row : RowP wr (w.heap.size + 1) v L (Apart (w.heap.size + 1) v wr)
/-- What the inner loop has laid; the argument's places lie there still. -/
structure RPJ (w W wr w4 wx : World) (xs : List Tm) (f : Int) (k : Nat) (v4 : Value) (L4 : List Pk) (m : Nat) (v : Value) (L : List Pk) : Prop where
  blw : Below (w.heap.size + 1) W wx
  key : L.map Pk.key = (([], .node f xs) :: visL [] 0 (xs.take k)) ++ (L4.take m).map fun x => ((k : Int) :: x.p, x.t)
  row : RowP wx (w.heap.size + 1) v L (Apart (w.heap.size + 1) v wx)
  inn : RowP wx wr.heap.size v4 L4 (Apart wr.heap.size v4 w4)
  off : ∀ g, v.ownBlock = some g → g < wr.heap.size ∨ w4.heap.size ≤ g
  big : w4.heap.size ≤ wx.heap.size
  mid : wr.heap.size ≤ w4.heap.size
  inn4 : ∀ g, v4.ownBlock = some g → wr.heap.size ≤ g ∧ g < w4.heap.size

theorem vis_room {f : Int} {xs : List Tm} {k : Nat} {u : Tm} (h : xs[k]? = some u) : (visL [] 0 (xs.take k)).length + u.size + 1 ≤ (Tm.node f xs).size := by
  have h1 := (visL_pre [] xs (k + 1)).length_le
  rw [visL_take h, List.length_append, vis_len] at h1
  have h2 := congrArg List.length (vis_eq [] (Tm.node f xs))
  rw [vis_len] at h2
  simp only [List.length_cons, Tm.args] at h2
  omega
theorem RPJ.room {w W wr w4 wx : World} {xs : List Tm} {f : Int} {k m : Nat} {v4 v : Value} {L4 L : List Pk} {u : Tm} (h : RPJ w W wr w4 wx xs f k v4 L4 m v L) (hu : xs[k]? = some u) (h4 : L4.map Pk.key = vis [] u) (hm : m < L4.length) : L.length + 1 ≤ (Tm.node f xs).size := by
  have h1 := vis_room (f := f) hu
  have h2 := congrArg List.length h.key
  have h3 := congrArg List.length h4
  rw [vis_len, List.length_map] at h3
  rw [List.length_map, List.length_append, List.length_map, List.length_take] at h2
  simp only [List.length_cons] at h2
  omega
theorem pk_depth {L : List Pk} {u : Tm} {x : Pk} (h4 : L.map Pk.key = vis [] u) (hx : x ∈ L) : x.p.length + 1 ≤ u.depth := by
  have hm : x.key ∈ vis [] u := by rw [← h4]; exact List.mem_map_of_mem hx
  have := maxP_mem hm
  rw [maxP_vis] at this
  simp only [Pk.key, List.length_nil] at this
  omega
/-- The next place of the argument, at the row's end. -/
theorem RPJ.next {w W wr w4 wx wz w5 : World} {xs : List Tm} {f : Int} {k m : Nat} {v4 v v5 vp : Value} {L4 L : List Pk} {x : Pk} {o : Obj} {Ap : Option Addr} {cp : Nat} (h : RPJ w W wr w4 wx xs f k v4 L4 m v L) (hWs : W.heap.size = w.heap.size + 1) (hrs : W.heap.size ≤ wr.heap.size) (hx : L4[m]? = some x) (hb : Below wx.heap.size wx wz)
    (hvp : vp = .slice Ap (x.p.length + 1) cp) (hp : wz.ownsRow wx.heap.size 3 1 vp (x.p.length + 1) (((k : Int) :: x.p).map (Value.int .i64))) (hk : I64 (k : Int)) (hxl : x.p.length + 1 ≤ 9223372036854775807)
    (hown : w5.ownsRow (w.heap.size + 1) 40 3 v5 (L.length + 1) (L.flatMap Pk.cells ++ (⟨(k : Int) :: x.p, x.t, Ap, cp, x.A, x.c⟩ : Pk).cells)) (hgr : (wz.alloc o).grownBy w5 v.ownBlock) (hat : v5.ownBlock = v.ownBlock ∨ v5.ownBlock = some (wz.alloc o).heap.size) :
    RPJ w W wr w4 w5 xs f k v4 L4 (m + 1) v5 (L ++ [⟨(k : Int) :: x.p, x.t, Ap, cp, x.A, x.c⟩]) := by
  have hlt := row_lt h.row.row
  have hzs := hb.size
  have h5s := hgr.size
  simp at h5s
  have hbig := h.big
  have hmid := h.mid
  have hfx := h.inn.fx x (List.mem_of_getElem? hx)
  have h4l := row_lt h.inn.row
  have hvv := h.off
  have hK : ∀ g, g < wx.heap.size → v.ownBlock ≠ some g → w5.heap[g]? = wx.heap[g]? := fun g h1 h2 => (hgr.block g (by simp; omega) (fun e => h2 e.symm)).trans ((Below.heap_alloc wz o g (by omega)).trans (hb.block g h1))
  have hin : ∀ g, wr.heap.size ≤ g → g < w4.heap.size → v.ownBlock ≠ some g := fun g h1 h2 e => by have := hvv g e; omega
  refine ⟨?_, ?_, ?_, ?_, ?_, by omega, hmid, h.inn4⟩
  · exact ((h.blw.trans (hb.mono (by omega))).alloc (by omega) _).grown hgr (by simp; omega) fun g e => (hlt g e).1
  · rw [List.map_append, h.key, List.take_add_one, hx, List.map_append, List.append_assoc]; rfl
  · refine h.row.grow hb ⟨?_, hfx.i64, ?_⟩ hown hgr hat
    · have hl : ((k : Int) :: x.p).length = x.p.length + 1 := rfl
      obtain ⟨A2, c2, e, hI⟩ := row_intsN (N := Apart (w.heap.size + 1) v wz) (l := (k : Int) :: x.p) (by rw [hl]; exact hp) (by rw [hl]; exact hxl) (fun y hy => by
        rcases List.mem_cons.1 hy with rfl | hy
        · exact hk
        · exact hfx.pos.i64 y hy) (fun g e => ⟨by have := (row_lt hp g e).1; omega, (row_lt hp g e).2, fun e2 => by have := (row_lt hp g e).1; have := (hlt g e2).2; omega⟩)
      rw [hvp] at e
      injection e with e1 _ e3
      subst e1; subst e3
      exact hI
    · exact (hfx.args.keep fun g e => hb.block g (by have := e.2.1; omega)).wide fun g e => ⟨by have := e.1; omega, by have := e.2.1; omega, hin g e.1 e.2.1⟩
  · exact h.inn.keep (fun g e => hK g (by have := h.inn4 g e; omega) (hin g (h.inn4 g e).1 (h.inn4 g e).2)) (fun g e => hK g (by have := e.2.1; omega) (hin g e.1 e.2.1))
  · intro g e
    rcases hat with h3 | h3
    · rw [h3] at e; exact hvv g e
    · rw [h3] at e; injection e with e; simp at e; right; omega

set_option maxHeartbeats 4000000 in
theorem refPlaces_any (t : Tm) : RPlacesAt t := by
  refine Tm.ind (P := RPlacesAt) (fun f xs ih => ?_) t
  intro hsz A c w hf hA
  simp only [Tm.fn, Tm.args] at hf hA ⊢
  obtain ⟨i0, hi, hz0, hz1, hz2⟩ := info_parts info_place
  obtain ⟨i1, hi1, hy0, hy1, hy2⟩ := info_parts infoInt
  obtain ⟨W, hW⟩ : ∃ W, w.alloc (.cells #[.int .i64 f, .slice A xs.length c] 24) = W := ⟨_, rfl⟩
  have hB : Below w.heap.size w W := by rw [← hW]; exact (Below.refl _ _).alloc (Nat.le_refl _) _
  have q0 : W.heap[w.heap.size]? = some (.cells #[.int .i64 f, .slice A xs.length c] 24) := by rw [← hW]; exact heap_alloc_new _ _
  have hWs : W.heap.size = w.heap.size + 1 := by rw [← hW]; simp
  obtain ⟨a0, a1, _, _⟩ := cells_two q0
  have HW := Lib.hid hW
  have HA := Lib.hid hA
  have hl64 := hA.len
  have H1 := Lib.hid (hA.on hB)
  clear hW hA
  go_enter Tryd.func11, Tryd.ntmps11
  go_upto_region 1 with fail
  rw [HW.out]
  go_wp2_with (first
    | (go_at_call 23; refine (refCopy_at (.node f xs) A c W (by omega) hf H1.out).mono ?_; go_must (rintro e w2 ⟨A4, c4, rfl, hN4, hb4⟩; simp only [Tm.fn, Tm.args] at hN4 ⊢))
    | fail)
  have hs2 := hb4.size
  have hI0 : Hid (RPI w W (w2.alloc (.cells #[.slice none 0 0, .int .i64 f, .slice A4 xs.length c4] 40)) xs f 0 (.slice (some ⟨w2.heap.size, 0, none⟩) 1 1) [⟨[], .node f xs, none, 0, A4, c4⟩]) := by
    have hBa : Below w2.heap.size w2 (w2.alloc (.cells #[.slice none 0 0, .int .i64 f, .slice A4 xs.length c4] 40)) := (Below.refl _ _).alloc (Nat.le_refl _) _
    refine ⟨?_, by simp [visL, Pk.key], ⟨row_base (own_three w2 _ _ _ _) (by omega), fun x hx => ?_⟩⟩
    · exact ((hb4.mono (by omega)).trans (hBa.mono (by omega)))
    · simp only [List.mem_cons, List.not_mem_nil, or_false] at hx
      subst hx
      exact ⟨IntsN.nil_ _ _ _, hf, (hN4.keep fun g e => hBa.block g e.2).wide fun g e => ⟨by omega, by have := e.2; simp; omega, fun e2 => by injection e2 with e2; have e3 : w2.heap.size = g := e2; have := e.2; omega⟩⟩
  clear hN4
  go_loopw [3, 4] (fun s3 i wr => ∃ (k : Nat) (v : Value) (L : List Pk), k ≤ xs.length ∧ i = .int .i64 (k : Int) ∧ v = s3 ∧ Hid (RPI w W wr xs f k v L)) (fun _ i _ => xs.length - (intOf i).toNat)
  case atStart => exact ⟨0, _, _, Nat.zero_le _, rfl, rfl, hI0⟩
  case round =>
    obtain ⟨k, v, L, hk, rfl, rfl, H⟩ := hrel
    obtain ⟨wo, rfl⟩ : ∃ wo, wo = wr := ⟨_, rfl⟩
    have hBr := H.out.blw
    by_cases hlt : k < xs.length
    · obtain ⟨u, hu⟩ : ∃ u, xs[k]? = some u := ⟨_, List.getElem?_eq_getElem hlt⟩
      have hBw : Below w.heap.size w wo := hB.trans (hBr.mono (by omega))
      have hrs : W.heap.size ≤ wo.heap.size := hBr.size
      obtain ⟨a0, a1, _, _⟩ := cells_two ((hBr.block w.heap.size (by omega)).trans q0)
      obtain ⟨bb, off, A1, c1, rfl, ha⟩ := HA.out.get hu
      have e0 := cell_on hBw ha.hb ha.c0
      have e1 := cell_on hBw ha.hb ha.c1
      have hs1 : Hid (Args wo wo.heap.size A1 u.args) := ha.sub.on hBw
      have hi64 := ha.hi
      have hmem := List.mem_of_getElem? hu
      have husz : u.size ≤ 1099511627776 := by have := size_mem hmem; simp only [Tm.size] at hsz; omega
      have hk64 : I64 (k : Int) := ⟨by omega, by omega⟩
      have Hu := Lib.hid hu
      clear hu ha
      go_wp2_with (first
        | (go_at_call 11
           go_must (
           refine (ih u hmem husz A1 c1 wo hi64 hs1.out).mono ?_
           rintro e w4 ⟨v4, L4, rfl, hL4, hR4, hb4⟩
           have hl4 : L4.length = u.size := by have := congrArg List.length hL4; rwa [vis_len, List.length_map] at this
           have hrow4 := hR4.row
           obtain ⟨g4, c4, hv4⟩ := row_some hrow4 (by have := size_pos u; omega)
           subst hv4
           have HR4 := Lib.hid hR4
           clear hR4 hrow4))
        | fail)
      have hJ0 : Hid (RPJ w W wo w4 w4 xs f k (.slice (some ⟨g4, 0, none⟩) L4.length c4) L4 0 v L) := by
        have hlt4 := row_lt HR4.out.row
        have hlv := row_lt H.out.row.row
        exact ⟨hBr.trans (hb4.mono (by omega)), by rw [H.out.key]; simp, (H.out.row.keep (fun g e => hb4.block g (hlv g e).2) (fun g e => hb4.block g e.2.1)).wide fun g e => ⟨e.1, by have := e.2.1; have := hb4.size; omega, e.2.2⟩, HR4.out, fun g e => .inl (hlv g e).2, Nat.le_refl _, hb4.size, hlt4⟩
      clear a0 a1 e0 e1
      go_loopw [3, 6] (fun s3 i' wx => ∃ (m : Nat) (v' : Value) (L' : List Pk), m ≤ L4.length ∧ i' = .int .i64 (m : Int) ∧ v' = s3 ∧ Hid (RPJ w W wo w4 wx xs f k (.slice (some ⟨g4, 0, none⟩) L4.length c4) L4 m v' L')) (fun _ i' _ => L4.length - (intOf i').toNat)
      case atStart => exact ⟨0, _, _, Nat.zero_le _, rfl, rfl, hJ0⟩
      case round =>
        obtain ⟨m, v', L', hm, rfl, rfl, HJ⟩ := hrel
        obtain ⟨wx, rfl⟩ : ∃ wx, wx = wr := ⟨_, rfl⟩
        have hL64 : L4.length ≤ 9223372036854775807 := by omega
        by_cases hml : m < L4.length
        · obtain ⟨x, hx⟩ : ∃ x, L4[m]? = some x := ⟨_, List.getElem?_eq_getElem hml⟩
          obtain ⟨g4', c4', e4, hog, hg4, y0, y1, y2, hfx⟩ := HJ.out.inn.get hx
          injection e4 with e4 _ e5
          injection e4 with e4
          injection e4 with e4 _ _
          subst e4
          subst e5
          have hxd := pk_depth hL4 (List.mem_of_getElem? hx)
          have hud := depth_le_size u
          have hroom := HJ.out.room Hu.out hL4 hml
          have hpx := hfx.pos
          have hxl : x.p.length ≤ 1099511627776 := by omega
          have hinB : ∀ g, Apart wo.heap.size (.slice (some ⟨g4, 0, none⟩) L4.length c4) w4 g → g < wx.heap.size := fun g e => Nat.lt_of_lt_of_le e.2.1 HJ.out.big
          have Hx := Lib.hid hx
          have Hpx := Lib.hid hpx
          have Hown0 := Lib.hid (own_one wx (.int .i64 (k : Int)) 3)
          have hBa : Below wx.heap.size wx (wx.alloc (.cells #[.int .i64 (k : Int)] 3)) := (Below.refl _ _).alloc (Nat.le_refl _) _
          clear hx hpx hfx hog
          go_wp2
          go_loopw [7, 8] (fun s7 j' wz => ∃ (j : Nat) (vp : Value), j ≤ x.p.length ∧ j' = .int .i64 (j : Int) ∧ vp = s7 ∧ Below wx.heap.size wx wz ∧ Hid (wz.ownsRow wx.heap.size 3 1 vp (j + 1) (((k : Int) :: x.p.take j).map (Value.int .i64)))) (fun _ j' _ => x.p.length - (intOf j').toNat)
          case atStart => exact ⟨0, _, Nat.zero_le _, rfl, rfl, hBa, by simpa using Hown0⟩
          case round =>
            obtain ⟨j, vp, hj, rfl, rfl, hBz, HP⟩ := hrel
            obtain ⟨wz, rfl⟩ : ∃ wz, wz = wr := ⟨_, rfl⟩
            have z0 := cell_on hBz hg4 y0
            have hp64 : x.p.length ≤ 9223372036854775807 := by omega
            by_cases hjl : j < x.p.length
            · obtain ⟨y, hy⟩ : ∃ y, x.p[j]? = some y := ⟨_, List.getElem?_eq_getElem hjl⟩
              obtain ⟨pb, po, epb, hpb, hpc⟩ := Hpx.out.ad (by omega)
              have z1 := cell_on hBz (hinB _ hpb) (hpc _ _ hy)
              rw [epb] at z0
              have htk : x.p.take (j + 1) = x.p.take j ++ [y] := by rw [List.take_add_one, hy]; rfl
              have Hy := Lib.hid htk
              have hbzs := hBz.size
              have hrl := row_lt HP.out
              clear hy hpc htk
              go_wp2_with (first
                | (at_builtin
                   go_must (
                   refine wpList_append_own _ rfl _ _ 26 rfl wx.heap.size 3 i1 (.int .i64 0) 1 8 Tryd.underlying26 hi1 hy0 hy1 hy2 rfl (by decide) _ (j + 1) _ rfl ((row_keep HP.out fun g e => Below.heap_alloc wz _ g (hrl g e).2)) ⟨wz.heap.size, 0, none⟩ 1 1 [.int .i64 y] rfl rfl (cell_one_new _ _ _) (by simp [Value.oneCell']) (by unfold maxLen; omega) (by omega) (by simp; omega) ?_
                   intro v2 w2' hown2 hgr2 _
                   have hB2 : Below wx.heap.size wx w2' := (hBz.alloc hbzs _).grown hgr2 (by simp; omega) fun g hg => (hrl g hg).1
                   have Hown2 := Lib.hid hown2
                   clear hgr2 hown2))
                | fail)
              go_roundw
              case rel => exact ⟨j + 1, _, by omega, by go_num, rfl, hB2, by rw [Hy.out]; simpa using Hown2⟩
              case measure => simp [intOf]; omega
            · obtain rfl : j = x.p.length := by omega
              obtain ⟨gp, cpp, evp⟩ := ownsRow_succ HP.out
              subst evp
              have HQ := Lib.hid (show wz.ownsRow wx.heap.size 3 1 (.slice (some ⟨gp, 0, none⟩) (x.p.length + 1) cpp) (x.p.length + 1) (((k : Int) :: x.p).map (Value.int .i64)) by simpa using HP.out)
              have w1' := cell_on hBz hg4 y1
              have w2' := cell_on hBz hg4 y2
              have hbzs := hBz.size
              have hrow := Lib.hid HJ.out.row.row
              have hrl := row_lt hrow.out
              have hwxs : w.heap.size + 1 ≤ wx.heap.size := by have := HJ.out.mid; have := HJ.out.big; omega
              go_wp2_with (first
                | (at_builtin
                   go_must (
                   refine wpList_append_own_at _ rfl _ _ 33 rfl (w.heap.size + 1) 40 i0 (.agg #[.slice none 0 0, .int .i64 0, .slice none 0 0]) 3 56 Tryd.underlying33 hi hz0 hz1 hz2 rfl (by decide) v' L'.length _ rfl (row_keep hrow.out fun g e => (Below.heap_alloc wz _ g (Nat.lt_of_lt_of_le (hrl g e).2 hbzs)).trans (hBz.block g (hrl g e).2)) ⟨wz.heap.size, 0, none⟩ 1 1 [.slice (some ⟨gp, 0, none⟩) (x.p.length + 1) cpp, .int .i64 x.t.fn, .slice x.A x.t.args.length x.c] rfl rfl (cells_new_three _ _ _ _ _) (by simp [Value.oneCell']) (by unfold maxLen; omega) (by omega) (by simp; omega) ?_
                   intro v5 w5 hown5 hgr5 _ hat5
                   have Hn5 := Lib.hid (HJ.out.next (x := x) (Ap := some ⟨gp, 0, none⟩) (cp := cpp) hWs hrs Hx.out hBz rfl HQ.out hk64 (by omega) hown5 hgr5 hat5)
                   clear hown5 hgr5 hat5))
                | fail)
              go_roundw
              case rel => exact ⟨m + 1, _, _, by omega, by go_num, rfl, Hn5⟩
              case measure => simp [intOf]; omega
        · obtain rfl : m = L4.length := by omega
          have hkey2 := HJ.out.key
          rw [List.take_length] at hkey2
          have Hnext : Hid (RPI w W wx xs f (k + 1) v' L') := ⟨HJ.out.blw, by
            rw [hkey2, visL_take Hu.out]
            have e : (L4.map fun x => ((k : Int) :: x.p, x.t)) = vis ([] ++ [(k : Int)]) u := by
              rw [List.nil_append, vis_one, ← hL4, List.map_map]; rfl
            rw [e]; simp, HJ.out.row⟩
          clear hkey2
          go_wp2
          go_roundw
          case rel => exact ⟨k + 1, _, _, by omega, by go_num, rfl, Hnext⟩
          case measure => simp [intOf]; omega
    · obtain rfl : k = xs.length := by omega
      obtain ⟨a0, a1, _, _⟩ := cells_two ((hBr.block w.heap.size (by omega)).trans q0)
      have hrow := H.out.row
      have hkey := H.out.key
      rw [List.take_length] at hkey
      have hBw : Below w.heap.size w wo := hB.trans (hBr.mono (by omega))
      go_wp2
      go_ret
      exact ⟨_, L, rfl, by rw [hkey, vis_eq]; rfl, ⟨row_base hrow.row (by omega), fun x hx => (hrow.fx x hx).wide fun g e => ⟨by have := e.1; omega, e.2.1, e.2.2⟩⟩, hBw⟩
end Go.Proofs.YtimgomoafeaoiaaDoor

namespace Go.Proofs.YtimgomoafeaoiaaDoor
open Go.RowKit Go.Shelf
set_option maxRecDepth 100000

theorem refSame_self (t : Tm) (A A2 : Option Addr) (c c2 : Nat) (w : World) (hf : I64 t.fn) (hA : Args w w.heap.size A t.args) (hA2 : Args w w.heap.size A2 t.args) :
    Calls Tryd.prog 10 #[.agg #[.int .i64 t.fn, .slice A t.args.length c], .agg #[.int .i64 t.fn, .slice A2 t.args.length c2]] w fun e w' => e = .returned (.bool true) ∧ Below w.heap.size w w' := by
  refine (ref2Same_any' t t A A2 c c2 w hf hf hA hA2).mono ?_
  rintro e w' ⟨rfl, h⟩
  exact ⟨ret_bool (decide_eq_true (cmp_refl t)), h⟩
theorem termAt_gen (t : Tm) (p : List Int) (A : Option Addr) (c : Nat) (Ap : Option Addr) (cp : Nat) (w : World) (hsz : t.size ≤ 4398046511104) (hi : I64 t.fn) (hA : Args w w.heap.size A t.args) (hp : Ints w w.heap.size Ap p) :
    Calls Tryd.prog 6 #[.agg #[.int .i64 t.fn, .slice A t.args.length c], .slice Ap p.length cp] w (RAtPost t p w) := by
  refine (termAt_any t p A c Ap cp w hsz hi hA hp).mono ?_
  rintro e w' ⟨A', c', rfl, h1, h2, h3⟩
  exact ⟨A', c', rfl, h1, h2.args (Nat.le_refl _), h3⟩
def PutPostG (t : Tm) (p : List Int) (s : Tm) (w : World) (e : Ending) (w' : World) : Prop := ∃ A' c', e = .returned (.tuple #[.agg #[.int .i64 (putO t p s).fn, .slice A' (putO t p s).args.length c'], .bool (subT t p).isSome]) ∧ I64 (putO t p s).fn ∧ Args w' w'.heap.size A' (putO t p s).args ∧ Below w.heap.size w w'
theorem termPut_gen (t : Tm) (p : List Int) (s : Tm) (A : Option Addr) (c : Nat) (Ap : Option Addr) (cp : Nat) (As : Option Addr) (cs : Nat) (w : World) (hsz : t.size ≤ 4398046511104) (hss : s.size ≤ 4398046511104) (hi : I64 t.fn) (his : I64 s.fn) (hA : Args w w.heap.size A t.args) (hp : Ints w w.heap.size Ap p) (hAs : Args w w.heap.size As s.args) :
    Calls Tryd.prog 8 #[.agg #[.int .i64 t.fn, .slice A t.args.length c], .slice Ap p.length cp, .agg #[.int .i64 s.fn, .slice As s.args.length cs]] w (PutPostG t p s w) := by
  refine (termPut_any t p s A c Ap cp As cs w hsz hss hi his hA hp hAs).mono ?_
  rintro e w' ⟨h1, h2⟩
  cases hs : subT t p with
  | none =>
    rw [hs] at h2
    have ho : putO t p s = .node 0 [] := by unfold putO; rw [hs]; rfl
    refine ⟨none, 0, by rw [ho, hs]; exact h2, by rw [ho]; exact ⟨by decide, by decide⟩, by rw [ho]; exact .nil _, h1⟩
  | some v =>
    rw [hs] at h2
    obtain ⟨A', c', h3, h4, h5⟩ := h2
    have ho : putO t p s = putT t p s := by unfold putO; rw [hs]; rfl
    exact ⟨A', c', by rw [ho, hs]; exact h3, by rw [ho]; exact h4, by rw [ho]; exact h5, h1⟩
theorem refPut_gen (t : Tm) (p : List Int) (s : Tm) (A : Option Addr) (c : Nat) (Ap : Option Addr) (cp : Nat) (As : Option Addr) (cs : Nat) (w : World) (hsz : t.size ≤ 4398046511104) (hss : s.size ≤ 4398046511104) (hi : I64 t.fn) (his : I64 s.fn) (hA : Args w w.heap.size A t.args) (hp : Ints w w.heap.size Ap p) (hcp : p.length ≤ cp) (hcp2 : cp ≤ 9223372036854775807) (hAs : Args w w.heap.size As s.args) :
    Calls Tryd.prog 9 #[.agg #[.int .i64 t.fn, .slice A t.args.length c], .slice Ap p.length cp, .agg #[.int .i64 s.fn, .slice As s.args.length cs]] w (PutPostG t p s w) := by
  refine (refPut_any p t s A c Ap cp As cs w hsz hss hi his hA hp hcp hcp2 hAs).mono ?_
  rintro e w' ⟨A', c', rfl, h1, h2, h3⟩
  exact ⟨A', c', rfl, h1, h2.args fun g e => e.2, h3⟩

/-- A function value is not nil. -/
theorem run_eql_seqQ (f : Fn) (xs ys : Array Value) (w : World) : (binOp .eql 36 (.func f xs ys) .nilFunc).run Tryd.prog w = .ok (.bool false) w := by
  have h : ∀ d, (Op.equalIn (d + 1) 36 (.func f xs ys) .nilFunc).run Tryd.prog w = .ok false w := fun d => by
    simp [Op.equalIn, run_underlying Tryd.underlying36]
  simp only [binOp]
  simp [Op.equal, Op.maxDepth, h 9999]

/-- What TermPlaces keeps through its range: the number of rounds, the result's box, the row of places, the number of the last round. -/
structure PlcI (w : World) (nB lB big M base : Nat) (lv : Int) (v : Value) (L : List Pk) (pre : List Vis) (Wx : World) : Prop where
  n : Boxed Wx nB 3 (.int .i64 (pre.length : Int))
  r : Boxed Wx (w.heap.size + 3) 4 (.bool false)
  lb : Boxed Wx lB 33 v
  lv : Boxed Wx (w.heap.size + 2) 3 (.int .i64 lv)
  row : RowP Wx base v L (· < M)
  blw : Below w.heap.size w Wx
  big : big ≤ Wx.heap.size
section
variable {w Wx Wy : World} {nB lB big M base b : Nat} {lv : Int} {v : Value} {L : List Pk} {pre : List Vis}
theorem plc_frame (hn : nB < b) (hl : lB < b) (hw : w.heap.size + 3 < b) (hM : M ≤ b) (hv : ∀ g, v.ownBlock = some g → g < M) : FrameC (fun _ g => g < b) (PlcI w nB lB big M base lv v L) := by
  intro s A B h hk
  exact ⟨⟨(hk.block _ (by show _ < _; omega)).trans h.n, (hk.block _ (by show _ < _; omega)).trans h.r, (hk.block _ (by show _ < _; omega)).trans h.lb, (hk.block _ (by show _ < _; omega)).trans h.lv, h.row.keep (fun g e => hk.block g (by have := hv g e; show _ < _; omega)) (fun g e => hk.block g (by have e' : g < M := e; show _ < _; omega)), h.blw.trans (hk.below fun g e => by show g < _; omega), Nat.le_trans h.big hk.size⟩, fun g e => e⟩
theorem plc_bound (hb : b ≤ big) : BoundC (fun _ g => g < b) (PlcI w nB lB big M base lv v L) := by
  intro s A h g e
  have := h.big
  have e' : g < b := e
  omega
theorem PlcI.put {l : Nat} {r : Loop} {o : Obj} (h : PlcI w nB lB big M base lv v L pre Wx) (hl : Wx.heap[l]? = some (.loop r)) (hn : w.heap.size ≤ l) (hM : M ≤ l) (hv : ∀ g, v.ownBlock = some g → g < M) : PlcI w nB lB big M base lv v L pre (Wx.putObj l o) :=
  ⟨put_block h.n hl, put_block h.r hl, put_block h.lb hl, put_block h.lv hl, h.row.keep (fun g e => (Keeps.put Wx l o).block g (by have := hv g e; show g ≠ l; omega)) (fun g e => (Keeps.put Wx l o).block g (by have e' : g < M := e; show g ≠ l; omega)), h.blw.trans ((Keeps.put Wx l o).below fun g e => by show g ≠ l; omega), by simpa using h.big⟩
theorem PlcI.on (h : PlcI w nB lB big M base lv v L pre Wx) (hb : Below Wx.heap.size Wx Wy) (hM : M ≤ Wx.heap.size) (hv : ∀ g, v.ownBlock = some g → g < M) : PlcI w nB lB big M base lv v L pre Wy :=
  ⟨(hb.block _ h.n.lt).trans h.n, (hb.block _ h.r.lt).trans h.r, (hb.block _ h.lb.lt).trans h.lb, (hb.block _ h.lv.lt).trans h.lv, h.row.keep (fun g e => hb.block g (by have := hv g e; omega)) (fun g e => hb.block g (by have e' : g < M := e; omega)), h.blw.trans (hb.mono h.blw.size), Nat.le_trans h.big hb.size⟩
theorem PlcI.next {x : Vis} (h : PlcI w nB lB big M base lv v L pre Wx) (hn : w.heap.size + 3 < nB) (hl : lB ≠ nB) (hM : M ≤ nB) (hv : ∀ g, v.ownBlock = some g → g < M) : PlcI w nB lB big M base lv v L (pre ++ [x]) (Wx.setCell ⟨nB, 0, none⟩ (.int .i64 ((pre.length : Int) + 1))) := by
  have hk : ∀ g, g ≠ nB → (Wx.setCell ⟨nB, 0, none⟩ (.int .i64 ((pre.length : Int) + 1))).heap[g]? = Wx.heap[g]? := fun g e => heap_setCell_other _ _ _ _ e
  refine ⟨?_, (hk _ (by omega)).trans h.r, (hk _ hl).trans h.lb, (hk _ (by omega)).trans h.lv, h.row.keep (fun g e => hk g (by have := hv g e; omega)) (fun g e => hk g (by have e' : g < M := e; omega)), h.blw.setCell (by show _ ≤ nB; omega) _, by simpa using h.big⟩
  rw [List.length_append, show ((pre.length + [x].length : Nat) : Int) = (pre.length : Int) + 1 from by simp]
  exact Boxed.set _ h.n
end
/-- The next place that is handed over is the row's next. -/
theorem plc_at {L : List Pk} {t : Tm} {pre : List Vis} {x : Vis} (hL : L.map Pk.key = vis [] t) (h : (pre ++ [x]).map Vis.key <+: vis [] t) : ∃ Ap cp A c, L[pre.length]? = some ⟨x.pos, x.t, Ap, cp, A, c⟩ := by
  have h1 : (vis [] t)[pre.length]? = some x.key := by
    obtain ⟨r, hr⟩ := h
    rw [← hr, List.map_append]
    simp
  rw [← hL, List.getElem?_map] at h1
  cases hy : L[pre.length]? with
  | none => rw [hy] at h1; cases h1
  | some y =>
    rw [hy] at h1
    obtain ⟨p, u, Ap, cp, A, c⟩ := y
    simp only [Option.map_some, Pk.key, Vis.key, Option.some.injEq, Prod.mk.injEq] at h1
    obtain ⟨rfl, rfl⟩ := h1
    exact ⟨Ap, cp, A, c, rfl⟩
/-- Left behind a round's return: the result's box. -/
structure PlcX (w : World) (Wx : World) : Prop where
  r : Boxed Wx (w.heap.size + 3) 4 (.bool true)
  blw : Below w.heap.size w Wx
theorem plcx_frame {w : World} {b : Nat} (hw : w.heap.size + 3 < b) (cd : Code) : FrameC (fun _ g => g < b) (fun (_ : List Vis) Wx => cd = .ret ∧ PlcX w Wx) := by
  rintro s A B ⟨h1, h⟩ hk
  exact ⟨⟨h1, (hk.block _ (by show _ < _; omega)).trans h.r, h.blw.trans (hk.below fun g e => by show g < _; omega)⟩, fun g e => e⟩
end Go.Proofs.YtimgomoafeaoiaaDoor

namespace Go.Proofs.YtimgomoafeaoiaaDoor
open Go
variable {F : Fence} {n : Nat} {P : Program} {ops : Array Oper} {C : World → Prop} {md : Region.Mode}

theorem rd_op {o : Oper} {a : Act} {K : Act → Prop} {K' : Act → World → Prop} {Q' : Exit → Act → World → Prop} {w : World} (hs : ∀ ρ, o.semAt F.round ρ = execOp ρ o) (hw : C w) (h : ∀ a w', C w' → K a → K' a w')
    (ha : o.askedIn F P a C) (hq : o.quietIn F n P a C K) : o.wpIn F n P a w K' Q' := by
  obtain ⟨v, h1, h2⟩ := hq
  have h3 := h1 w hw
  unfold Oper.quietAtIn at h3
  refine ⟨ha w hw, ?_⟩
  rw [hs]
  revert h3
  generalize (execOp a.eval o).run P w = r
  intro h3
  rcases r with ⟨x, w'⟩ | ⟨x, w'⟩
  · cases x <;> simp only [Oper.quietUponIn] at h3
    · rw [h3.1, h3.2]; exact h _ _ hw h2
    · rw [h3.1]
      show K' (a.put o.dst undef) w
      rw [← h3.2]; exact h _ _ hw h2
    · rw [h3.1]
      exact ⟨h3.2.1, h3.2.2.mono fun e w'' he => by obtain ⟨rfl, hw''⟩ := he; exact h _ _ hw'' h2⟩
  · simp only [Oper.quietUponIn] at h3

theorem rd_num {i : Nat} {a : Act} {K : Act → Prop} {K' : Act → World → Prop} {Q' : Exit → Act → World → Prop} {w : World} (hs : ∀ (j : Nat) o, ops[j]? = some o → ∀ ρ, o.semAt F.round ρ = execOp ρ o) (hC : C w) (h : ∀ a w', C w' → K a → K' a w')
    (hq : qOpIn F n P ops C i K a) : wpOpIn F n P ops Q' i K' a w := by
  unfold qOpIn at hq
  unfold wpOpIn
  cases ho : ops[i]? with
  | none => simp only [ho] at hq; exact h _ _ hC hq
  | some o =>
    simp only [ho] at hq
    by_cases hw : Region.wanted o (yielded ops a.tmps) = true
    · simp only [hw, if_true] at hq ⊢
      exact rd_op (hs i o ho) hC h hq.1 hq.2
    · simp only [hw] at hq ⊢
      exact ⟨hq.1 w hC, h _ _ hC hq.2⟩

theorem rd_any {Q : Act → Prop} {Q' : Exit → Act → World → Prop} (hs : ∀ (j : Nat) o, ops[j]? = some o → ∀ ρ, o.semAt F.round ρ = execOp ρ o) (hQ : ∀ a w, C w → Q a → Q' .normal a w) : ∀ (fuel : Nat) (listed : Array Bool) (a : Act) (w : World), C w →
    wpAnyQIn F n P md ops C Q fuel listed a → wpAnyIn F n P md ops Q' fuel listed a w
  | 0, _, _, _, hw, h => ⟨h.1, hQ _ _ hw h.2⟩
  | k + 1, _, _, _, hw, h => ⟨fun h0 => hQ _ _ hw (h.1 h0), fun i hi => rd_num hs hw (fun a' w' hw' => rd_any hs hQ k _ a' w' hw') (h.2 i hi)⟩

/-- No operation of the region is a defer: told by a look at each. -/
def noDefer (l : List Oper) : Bool := l.all fun o => match o.op with | .defer _ => false | _ => true
theorem rd_sem {l : List Oper} (h : noDefer l = true) (r : Nat) : ∀ (j : Nat) o, l.toArray[j]? = some o → ∀ ρ, o.semAt (some r) ρ = execOp ρ o := by
  intro j o ho ρ
  have hm : o ∈ l := by simpa using Array.mem_of_getElem? ho
  have := List.all_eq_true.1 h o hm
  refine Oper.semAt_some r ρ o fun c hc => ?_
  rw [hc] at this
  cases this

theorem wpIn_region_rd {id r : Nat} {Q : Exit → Act → World → Prop} {a : Act} {w : World} {l : List Oper} (hro : F.round = some r) (hd : noDefer l = true) (hm : P.follows .mixedOrders = true) (hB : Region.lexB .any l.toArray = true)
    (h : wpQuietIn F n P l.toArray (fun w' => ∃ n, w' = w.drewN n) (fun a' => ∀ w', (∃ n, w' = w.drewN n) → Q .normal a' w') l a) : (Code.region id l.toArray true).wpIn F n P Q a w := by
  simp only [Region.lexB, Bool.and_eq_true] at hB
  refine wpIn_region_any hm (rd_any (Q := fun a' => ∀ w', (∃ n, w' = w.drewN n) → Q .normal a' w') (C := fun w' => ∃ n, w' = w.drewN n) (by rw [hro]; exact rd_sem hd r) (fun _ w' hw' h => h w' hw') _ _ _ _ ⟨1, rfl⟩ ?_)
  have := wpAnyQIn_lex (F := F) (n := n) (P := P) (C := fun w' => ∃ n, w' = w.drewN n) (md := .any) hB.1 l 0 (Array.replicate l.toArray.size false) a (by simp) (by simpa using hB.2) h
  simpa using this

/-- The same, where calls may make memory: what is said of every world (C) they keep. -/
theorem wpIn_region_rdC {id r : Nat} {Q : Exit → Act → World → Prop} {a : Act} {w : World} {l : List Oper} (hro : F.round = some r) (hd : noDefer l = true) (hm : P.follows .mixedOrders = true) (hB : Region.lexB .any l.toArray = true) (hC : C w.drew)
    (h : wpQuietIn F n P l.toArray C (fun a' => ∀ w', C w' → Q .normal a' w') l a) : (Code.region id l.toArray true).wpIn F n P Q a w := by
  simp only [Region.lexB, Bool.and_eq_true] at hB
  refine wpIn_region_any hm (rd_any (Q := fun a' => ∀ w', C w' → Q .normal a' w') (C := C) (by rw [hro]; exact rd_sem hd r) (fun _ w' hw' h => h w' hw') _ _ _ _ hC ?_)
  have := wpAnyQIn_lex (F := F) (n := n) (P := P) (C := C) (md := .any) hB.1 l 0 (Array.replicate l.toArray.size false) a (by simp) (by simpa using hB.2) h
  simpa using this

end Go.Proofs.YtimgomoafeaoiaaDoor

namespace Go.Proofs.YtimgomoafeaoiaaDoor
open Go.RowKit Go.Shelf
attribute [local go_sem] Oper.semAt_some
set_option maxRecDepth 100000

theorem heap4 (w : World) (o1 o2 o3 o4 : Obj) : ((((w.alloc o1).alloc o2).alloc o3).alloc o4).heap[w.heap.size]? = some o1 ∧ ((((w.alloc o1).alloc o2).alloc o3).alloc o4).heap[w.heap.size + 1]? = some o2 ∧ ((((w.alloc o1).alloc o2).alloc o3).alloc o4).heap[w.heap.size + 2]? = some o3 ∧ ((((w.alloc o1).alloc o2).alloc o3).alloc o4).heap[w.heap.size + 3]? = some o4 := by
  obtain ⟨h1, h2, h3⟩ := heap3 w o1 o2 o3
  have e3 : (((w.alloc o1).alloc o2).alloc o3).heap.size = w.heap.size + 3 := by simp
  refine ⟨?_, ?_, ?_, ?_⟩
  · rw [Below.heap_alloc _ _ _ (by omega)]; exact h1
  · rw [Below.heap_alloc _ _ _ (by omega)]; exact h2
  · rw [Below.heap_alloc _ _ _ (by omega)]; exact h3
  · rw [← e3]; exact heap_alloc_new _ o4

/-- A later world, whatever has been laid since. -/
def OnW (w w' : World) : Prop := Below w.heap.size w w'
theorem OnW.out {w w' : World} (h : OnW w w') : Below w.heap.size w w' := h
theorem OnW.refl (w : World) : OnW w w := Below.refl _ _
theorem OnW.drew {w w' : World} (h : OnW w w') : OnW w w'.drew := bl_drewN h 1
theorem OnW.step {w w' w'' : World} (h : OnW w w') (h' : Below w'.heap.size w' w'') : OnW w w'' := bl_step h h'

theorem refPlaces_at (t : Tm) (A : Option Addr) (c : Nat) (w : World) (hsz : t.size ≤ 1099511627776) (hf : I64 t.fn) (hA : Args w w.heap.size A t.args) :
    Calls Tryd.prog 11 #[.agg #[.int .i64 t.fn, .slice A t.args.length c]] w fun e w' => ∃ g c' L, e = .returned (.slice (some ⟨g, 0, none⟩) L.length c') ∧ L.map Pk.key = vis [] t ∧ L.length = t.size ∧ g < w'.heap.size ∧ RowP w' w.heap.size (.slice (some ⟨g, 0, none⟩) L.length c') L (· < w'.heap.size) ∧ Below w.heap.size w w' := by
  refine (refPlaces_any t hsz A c w hf hA).mono ?_
  rintro e w' ⟨v, L, rfl, hL, hR, hb⟩
  have hl : L.length = t.size := by have := congrArg List.length hL; rwa [vis_len, List.length_map] at this
  obtain ⟨g, c', rfl⟩ := row_some hR.row (by have := size_pos t; omega)
  exact ⟨g, c', L, rfl, hL, hl, (row_lt hR.row g rfl).2, hR.wide fun k e => e.2.1, hb⟩

set_option maxHeartbeats 8000000 in
theorem TermPlaces_any (t s : Tm) (p : List Int) (lv : Int) (A : Option Addr) (c : Nat) (Ap : Option Addr) (cp : Nat) (As : Option Addr) (cs : Nat) (w : World) (hsz : t.size ≤ 1048576) (hss : s.size ≤ 1048576) (hf : I64 t.fn) (hfs : I64 s.fn) (hA : Args w w.heap.size A t.args) (hAs : Args w w.heap.size As s.args) (hp : Ints w w.heap.size Ap p) (hcp : p.length ≤ cp) (hcp2 : cp ≤ 9223372036854775807) (ht : tru w) :
    Calls Tryd.prog 3 #[.agg #[.int .i64 t.fn, .slice A t.args.length c], .slice Ap p.length cp, .agg #[.int .i64 s.fn, .slice As s.args.length cs], .int .i64 lv] w fun e w' => e = .returned (.bool true) ∧ Below w.heap.size w w' := by
  obtain ⟨q0, q1, q2, q3⟩ := heap4 w (.cells #[.int .i64 t.fn, .slice A t.args.length c] 24) (.cells #[.int .i64 s.fn, .slice As s.args.length cs] 24) (.cells #[.int .i64 lv] 3) (.cells #[.bool false] 4)
  obtain ⟨W, hW⟩ : ∃ W, ((((w.alloc (.cells #[.int .i64 t.fn, .slice A t.args.length c] 24)).alloc (.cells #[.int .i64 s.fn, .slice As s.args.length cs] 24)).alloc (.cells #[.int .i64 lv] 3)).alloc (.cells #[.bool false] 4)) = W := ⟨_, rfl⟩
  have hB : Below w.heap.size w W := by rw [← hW]; exact ((((Below.refl _ _).alloc (Nat.le_refl _) _).alloc (by simp) _).alloc (by simp; omega) _).alloc (by simp; omega) _
  rw [hW] at q0 q1 q2 q3
  have hWs : w.heap.size + 3 < W.heap.size := (Array.getElem?_eq_some_iff.1 q3).1
  have hds := depth_le_size t
  have hdss := depth_le_size s
  have H1 := Lib.hid (hA.on hB)
  have H2 := Lib.hid (hAs.on hB)
  have H3 := Lib.hid (hp.on hB)
  have HT := Lib.hid (tru_below ht hB)
  have HW := Lib.hid hW
  have HT0 := Lib.hid ht
  have hpl := hp.len
  clear hW hA hAs hp ht
  refine (callsIn_wide (n := 3)).1 (callsIn_of_wp_marks Tryd.func3 rfl trivial ?_ rfl)
  simp only [Tryd.ntmps3, List.size_toArray, List.length_cons, List.length_nil, Nat.reduceAdd, Nat.reduceSub, Array.replicate_succ, Array.replicate_zero, List.push_toArray, List.append_toArray, List.nil_append, List.cons_append]
  refine wpIn_wide.2 ?_
  have fin : ∀ (w' : World), Below W.heap.size W w' → Below w.heap.size w w' := fun w' h => hB.trans (h.mono (by omega))
  have hTS : ∀ w', Below W.heap.size W w' → w'.cell? ⟨w.heap.size, 0, none⟩ = some (.int .i64 t.fn) ∧ w'.cell? ⟨w.heap.size, 1, none⟩ = some (.slice A t.args.length c) ∧ w'.cell? ⟨w.heap.size + 1, 0, none⟩ = some (.int .i64 s.fn) ∧ w'.cell? ⟨w.heap.size + 1, 1, none⟩ = some (.slice As s.args.length cs) := fun w' h =>
    ⟨(cells_two ((h.block _ (by omega)).trans q0)).1, (cells_two ((h.block _ (by omega)).trans q0)).2.1, (cells_two ((h.block _ (by omega)).trans q1)).1, (cells_two ((h.block _ (by omega)).trans q1)).2.1⟩
  obtain ⟨x0, x1, y0, y1⟩ := hTS W (Below.refl _ _)
  by_cases hg : 1000 < t.size ∨ 200 < t.depth
  · have hgd := Lib.hid hg
    clear hg
    go_upto_region 1 with fail
    rw [HW.out]
    go_wp2_with (first
      | (go_at_call 4; refine (great_true hgd.out A c W (by omega) hf H1.out).mono ?_; go_must (rintro e w1 ⟨rfl, hb1⟩; have r1 := (hb1.block _ hWs).trans q3))
      | (go_at_call 5; refine (wakes_any w1 (tru_below HT.out hb1)).mono ?_; go_must (rintro e w2 ⟨rfl, hb2⟩; have hB2 := bl_step hb1 hb2; have r2 := (hB2.block _ hWs).trans q3; have hc := Boxed.cell r2; have hfz := Boxed.frozen r2))
      | fail)
    have hc' := Boxed.cell (Boxed.set (.bool true) r2)
    exact ⟨.bool true, by simp [results, Tryd.results3, go_sem, hc'], rfl, (fin _ hB2).setCell (by show _ ≤ w.heap.size + 3; omega) _⟩
  · have hgd := Lib.hid hg
    clear hg
    by_cases hg2 : 1000 < s.size ∨ 200 < s.depth
    · have hgd2 := Lib.hid hg2
      clear hg2
      go_upto_region 1 with fail
      rw [HW.out]
      go_wp2_with (first
        | (go_at_call 4; (with_reducible refine (great_false hgd.out A c W (by omega) hf H1.out).mono ?_); go_must (rintro e w1 ⟨rfl, hb1⟩; clear x0 x1 y0 y1; obtain ⟨x0, x1, y0, y1⟩ := hTS _ hb1))
        | (go_at_call 4; (with_reducible refine (great_true hgd2.out As cs w1 (by omega) hfs (H2.out.on hb1)).mono ?_); go_must (rintro e w3 ⟨rfl, hb3⟩; have hB3 := bl_step hb1 hb3; have r1 := (hB3.block _ hWs).trans q3))
        | (go_at_call 5; refine (wakes_any w3 (tru_below HT.out hB3)).mono ?_; go_must (rintro e w2 ⟨rfl, hb2⟩; have hB2 := bl_step hB3 hb2; have r2 := (hB2.block _ hWs).trans q3; have hc := Boxed.cell r2; have hfz := Boxed.frozen r2))
        | fail)
      have hc' := Boxed.cell (Boxed.set (.bool true) r2)
      exact ⟨.bool true, by simp [results, Tryd.results3, go_sem, hc'], rfl, (fin _ hB2).setCell (by show _ ≤ w.heap.size + 3; omega) _⟩
    · have hgd2 := Lib.hid hg2
      clear hg2
      have heq := run_eql_seqQ
      go_upto_region 1 with fail
      rw [HW.out]
      go_upto_region 4 with (first
        | (go_at_call 4; (with_reducible refine (great_false hgd.out A c W (by omega) hf H1.out).mono ?_); go_must (rintro e w1 ⟨rfl, hb1⟩; clear x0 x1 y0 y1; obtain ⟨x0, x1, y0, y1⟩ := hTS _ hb1))
        | (go_at_call 4; (with_reducible refine (great_false hgd2.out As cs w1 (by omega) hfs (H2.out.on hb1)).mono ?_); go_must (rintro e w2 ⟨rfl, hb2⟩; have hB2 := bl_step hb1 hb2; clear x0 x1 y0 y1; obtain ⟨x0, x1, y0, y1⟩ := hTS _ hB2))
        | (go_at_call 6; (with_reducible refine (termAt_gen t p A c Ap cp w2 (by omega) hf (H1.out.on hB2) (H3.out.on hB2)).mono ?_); go_must (rintro e w3 ⟨A3, c3, rfl, hi3, hA3, hb3⟩))
        | fail)
      obtain ⟨W3, hW3⟩ : ∃ W3, w3.alloc (.cells #[.int .i64 (atT t p).fn, .slice A3 (atT t p).args.length c3] 24) = W3 := ⟨_, rfl⟩
      have hbb3 : Below w3.heap.size w3 W3 := by rw [← hW3]; exact (Below.refl _ _).alloc (Nat.le_refl _) _
      have k3 : W3.heap[w3.heap.size]? = some (.cells #[.int .i64 (atT t p).fn, .slice A3 (atT t p).args.length c3] 24) := by rw [← hW3]; exact heap_alloc_new _ _
      have hB3 := bl_step hB2 (bl_step hb3 hbb3)
      have HA3 := Lib.hid (hA3.on hbb3)
      rw [hW3]
      clear hW3 hA3 x0 x1 y0 y1
      obtain ⟨x0, x1, y0, y1⟩ := hTS _ hB3
      go_upto_region 5 with (first
        | (go_at_call 7; (with_reducible refine (refAt_any t p A c Ap cp W3 (by omega) hf (H1.out.on hB3) (H3.out.on hB3)).mono ?_); go_must (rintro e w4 ⟨A4, c4, rfl, hi4, hA4, hb4⟩))
        | fail)
      obtain ⟨W4, hW4⟩ : ∃ W4, w4.alloc (.cells #[.int .i64 (atT t p).fn, .slice A4 (atT t p).args.length c4] 24) = W4 := ⟨_, rfl⟩
      have hbb4 : Below w4.heap.size w4 W4 := by rw [← hW4]; exact (Below.refl _ _).alloc (Nat.le_refl _) _
      have k4 : W4.heap[w4.heap.size]? = some (.cells #[.int .i64 (atT t p).fn, .slice A4 (atT t p).args.length c4] 24) := by rw [← hW4]; exact heap_alloc_new _ _
      have hB4 := bl_step hB3 (bl_step hb4 hbb4)
      have HA4 := Lib.hid (hA4.on hbb4)
      rw [hW4]
      clear hW4 hA4 x0 x1 y0 y1
      obtain ⟨x0, x1, y0, y1⟩ := hTS _ hB4
      go_upto_region 6 with (first
        | (go_at_call 8; (with_reducible refine (termPut_gen t p s A c Ap cp As cs W4 (by omega) (by omega) hf hfs (H1.out.on hB4) (H3.out.on hB4) (H2.out.on hB4)).mono ?_); go_must (rintro e w5 ⟨A5, c5, rfl, hi5, hA5, hb5⟩))
        | fail)
      obtain ⟨W5, hW5⟩ : ∃ W5, w5.alloc (.cells #[.int .i64 (putO t p s).fn, .slice A5 (putO t p s).args.length c5] 24) = W5 := ⟨_, rfl⟩
      have hbb5 : Below w5.heap.size w5 W5 := by rw [← hW5]; exact (Below.refl _ _).alloc (Nat.le_refl _) _
      have k5 : W5.heap[w5.heap.size]? = some (.cells #[.int .i64 (putO t p s).fn, .slice A5 (putO t p s).args.length c5] 24) := by rw [← hW5]; exact heap_alloc_new _ _
      have hB5 := bl_step hB4 (bl_step hb5 hbb5)
      have HA5 := Lib.hid (hA5.on hbb5)
      rw [hW5]
      clear hW5 hA5 x0 x1 y0 y1
      obtain ⟨x0, x1, y0, y1⟩ := hTS _ hB5
      go_upto_region 7 with (first
        | (go_at_call 9; (with_reducible refine (refPut_gen t p s A c Ap cp As cs W5 (by omega) (by omega) hf hfs (H1.out.on hB5) (H3.out.on hB5) hcp hcp2 (H2.out.on hB5)).mono ?_); go_must (rintro e w6 ⟨A6, c6, rfl, hi6, hA6, hb6⟩))
        | fail)
      obtain ⟨W6, hW6⟩ : ∃ W6, w6.alloc (.cells #[.int .i64 (putO t p s).fn, .slice A6 (putO t p s).args.length c6] 24) = W6 := ⟨_, rfl⟩
      have hbb6 : Below w6.heap.size w6 W6 := by rw [← hW6]; exact (Below.refl _ _).alloc (Nat.le_refl _) _
      have k6 : W6.heap[w6.heap.size]? = some (.cells #[.int .i64 (putO t p s).fn, .slice A6 (putO t p s).args.length c6] 24) := by rw [← hW6]; exact heap_alloc_new _ _
      have hB6 := bl_step hB5 (bl_step hb6 hbb6)
      have HA6 := Lib.hid (hA6.on hbb6)
      rw [hW6]
      clear hW6 hA6 x0 x1 y0 y1
      obtain ⟨x0, x1, y0, y1⟩ := hTS _ hB6
      -- the four boxes, in the world of the tests
      have hb36 := bl_step hbb3 (bl_step (bl_step hb4 hbb4) (bl_step (bl_step hb5 hbb5) (bl_step hb6 hbb6)))
      have l3 := (Array.getElem?_eq_some_iff.1 k3).1
      have l4 := (Array.getElem?_eq_some_iff.1 k4).1
      have l5 := (Array.getElem?_eq_some_iff.1 k5).1
      have l6 := (Array.getElem?_eq_some_iff.1 k6).1
      have hb5W := bl_step hb6 hbb6
      have hb4W := bl_step (bl_step hb5 hbb5) hb5W
      have hb3W := bl_step (bl_step hb4 hbb4) hb4W
      have m3 := (hb3W.block _ l3).trans k3
      have m4 := (hb4W.block _ l4).trans k4
      have m5 := (hb5W.block _ l5).trans k5
      have HA3' := Lib.hid (HA3.out.on hb3W)
      have HA4' := Lib.hid (HA4.out.on hb4W)
      have HA5' := Lib.hid (HA5.out.on hb5W)
      have z3 := Nat.lt_of_lt_of_le l3 hb3W.size
      have z4 := Nat.lt_of_lt_of_le l4 hb4W.size
      have z5 := Nat.lt_of_lt_of_le l5 hb5W.size
      obtain ⟨a0, a1, _, _⟩ := cells_two m3
      obtain ⟨b0, b1, _, _⟩ := cells_two m4
      obtain ⟨d0, d1, _, _⟩ := cells_two m5
      obtain ⟨e0, e1, _, _⟩ := cells_two k6
      clear hb36 x0 x1 y0 y1
      go_upto_region 9 with (first
        | (go_at_call 10; (with_reducible refine (refSame_self (atT t p) A3 A4 c3 c4 W6 hi3 HA3'.out HA4'.out).mono ?_); go_must (rintro e w7 ⟨rfl, hb7⟩; have hB7 := bl_step hB6 hb7; have d0' := cell_on hb7 z5 d0; have d1' := cell_on hb7 z5 d1; have e0' := cell_on hb7 l6 e0; have e1' := cell_on hb7 l6 e1))
        | (go_at_call 10; (with_reducible refine (refSame_self (putO t p s) A5 A6 c5 c6 w7 hi5 (HA5'.out.on hb7) (HA6.out.on hb7)).mono ?_); go_must (rintro e w8 ⟨rfl, hb8⟩; have hB8 := bl_step hB7 hb8; obtain ⟨x0, x1, y0, y1⟩ := hTS _ hB8))
        | fail)
      clear a0 a1 b0 b1 d0 d1 e0 e1 d0' d1' e0' e1'
      go_upto_region 10 with (first
        | (go_at_call 11; (with_reducible refine (refPlaces_at t A c w8 (by omega) hf (H1.out.on hB8)).mono ?_); go_must (rintro e w9 ⟨g9, c9, L9, rfl, hL9, hl9, hg9, hR9, hb9⟩; have hB9 := bl_step hB8 hb9; have Hl9 := Lib.hid hl9; clear hl9))
        | fail)
      obtain ⟨W9, hW9⟩ : ∃ W9, w9.alloc (.cells #[.slice (some ⟨g9, 0, none⟩) L9.length c9] 33) = W9 := ⟨_, rfl⟩
      have hbb9 : Below w9.heap.size w9 W9 := by rw [← hW9]; exact (Below.refl _ _).alloc (Nat.le_refl _) _
      have k9 : Boxed W9 w9.heap.size 33 (.slice (some ⟨g9, 0, none⟩) L9.length c9) := by rw [← hW9]; exact heap_alloc_new _ _
      have hs9 : W9.heap.size = w9.heap.size + 1 := by rw [← hW9]; simp
      rw [hW9]
      clear hW9 x0 x1 y0 y1
      go_upto_region 11 with fail
      obtain ⟨W10, hW10⟩ : ∃ W10, W9.alloc (.cells #[.int .i64 0] 3) = W10 := ⟨_, rfl⟩
      have hbb10 : Below W9.heap.size W9 W10 := by rw [← hW10]; exact (Below.refl _ _).alloc (Nat.le_refl _) _
      have k10 : Boxed W10 W9.heap.size 3 (.int .i64 0) := by rw [← hW10]; exact heap_alloc_new _ _
      have hs10 : W10.heap.size = W9.heap.size + 1 := by rw [← hW10]; simp
      have hb910 := bl_step hbb9 hbb10
      have hB10 := bl_step hB9 hb910
      rw [hW10]
      clear hW10
      obtain ⟨x0, x1, y0, y1⟩ := hTS _ hB10
      go_wp2_with (first
        | (go_at_call 12; refine (termPlaces_any t A c W10 (by omega) hf (H1.out.on hB10)).mono ?_; go_must (rintro e wP ⟨rfl, hbP, AP, cP, hbx, hOP⟩))
        | fail)
      clear x0 x1 y0 y1
      have hPl : W10.heap.size < wP.heap.size := (Array.getElem?_eq_some_iff.1 hbx).1
      have hW10 : W10.heap.size = w9.heap.size + 1 + 1 := by omega
      have hBP := bl_step hB10 hbP
      have hAP : ArgsN wP (fun g => W10.heap.size + 1 ≤ g ∧ g < wP.heap.size) AP t.args := hOP.argsN
      have h910P := bl_step hb910 hbP
      have hg9l : ∀ g, (Value.slice (some ⟨g9, 0, none⟩) L9.length c9).ownBlock = some g → g < w9.heap.size := fun g e => by injection e with e; have e' : g9 = g := e; omega
      have h9s := hB9.size
      have hI0 : PlcI w (w9.heap.size + 1) w9.heap.size wP.heap.size w9.heap.size w8.heap.size lv (.slice (some ⟨g9, 0, none⟩) L9.length c9) L9 [] wP :=
        ⟨(hbP.block _ (by omega)).trans (by rw [← hs9]; exact k10), (hBP.block _ hWs).trans q3, ((bl_step hbb10 hbP).block _ (by omega)).trans k9, (hBP.block _ (by omega)).trans q2, hR9.keep (fun g e => h910P.block g (hg9l g e)) (fun g e => h910P.block g e), fin _ hBP, Nat.le_refl _⟩
      rw [hW10] at hbx
      clear hOP hR9
      refine (wpIn_wide (n := 3)).1 ?_
      refine range_lawD (F := Fence.wide) (n := 3) (w0 := wP) rfl rfl (gf := 25) (lb := #[.pointer (some ⟨w9.heap.size + 1 + 1, 0, none⟩)]) rfl trivial (enters_of Tryd.func25 (by kernel_rfl) rfl)
        (fun m => places1_seq m (w9.heap.size + 1 + 1) t AP cP (fun g => W10.heap.size + 1 ≤ g ∧ g < wP.heap.size) wP hbx hf hAP (fun g e => e.2) (by have := hgd.out; omega) (by omega))
        (Below.refl _ _) (fun _ => rfl) (fun g e => e.2)
        (fun _ g => g < W10.heap.size) (PlcI w (w9.heap.size + 1) w9.heap.size wP.heap.size w9.heap.size w8.heap.size lv (.slice (some ⟨g9, 0, none⟩) L9.length c9) L9) (fun cd _ Wx => cd = .ret ∧ PlcX w Wx)
        (plc_frame (by omega) (by omega) (by omega) (by omega) hg9l) (plc_bound (by omega)) (plcx_frame (by omega)) hI0
        (fun pre x a' Wx => PlcI w (w9.heap.size + 1) w9.heap.size wP.heap.size w9.heap.size w8.heap.size lv (.slice (some ⟨g9, 0, none⟩) L9.length c9) L9 pre Wx ∧ VisFxL wP.heap.size x Wx ∧ ∃ Bx, wP.heap.size ≤ Bx ∧ Wx.heap[Bx]? = some (.cells #[.int .i64 x.t.fn, .slice x.A' x.t.args.length x.c'] 24) ∧ a' = { tmps := #[.agg #[.int .i64 t.fn, .slice A t.args.length c], .slice Ap p.length cp, .agg #[.int .i64 s.fn, .slice As s.args.length cs], .int .i64 lv, .pointer (some ⟨w.heap.size, 0, none⟩), undef, .pointer (some ⟨w.heap.size + 1, 0, none⟩), .pointer (some ⟨w.heap.size + 1 + 1, 0, none⟩), .pointer (some ⟨w.heap.size + 1 + 1 + 1, 0, none⟩), .pointer (some ⟨w3.heap.size, 0, none⟩), .bool (subT t p).isSome, .pointer (some ⟨w4.heap.size, 0, none⟩), .bool (subT t p).isSome, .pointer (some ⟨w5.heap.size, 0, none⟩), .bool (subT t p).isSome, .pointer (some ⟨w6.heap.size, 0, none⟩), .bool (subT t p).isSome, .pointer (some ⟨w9.heap.size, 0, none⟩), .pointer (some ⟨w9.heap.size + 1, 0, none⟩), .func (.func 25) #[] #[.pointer (some ⟨w9.heap.size + 1 + 1, 0, none⟩)], .slice x.A x.pos.length x.c, .pointer (some ⟨Bx, 0, none⟩), .agg #[.int .i64 t.fn, .slice A t.args.length c], .bool false, .bool false, .agg #[.int .i64 s.fn, .slice As s.args.length cs], .bool false, .bool false, undef, .tuple #[.agg #[.int .i64 (atT t p).fn, .slice A3 (atT t p).args.length c3], .bool (subT t p).isSome], .agg #[.int .i64 t.fn, .slice A t.args.length c], .slice Ap p.length cp, .tuple #[.agg #[.int .i64 (atT t p).fn, .slice A3 (atT t p).args.length c3], .bool (subT t p).isSome], .agg #[.int .i64 (atT t p).fn, .slice A3 (atT t p).args.length c3], .bool (subT t p).isSome, .tuple #[.agg #[.int .i64 (atT t p).fn, .slice A4 (atT t p).args.length c4], .bool (subT t p).isSome], .agg #[.int .i64 t.fn, .slice A t.args.length c], .slice Ap p.length cp, .tuple #[.agg #[.int .i64 (atT t p).fn, .slice A4 (atT t p).args.length c4], .bool (subT t p).isSome], .agg #[.int .i64 (atT t p).fn, .slice A4 (atT t p).args.length c4], .bool (subT t p).isSome, .tuple #[.agg #[.int .i64 (putO t p s).fn, .slice A5 (putO t p s).args.length c5], .bool (subT t p).isSome], .agg #[.int .i64 t.fn, .slice A t.args.length c], .slice Ap p.length cp, .agg #[.int .i64 s.fn, .slice As s.args.length cs], .tuple #[.agg #[.int .i64 (putO t p s).fn, .slice A5 (putO t p s).args.length c5], .bool (subT t p).isSome], .agg #[.int .i64 (putO t p s).fn, .slice A5 (putO t p s).args.length c5], .bool (subT t p).isSome, .tuple #[.agg #[.int .i64 (putO t p s).fn, .slice A6 (putO t p s).args.length c6], .bool (subT t p).isSome], .agg #[.int .i64 t.fn, .slice A t.args.length c], .slice Ap p.length cp, .agg #[.int .i64 s.fn, .slice As s.args.length cs], .tuple #[.agg #[.int .i64 (putO t p s).fn, .slice A6 (putO t p s).args.length c6], .bool (subT t p).isSome], .agg #[.int .i64 (putO t p s).fn, .slice A6 (putO t p s).args.length c6], .bool (subT t p).isSome, .bool (subT t p).isSome, .bool (subT t p).isSome, .bool false, .bool false, .bool (subT t p).isSome, .bool (subT t p).isSome, .bool false, .bool false, .bool false, .agg #[.int .i64 (atT t p).fn, .slice A3 (atT t p).args.length c3], .agg #[.int .i64 (atT t p).fn, .slice A4 (atT t p).args.length c4], .bool true, .bool false, .bool false, .bool false, .agg #[.int .i64 (putO t p s).fn, .slice A5 (putO t p s).args.length c5], .agg #[.int .i64 (putO t p s).fn, .slice A6 (putO t p s).args.length c6], .bool true, .bool false, .bool false, .agg #[.int .i64 t.fn, .slice A t.args.length c], .slice (some ⟨g9, 0, none⟩) L9.length c9, .agg #[.int .i64 t.fn, .slice A t.args.length c], .func (.func 25) #[] #[.pointer (some ⟨w9.heap.size + 1 + 1, 0, none⟩)], .func (.func 25) #[] #[.pointer (some ⟨w9.heap.size + 1 + 1, 0, none⟩)], .bool false, .func (.func 25) #[] #[.pointer (some ⟨w9.heap.size + 1 + 1, 0, none⟩)], .slice x.A x.pos.length x.c, .agg #[.int .i64 x.t.fn, .slice x.A' x.t.args.length x.c'], undef, undef, undef, undef, undef, undef, undef, undef, undef, undef, undef, undef, undef, undef, undef, undef, undef, undef, undef, undef, undef, undef, undef, undef, undef, undef, undef, undef, undef, undef, undef, undef, undef, undef, undef, undef, undef], defers := [] }) ?hAx ?assign ?body ?done ?stop
      case hAx =>
        rintro pre x a' Wx l r o ⟨h1, h2, Bx, hBx, hbx', rfl⟩ hl hr hn
        exact ⟨fun g e => e, h1.put hr (by omega) (by omega) hg9l, h2.put hr, Bx, hBx, put_block hbx' hr, rfl⟩
      case assign =>
        rintro l2 m2 pre x Wx K h1 _ hfx hK
        simp only [visEnc]
        gi_wp2
        have hBa : Below Wx.heap.size Wx (Wx.alloc (.cells #[.int .i64 x.t.fn, .slice x.A' x.t.args.length x.c'] 24)) := (Below.refl _ _).alloc (Nat.le_refl _) _
        exact hK _ _ (stp_alloc _ _ fun g e => Nat.lt_of_lt_of_le e.2 h1.big) ⟨h1.on hBa (by have := h1.big; omega) hg9l, hfx.on hBa, Wx.heap.size, h1.big, heap_alloc_new _ _, by simp⟩
      case body =>
        rintro l2 m2 pre x a' Wx hsp ⟨h1, h2, Bx, hBx, hbx', rfl⟩
        obtain ⟨Ay, cy, Az, cz, hy⟩ := plc_at hL9 hsp
        have hlt := (List.getElem?_eq_some_iff.1 hy).1
        have hbg := h1.big
        obtain ⟨gy, c9', ey, _, hgy, y0, y1, y2, hfy⟩ := h1.row.get hy
        injection ey with ey _ e5
        injection ey with ey
        injection ey with ey _ _
        subst ey
        subst e5
        simp only at y0 y1 y2
        have hn := Boxed.cell h1.n
        have hnl := h1.n.lt
        have hlb := Boxed.cell h1.lb
        have hlbl := h1.lb.lt
        obtain ⟨x0, x1, _, _⟩ := cells_two hbx'
        have hBxl := (Array.getElem?_eq_some_iff.1 hbx').1
        have d1 : decide ((L9.length : Int) ≤ (pre.length : Int)) = false := decide_eq_false (by omega)
        have hL64 : L9.length ≤ 9223372036854775807 := by have := Hl9.out; omega
        have hId : Hid (Ints Wx Wx.heap.size x.A x.pos) := h2.fx.pos
        have hIy : Hid (Ints Wx Wx.heap.size Ay x.pos) := hfy.pos.ints fun g e => by have e' : g < w9.heap.size := e; omega
        have hAx : Hid (Args Wx Wx.heap.size x.A' x.t.args) := h2.fx.args
        have hAy : Hid (Args Wx Wx.heap.size Az x.t.args) := hfy.args.args fun g e => by have e' : g < w9.heap.size := e; omega
        have hx64 := h2.fx.i64
        have Hsp := Lib.hid hsp
        clear hy hfy hsp
        gi_wp2
        have hS : ∀ w', OnW Wx w' → w'.cell? ⟨w9.heap.size + 1, 0, none⟩ = some (.int .i64 (pre.length : Int)) ∧ w'.cell? ⟨w9.heap.size, 0, none⟩ = some (.slice (some ⟨g9, 0, none⟩) L9.length c9) ∧ w'.cell? ⟨Bx, 0, none⟩ = some (.int .i64 x.t.fn) ∧ w'.cell? ⟨Bx, 1, none⟩ = some (.slice x.A' x.t.args.length x.c') ∧ w'.cell? ⟨g9, pre.length * 3, none⟩ = some (.slice Ay x.pos.length cy) ∧ w'.cell? ⟨g9, pre.length * 3 + 1, none⟩ = some (.int .i64 x.t.fn) ∧ w'.cell? ⟨g9, pre.length * 3 + 2, none⟩ = some (.slice Az x.t.args.length cz) := fun w' h =>
          ⟨cell_on h.out hnl hn, cell_on h.out hlbl hlb, cell_on h.out hBxl x0, cell_on h.out hBxl x1, cell_on h.out hgy y0, cell_on h.out hgy y1, cell_on h.out hgy y2⟩
        refine wpIn_region_rdC (C := OnW Wx) rfl (by kernel_rfl) (by kernel_rfl) (by kernel_rfl) (OnW.drew (OnW.refl Wx)) ?_
        repeat (
          refine wpQuietIn_step (fun _ _ _ _ => trivial) (fun K hK => ?_)
          go_simp
          first
            | (refine hK _ ?_; clear hK K)
            | (apply Exists.intro
               refine ⟨fun _ => ?_, hK _ ?_⟩
               first
                 | (intro hw'; obtain ⟨s0, s1, s2, s3, s4, s5, s6⟩ := hS _ hw'; go_simp; first | done | rfl | exact ⟨rfl, rfl⟩)
                 | (intro hw'; refine ⟨(fun h => by cases h), ?_⟩; gi_at_call 13; exact (calls_round l2 _ (numbers_same x.pos x.A Ay x.c cy _ (hId.out.on hw'.out) (hIy.out.on hw'.out))).mono fun e w'' h => ⟨h.1, hw'.step h.2⟩)
                 | (intro hw'; refine ⟨(fun h => by cases h), ?_⟩; gi_at_call 10; exact (calls_round l2 _ (refSame_self x.t x.A' Az x.c' cz _ hx64 (hAx.out.on hw'.out) (hAy.out.on hw'.out))).mono fun e w'' h => ⟨h.1, hw'.step h.2⟩)
               clear hK K))
        refine wpQuietIn_nil ?_
        rintro wz hwz
        have h3 := h1.on hwz.out (by omega) hg9l
        have hn3 := Boxed.cell h3.n
        have hf3 := Boxed.frozen h3.n
        have hzs := hwz.out.size
        obtain ⟨Wy, hWy⟩ : ∃ Wy, wz.setCell ⟨w9.heap.size + 1, 0, none⟩ (.int .i64 ((pre.length : Int) + 1)) = Wy := ⟨_, rfl⟩
        have h4 := h3.next (x := x) (by omega) (by omega) (by omega) hg9l
        have hys : Wy.heap.size = wz.heap.size := by rw [← hWy]; simp
        have hKy : Keeps (fun g => (W10.heap.size + 1 ≤ g ∧ g < wP.heap.size) ∨ (g < Wx.heap.size ∧ ¬ g < W10.heap.size)) Wx Wy := by
          rw [← hWy]
          exact ((Keeps.of_below hwz.out).mono fun g e => by show g < Wx.heap.size; omega).trans ((Keeps.set wz ⟨w9.heap.size + 1, 0, none⟩ _).mono fun g e => by show g ≠ w9.heap.size + 1; omega)
        rw [hWy] at h4
        have HWy := Lib.hid hWy
        have hv3 : wz.cell? ⟨w.heap.size + 1 + 1, 0, none⟩ = some (.int .i64 lv) := Boxed.cell h3.lv
        have hne1 : ¬ w9.heap.size = w.heap.size + 1 := by omega
        have hne2 : ¬ w.heap.size + 1 = w9.heap.size := by omega
        clear hWy h3 hS
        have hn4 := Boxed.cell h4.n
        rw [List.length_append, show ((pre.length + [x].length : Nat) : Int) = (pre.length : Int) + 1 from by simp] at hn4
        have hv4 := Boxed.cell h4.lv
        have hr4 := h4.r
        by_cases hle : (pre.length : Int) + 1 = lv
        · subst hle
          gi_wp2_with (first
            | ((refine ⟨trivial, (fun h => by cases h), ?_⟩); gi_at_call 5; rw [HWy.out]; refine (calls_round l2 _ (wakes_any Wy (tru_below HT0.out h4.blw))).mono ?_; go_must (rintro e w5' ⟨rfl, hb5'⟩; have r5 := (hb5'.block _ hr4.lt).trans hr4; have hc5 := Boxed.cell r5; have hf5 := Boxed.frozen r5))
            | fail)
          have hKs : Keeps (fun g => (W10.heap.size + 1 ≤ g ∧ g < wP.heap.size) ∨ (g < Wx.heap.size ∧ ¬ g < W10.heap.size)) Wx (w5'.setCell ⟨w.heap.size + 3, 0, none⟩ (.bool true)) :=
            (hKy.trans ((Keeps.of_below hb5').mono fun g e => by show g < Wy.heap.size; omega)).trans ((Keeps.set w5' ⟨w.heap.size + 3, 0, none⟩ _).mono fun g e => by show g ≠ w.heap.size + 3; omega)
          exact ⟨⟨rfl, Boxed.set _ r5, (h4.blw.trans (hb5'.mono h4.blw.size)).setCell (by show _ ≤ w.heap.size + 3; omega) _⟩, ⟨hKs, fun g e => .inl e⟩⟩
        · gi_wp2
          rw [HWy.out]
          exact ⟨h4, ⟨hKy, fun g e => .inl e⟩⟩
      case done =>
        rintro D ys Wd hD hS h1 hnD hK
        have hl := congrArg List.length hS
        rw [vis_len, List.length_map] at hl
        have nD := h1.n
        rw [hl, ← Hl9.out] at nD
        have hDl : D < Wd.heap.size := (Array.getElem?_eq_some_iff.1 hK).1
        have n0 := Boxed.cell nD
        have l0 := Boxed.cell h1.lb
        have HKD := Lib.hid hK
        have hbD := h1.blw
        have hrD := h1.r
        clear hS hl nD hK h1
        go_wp2_with (first
          | (go_at_call 5; refine (wakes_any Wd (tru_below HT0.out hbD)).mono ?_; go_must (rintro e w6' ⟨rfl, hb6'⟩; have r6 := (hb6'.block _ hrD.lt).trans hrD; have hc6 := Boxed.cell r6; have hf6 := Boxed.frozen r6))
          | fail)
        have hKs : (w6'.setCell ⟨w.heap.size + 3, 0, none⟩ (.bool true)).heap[D]? = some (.deferred (some [])) := (heap_setCell_other _ _ _ _ (by show D ≠ w.heap.size + 3; omega)).trans ((hb6'.block _ hDl).trans HKD.out)
        have hr' := cell_kept (Boxed.set (.bool true) r6).cell (grownBy_putObj' _ D (.deferred none)) (fun r e => by cases e; exact ⟨_, hKs, rfl⟩)
        refine ⟨by simp, .inl ⟨_, _, rfl, run_takeDeferred hKs, ?_⟩⟩
        exact ⟨.bool true, by simp [results, Tryd.results3, go_sem, hr'], rfl, ((hbD.trans (hb6'.mono hbD.size)).setCell (by show _ ≤ w.heap.size + 3; omega) _).trans (belowK_b (w := w) (Nat.le_refl _) _ D _ _ (by omega) hKs rfl rfl)⟩
      case stop =>
        rintro D cd pre Wd hD hpre ⟨rfl, hr, hB5'⟩ hnD hK
        have hr' := cell_kept (Boxed.cell hr) (grownBy_putObj' _ D (.deferred none)) (fun r e => by cases e; exact ⟨_, hK, rfl⟩)
        have HK := Lib.hid hK
        clear hpre hK
        gi_wp2
        refine ⟨by simp, .inl ⟨_, _, rfl, run_takeDeferred HK.out, ?_⟩⟩
        exact ⟨.bool true, by simp [results, Tryd.results3, go_sem, hr'], rfl, hB5'.trans (belowK_b (w := w) (Nat.le_refl _) _ D _ _ (by omega) HK.out rfl rfl)⟩
end Go.Proofs.YtimgomoafeaoiaaDoor
