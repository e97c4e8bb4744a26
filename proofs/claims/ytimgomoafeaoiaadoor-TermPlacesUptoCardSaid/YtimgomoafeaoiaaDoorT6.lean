/- find, At. -/
import Derived.Test.YtimgomoafeaoiaaDoorT5
namespace Go.Proofs.YtimgomoafeaoiaaDoor
open Go.RowKit
set_option maxRecDepth 100000

/-- What stands at a place. -/
def subT : Tm → List Int → Option Tm
  | t, [] => some t
  | t, i :: p => if 0 ≤ i ∧ i < t.args.length then (t.args[i.toNat]?).bind (subT · p) else none

/-- The slice at A holds the numbers. -/
structure Ints (w : World) (B : Nat) (A : Option Addr) (l : List Int) : Prop where
  len : l.length ≤ 9223372036854775807
  i64 : ∀ x ∈ l, I64 x
  ad : 0 < l.length → ∃ b off, A = some ⟨b, off, none⟩ ∧ b < B ∧ ∀ (i : Nat) (x : Int), l[i]? = some x → w.cell? ⟨b, off + i, none⟩ = some (.int .i64 x)
section
variable {w w' : World} {B B' : Nat} {A : Option Addr} {l : List Int}
theorem Ints.keep (h : Ints w B A l) (hk : ∀ p : Addr, p.block < B → w'.cell? p = w.cell? p) : Ints w' B A l :=
  ⟨h.len, h.i64, fun hn => by
    obtain ⟨b, off, hA, hlt, hc⟩ := h.ad hn
    exact ⟨b, off, hA, hlt, fun i x hi => (hk ⟨b, _, none⟩ hlt).trans (hc i x hi)⟩⟩
theorem Ints.blw (h : Ints w B A l) (hb : Below B w w') : Ints w' B A l := h.keep fun _ hp => hb.cell hp
theorem Ints.more (h : Ints w B A l) (hB : B ≤ B') : Ints w B' A l :=
  ⟨h.len, h.i64, fun hn => by
    obtain ⟨b, off, hA, hlt, hc⟩ := h.ad hn
    exact ⟨b, off, hA, by omega, hc⟩⟩
theorem Ints.on (h : Ints w w.heap.size A l) (hb : Below w.heap.size w w') : Ints w' w'.heap.size A l := (h.blw hb).more hb.size
end

/-- The two cells from off on in block b are the term's. -/
structure PtrT (w : World) (B b off : Nat) (t : Tm) : Prop where
  hb : b < B
  i64 : I64 t.fn
  c0 : w.cell? ⟨b, off, none⟩ = some (.int .i64 t.fn)
  rest : ∃ A c, w.cell? ⟨b, off + 1, none⟩ = some (.slice A t.args.length c) ∧ Args w B A t.args

/-- The place of what is found, if it is there. -/
def FindPost (t : Tm) (p : List Int) (w : World) (B : Nat) (e : Ending) (w' : World) : Prop := w' = w ∧
  match subT t p with
  | none => e = .returned (.pointer none)
  | some s => ∃ b off, e = .returned (.pointer (some ⟨b, off, none⟩)) ∧ PtrT w B b off s

theorem sub_step {t u : Tm} {i : Int} {p : List Int} (h0 : 0 ≤ i) (h1 : i < t.args.length) (hu : t.args[i.toNat]? = some u) : subT t (i :: p) = subT u p := by
  simp only [subT, if_pos (And.intro h0 h1), hu, Option.bind_some]
theorem sub_none {t : Tm} {i : Int} {p : List Int} (h : i < 0 ∨ ↑t.args.length ≤ i) : subT t (i :: p) = none := by
  simp only [subT]
  rw [if_neg (by omega)]

set_option maxHeartbeats 1000000 in
theorem find_any (t : Tm) (p : List Int) (b off : Nat) (Ap : Option Addr) (cp : Nat) (w : World) (B : Nat) (hP : PtrT w B b off t) (hp : Ints w B Ap p) :
    Calls Tryd.prog 21 #[.pointer (some ⟨b, off, none⟩), .slice Ap p.length cp] w (FindPost t p w B) := by
  have hlen := hp.len
  go_enter Tryd.func21, Tryd.ntmps21
  go_wp2
  go_loopw [0, 9] (fun v i wr => ∃ (k b' off' : Nat) (s : Tm), wr = w ∧ k ≤ p.length ∧ i = .int .i64 (k : Int) ∧ v = .pointer (some ⟨b', off', none⟩) ∧ PtrT w B b' off' s ∧ Hid (subT t p = subT s (p.drop k))) (fun _ i _ => p.length - (intOf i).toNat)
  case atStart => exact ⟨0, b, off, t, rfl, Nat.zero_le _, rfl, rfl, hP, rfl⟩
  case round =>
    obtain ⟨k, b', off', s, rfl, hk, rfl, rfl, hS, H⟩ := hrel
    obtain ⟨As, cs, s1, hsub⟩ := hS.rest
    have s0 := hS.c0
    by_cases hlt : k < p.length
    · obtain ⟨i, hi⟩ : ∃ i, p[k]? = some i := ⟨_, List.getElem?_eq_getElem hlt⟩
      obtain ⟨pb, po, rfl, hpb, hpc⟩ := hp.ad (by omega)
      have p0 := hpc _ _ hi
      have hdrop : p.drop k = i :: p.drop (k + 1) := by
        rw [List.drop_eq_getElem_cons hlt]
        rw [List.getElem?_eq_getElem hlt] at hi
        injection hi with hi
        rw [hi]
      by_cases hin : 0 ≤ i ∧ i < s.args.length
      · obtain ⟨h0, h1⟩ := hin
        obtain ⟨j, rfl⟩ : ∃ j : Nat, i = (j : Int) := ⟨i.toNat, by omega⟩
        obtain ⟨u, hu⟩ : ∃ u, s.args[j]? = some u := ⟨_, List.getElem?_eq_getElem (by omega)⟩
        obtain ⟨ub, uo, Au, cu, rfl, ha⟩ := hsub.get hu
        have hl := hsub.len
        have Hn : Hid (subT t p = subT u (p.drop (k + 1))) := by
          rw [show subT t p = subT s (p.drop k) from H.out, hdrop]
          exact sub_step h0 h1 (by simpa using hu)
        have Hp : Hid (PtrT wr B ub (uo + j * 2) u) := ⟨ha.hb, ha.hi, ha.c0, ⟨Au, cu, ha.c1, ha.sub⟩⟩
        have h1' : (j : Int) ≥ 0 := h0
        have h2' : ¬ ((s.args.length : Int) ≤ j) := by omega
        clear hi hu hpc hS ha hP hsub
        go_wp2
        exact ⟨⟨k + 1, _, _, u, trivial, by omega, by go_num, rfl, Hp.out, Hn.out⟩, by simp [intOf]; omega⟩
      · have hN : Hid (subT t p = none) := by
          rw [show subT t p = subT s (p.drop k) from H.out, hdrop]
          exact sub_none (by omega)
        clear hpc hS hP hsub
        by_cases hi0 : i < 0
        · clear hi
          go_wp2
          go_ret
          exact ⟨rfl, by rw [hN.out]; rfl⟩
        · have h2' : (s.args.length : Int) ≤ i := by omega
          have h3' : ¬ i < 0 := hi0
          clear hi
          go_wp2
          go_ret
          exact ⟨rfl, by rw [hN.out]; rfl⟩
    · obtain rfl : k = p.length := by omega
      have Hs : subT t p = some s := by
        rw [show subT t p = subT s (p.drop p.length) from H.out]
        simp [subT]
      have Hs := Lib.hid Hs
      clear s0 s1
      go_wp2
      go_ret
      exact ⟨rfl, by rw [Hs.out]; exact ⟨b', off', rfl, hS⟩⟩

def atT (t : Tm) (p : List Int) : Tm := (subT t p).getD (.node 0 [])
/-- What stands at the place, in new memory; the zero term, if there is none. -/
def AtPost (t : Tm) (p : List Int) (w : World) (e : Ending) (w' : World) : Prop := ∃ A' c', e = .returned (.tuple #[.agg #[.int .i64 (atT t p).fn, .slice A' (atT t p).args.length c'], .bool (subT t p).isSome]) ∧ I64 (atT t p).fn ∧ OwnT w' w.heap.size w'.heap.size A' (atT t p).args ∧ Below w.heap.size w w'
theorem sub_size : ∀ {t s : Tm} {p : List Int}, subT t p = some s → s.size ≤ t.size
  | t, s, [], h => by simp only [subT] at h; cases h; exact Nat.le_refl _
  | t, s, i :: p, h => by
    simp only [subT] at h
    split at h
    · cases hu : t.args[i.toNat]? with
      | none => rw [hu] at h; cases h
      | some u =>
        rw [hu] at h
        have h1 := sub_size (p := p) h
        have h2 := size_mem (List.mem_of_getElem? hu)
        cases t with
        | node f xs => simp only [Tm.size, Tm.args] at h2 ⊢; omega
    · cases h
theorem set2_two {W : World} {b : Nat} {x y u v : Value} {t : TypeId} (h : W.heap[b]? = some (.cells #[x, y] t)) : (W.setCell ⟨b, 0, none⟩ u).heap[b]? = some (.cells #[u, y] t) ∧ ((W.setCell ⟨b, 0, none⟩ u).setCell ⟨b, 1, none⟩ v).heap[b]? = some (.cells #[u, v] t) :=
  have h1 : (W.setCell ⟨b, 0, none⟩ u).heap[b]? = some (.cells #[u, y] t) := heap_setCell_same W _ 0 _ _ _ h
  ⟨h1, heap_setCell_same _ _ 1 _ _ _ h1⟩

set_option maxHeartbeats 1000000 in
theorem termAt_any (t : Tm) (p : List Int) (A : Option Addr) (c : Nat) (Ap : Option Addr) (cp : Nat) (w : World) (hsz : t.size ≤ 4398046511104) (hi : I64 t.fn) (hA : Args w w.heap.size A t.args) (hp : Ints w w.heap.size Ap p) :
    Calls Tryd.prog 6 #[.agg #[.int .i64 t.fn, .slice A t.args.length c], .slice Ap p.length cp] w (AtPost t p w) := by
  have hB2 : Below w.heap.size w ((w.alloc (.cells #[.int .i64 t.fn, .slice A t.args.length c] 24)).alloc (.cells #[.int .i64 0, .slice none 0 0] 24)) := ((Below.refl _ _).alloc (Nat.le_refl _) _).alloc (by simp) _
  obtain ⟨W, hW⟩ : ∃ W, (w.alloc (.cells #[.int .i64 t.fn, .slice A t.args.length c] 24)).alloc (.cells #[.int .i64 0, .slice none 0 0] 24) = W := ⟨_, rfl⟩
  have y0 : W.heap[w.heap.size]? = some (.cells #[.int .i64 t.fn, .slice A t.args.length c] 24) := by rw [← hW]; exact (Below.heap_alloc _ _ _ (by simp)).trans (heap_alloc_new _ _)
  have y1 : W.heap[w.heap.size + 1]? = some (.cells #[.int .i64 0, .slice none 0 0] 24) := by rw [← hW, show w.heap.size + 1 = (w.alloc (.cells #[.int .i64 t.fn, .slice A t.args.length c] 24)).heap.size by simp]; exact heap_alloc_new _ _
  rw [hW] at hB2
  have hz : w.heap.size + 1 < W.heap.size := (Array.getElem?_eq_some_iff.1 y1).1
  have hA' := hA.on hB2
  have hp' := Lib.hid (hp.on hB2)
  have hP : Hid (PtrT W W.heap.size w.heap.size 0 t) := ⟨by omega, hi, (cells_two y0).1, ⟨A, c, (cells_two y0).2.1, hA'⟩⟩
  have HW := Lib.hid hW
  clear hW hA
  cases hs : subT t p with
  | none =>
    have Hs := Lib.hid hs
    clear hs
    go_enter Tryd.func6, Tryd.ntmps6
    go_wp2_with (first
      | (go_at_call 21
         rw [HW.out]
         refine (find_any t p w.heap.size 0 Ap cp W W.heap.size hP.out hp'.out).mono ?_
         rintro e w1 ⟨rfl, h1⟩
         rw [Hs.out] at h1
         obtain rfl := h1
         obtain ⟨d0, d1, g0, g1⟩ := cells_two y1)
      | fail)
    obtain ⟨z0, z1⟩ := set2_two (u := .int .i64 0) (v := .slice none 0 0) y1
    have p0 := (cells_two z0).1
    have p1 := (cells_two z1).2.1
    have ha : atT t p = .node 0 [] := by simp only [atT, Hs.out]; rfl
    refine bodyPost_ret (v := .tuple #[.agg #[.int .i64 0, .slice none 0 0], .bool false]) (by simp [results, Tryd.results6, go_sem, p0, p1]) rfl ⟨none, 0, by rw [ha, Hs.out]; rfl, by rw [ha]; exact ⟨by decide, by decide⟩, by rw [ha]; exact .nil _ _ _, ?_⟩
    exact (hB2.setCell (by show _ ≤ w.heap.size + 1; omega) _).setCell (by show _ ≤ w.heap.size + 1; omega) _
  | some s =>
    have Hs := Lib.hid hs
    have hss := sub_size hs
    clear hs
    go_enter Tryd.func6, Tryd.ntmps6
    go_wp2_with (first
      | (go_at_call 21
         rw [HW.out]
         refine (find_any t p w.heap.size 0 Ap cp W W.heap.size hP.out hp'.out).mono ?_
         rintro e w1 ⟨rfl, h1⟩
         rw [Hs.out] at h1
         obtain ⟨bs, os, rfl, hS⟩ := h1
         obtain ⟨As, cs, s1, hsa⟩ := hS.rest
         have s0 := hS.c0
         have hsi := hS.i64
         obtain ⟨d0, d1, g0, g1⟩ := cells_two y1)
      | (go_at_call 22
         refine (clone_any s (by omega) As cs w1 hsi hsa).mono ?_
         rintro e w2 ⟨A4, c4, rfl, hO4, hb4⟩
         have y2 := (hb4.block _ hz).trans y1
         obtain ⟨d0, d1, g0, g1⟩ := cells_two y2)
      | fail)
    have hw2 : w1.heap.size ≤ w2.heap.size := hb4.size
    obtain ⟨z0, z1⟩ := set2_two (u := .int .i64 s.fn) (v := .slice A4 s.args.length c4) y2
    have p0 := (cells_two z0).1
    have p1 := (cells_two z1).2.1
    have ha : atT t p = s := by simp only [atT, Hs.out]; rfl
    refine bodyPost_ret (v := .tuple #[.agg #[.int .i64 s.fn, .slice A4 s.args.length c4], .bool true]) (by simp [results, Tryd.results6, go_sem, p0, p1]) rfl ⟨A4, c4, by rw [ha, Hs.out]; rfl, by rw [ha]; exact hsi, ?_, ?_⟩
    · rw [ha]
      refine OwnT.wide (lo := w1.heap.size) (hi := w2.heap.size) (hO4.keep fun g h1 _ => ?_) (by omega) (by simp)
      exact (heap_setCell_other _ _ _ _ (by show g ≠ w.heap.size + 1; omega)).trans (heap_setCell_other _ _ _ _ (by show g ≠ w.heap.size + 1; omega))
    · exact ((hB2.trans (hb4.mono (by omega))).setCell (by show _ ≤ w.heap.size + 1; omega) _).setCell (by show _ ≤ w.heap.size + 1; omega) _
end Go.Proofs.YtimgomoafeaoiaaDoor
