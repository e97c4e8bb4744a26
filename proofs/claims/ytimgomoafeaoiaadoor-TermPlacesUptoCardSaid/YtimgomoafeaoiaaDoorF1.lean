/- fits: which terms may be over a signature. -/
import Derived.Test.YtimgomoafeaoiaaDoorR1
import Derived.Test.YtimgomoafeaoiaaDoorT5
import Derived.Test.YtimgomoafeaoiaaDoorT1
import Derived.Deep.DeepCutAuto
namespace Go.Proofs.YtimgomoafeaoiaaDoor
open Go.RowKit
set_option maxRecDepth 100000

mutual
/-- May the term be, and how much room is left? -/
def fitT (l : List Sm) : Tm → Int → Int → Bool × Int
  | .node f xs, d, r =>
    if r - 1 < 0 ∨ 30 < d then (false, r - 1)
    else if f < 0 then (decide (-1 - f < 48 ∧ xs.length = 0), r - 1)
    else match l[f.toNat]? with
      | none => (false, r - 1)
      | some s => if s.arity ≠ xs.length ∨ (s.pred = true ∧ 1 < d) then (false, r - 1) else fitL l xs (d + 1) (r - 1)
def fitL (l : List Sm) : List Tm → Int → Int → Bool × Int
  | [], _, r => (true, r)
  | t :: ts, d, r => if (fitT l t d r).1 = true then fitL l ts d (fitT l t d r).2 else (false, (fitT l t d r).2)
end
section
variable {l : List Sm} {f d r : Int} {xs : List Tm} {s : Sm} {t : Tm}
theorem fit_room (h : r - 1 < 0 ∨ 30 < d) : fitT l (.node f xs) d r = (false, r - 1) := by simp only [fitT, if_pos h]
theorem fit_var (h : ¬ (r - 1 < 0 ∨ 30 < d)) (hf : f < 0) : fitT l (.node f xs) d r = (decide (-1 - f < 48 ∧ xs.length = 0), r - 1) := by simp only [fitT, if_neg h, if_pos hf]
theorem fit_out (h : ¬ (r - 1 < 0 ∨ 30 < d)) (hf : ¬ f < 0) (ho : (l.length : Int) ≤ f) : fitT l (.node f xs) d r = (false, r - 1) := by
  simp only [fitT, if_neg h, if_neg hf, List.getElem?_eq_none (show l.length ≤ f.toNat by omega)]
theorem fit_bad (h : ¬ (r - 1 < 0 ∨ 30 < d)) (hf : ¬ f < 0) (hs : l[f.toNat]? = some s) (hb : s.arity ≠ xs.length ∨ (s.pred = true ∧ 1 < d)) : fitT l (.node f xs) d r = (false, r - 1) := by
  simp only [fitT, if_neg h, if_neg hf, hs, if_pos hb]
theorem fit_in (h : ¬ (r - 1 < 0 ∨ 30 < d)) (hf : ¬ f < 0) (hs : l[f.toNat]? = some s) (hb : ¬ (s.arity ≠ xs.length ∨ (s.pred = true ∧ 1 < d))) : fitT l (.node f xs) d r = fitL l xs (d + 1) (r - 1) := by
  simp only [fitT, if_neg h, if_neg hf, hs, if_neg hb]
theorem fitL_yes (h : (fitT l t d r).1 = true) : fitL l (t :: xs) d r = fitL l xs d (fitT l t d r).2 := by simp only [fitL, if_pos h]
theorem fitL_no (h : (fitT l t d r).1 = false) : fitL l (t :: xs) d r = (false, (fitT l t d r).2) := by simp [fitL, h]
end
/-- The room shrinks, and not below -1 where it was 0 at least. -/
theorem fit_le (l : List Sm) (t : Tm) : ∀ d r, 0 ≤ r → (fitT l t d r).2 ≤ r - 1 ∧ -1 ≤ (fitT l t d r).2 ∧ ((fitT l t d r).1 = true → 0 ≤ (fitT l t d r).2) := by
  refine Tm.ind (P := fun t => ∀ d r, 0 ≤ r → (fitT l t d r).2 ≤ r - 1 ∧ -1 ≤ (fitT l t d r).2 ∧ ((fitT l t d r).1 = true → 0 ≤ (fitT l t d r).2)) (fun f xs ih d r hr => ?_) t
  have key : ∀ ys : List Tm, (∀ t ∈ ys, ∀ d r, 0 ≤ r → (fitT l t d r).2 ≤ r - 1 ∧ -1 ≤ (fitT l t d r).2 ∧ ((fitT l t d r).1 = true → 0 ≤ (fitT l t d r).2)) → ∀ d r, 0 ≤ r → (fitL l ys d r).2 ≤ r ∧ -1 ≤ (fitL l ys d r).2 ∧ ((fitL l ys d r).1 = true → 0 ≤ (fitL l ys d r).2) := by
    intro ys
    induction ys with
    | nil => intro _ d r hr; simp only [fitL]; exact ⟨Int.le_refl _, by omega, fun _ => hr⟩
    | cons y ys ihy =>
      intro h d r hr
      have h1 := h y (by simp) d r hr
      cases hb : (fitT l y d r).1 with
      | true =>
        rw [fitL_yes hb]
        have h2 := ihy (fun t ht => h t (by simp [ht])) d _ (h1.2.2 hb)
        exact ⟨by omega, h2.2.1, h2.2.2⟩
      | false => rw [fitL_no hb]; exact ⟨by show _ ≤ r; omega, h1.2.1, fun h => by cases h⟩
  by_cases h1 : r - 1 < 0 ∨ 30 < d
  · rw [fit_room h1]; exact ⟨Int.le_refl _, by show -1 ≤ r - 1; omega, fun h => by cases h⟩
  · by_cases hf : f < 0
    · rw [fit_var h1 hf]; exact ⟨Int.le_refl _, by show -1 ≤ r - 1; omega, fun _ => by show 0 ≤ r - 1; omega⟩
    · cases hs : l[f.toNat]? with
      | none => rw [fit_out h1 hf (by have := List.getElem?_eq_none_iff.1 hs; omega)]; exact ⟨Int.le_refl _, by show -1 ≤ r - 1; omega, fun h => by cases h⟩
      | some s =>
        by_cases hb : s.arity ≠ xs.length ∨ (s.pred = true ∧ 1 < d)
        · rw [fit_bad h1 hf hs hb]; exact ⟨Int.le_refl _, by show -1 ≤ r - 1; omega, fun h => by cases h⟩
        · rw [fit_in h1 hf hs hb]; exact key xs ih (d + 1) (r - 1) (by omega)

def FitPost (l : List Sm) (t : Tm) (d r : Int) (rb : Nat) (w : World) (e : Ending) (w' : World) : Prop :=
  e = .returned (.bool (fitT l t d r).1) ∧ Keeps (fun g => g < w.heap.size ∧ g ≠ rb) w w' ∧ w'.heap[rb]? = some (.cells #[.int .i64 (fitT l t d r).2] 3)
def FitAt (l : List Sm) (t : Tm) : Prop := ∀ (As A : Option Addr) (cs c : Nat) (d r : Int) (rb : Nat) (w : World), I64 t.fn → Syms w rb As l.length l → l.length ≤ 9223372036854775807 → Args w rb A t.args → w.heap[rb]? = some (.cells #[.int .i64 r] 3) → 0 ≤ r → r ≤ 300 → 1 ≤ d → d ≤ 31 →
  Calls Tryd.prog 30 #[.agg #[.slice As l.length cs], .agg #[.int .i64 t.fn, .slice A t.args.length c], .int .i64 d, .pointer (some ⟨rb, 0, none⟩)] w (FitPost l t d r rb w)

theorem heap2 (w : World) (o1 o2 : Obj) : ((w.alloc o1).alloc o2).heap[w.heap.size]? = some o1 ∧ ((w.alloc o1).alloc o2).heap[w.heap.size + 1]? = some o2 := by
  have e1 : (w.alloc o1).heap.size = w.heap.size + 1 := by simp
  refine ⟨?_, ?_⟩
  · rw [Below.heap_alloc _ _ _ (by omega)]
    exact heap_alloc_new w o1
  · rw [← e1]
    exact heap_alloc_new _ o2
theorem cells_one {W : World} {b : Nat} {x : Value} {t : TypeId} (h : W.heap[b]? = some (.cells #[x] t)) : W.cell? ⟨b, 0, none⟩ = some x ∧ W.frozen? ⟨b, 0, none⟩ = false := by
  refine ⟨?_, ?_⟩ <;> simp [World.cell?, World.frozen?, h]

set_option maxHeartbeats 2000000 in
theorem termFits_any (l : List Sm) (t : Tm) : FitAt l t := by
  refine Tm.ind (P := FitAt l) (fun f xs ih => ?_) t
  intro As A cs c d r rb w hf hS hl hA hr hr0 hr3 hd1 hd3
  simp only [Tm.fn, Tm.args] at hf hA ⊢
  have hrb : rb < w.heap.size := (Array.getElem?_eq_some_iff.1 hr).1
  obtain ⟨p0, p1⟩ := heap2 w (.cells #[.slice As l.length cs] 48) (.cells #[.int .i64 f, .slice A xs.length c] 24)
  obtain ⟨W, hW⟩ : ∃ W, ((w.alloc (.cells #[.slice As l.length cs] 48)).alloc (.cells #[.int .i64 f, .slice A xs.length c] 24)) = W := ⟨_, rfl⟩
  have hB : Below w.heap.size w W := by rw [← hW]; exact ((Below.refl _ _).alloc (Nat.le_refl _) _).alloc (by simp) _
  rw [hW] at p0 p1
  have hrW : W.heap[rb]? = some (.cells #[.int .i64 r] 3) := (hB.block rb hrb).trans hr
  -- behind the room's count
  obtain ⟨V, hV⟩ : ∃ V, W.setCell ⟨rb, 0, none⟩ (.int .i64 (r - 1)) = V := ⟨_, rfl⟩
  have hKV : Keeps (· ≠ rb) W V := by rw [← hV]; exact (Keeps.set W ⟨rb, 0, none⟩ _).mono fun g e => e
  have q0 := (hKV.block _ (show w.heap.size ≠ rb by omega)).trans p0
  have q1 := (hKV.block _ (show w.heap.size + 1 ≠ rb by omega)).trans p1
  have qr : V.heap[rb]? = some (.cells #[.int .i64 (r - 1)] 3) := by rw [← hV]; exact heap_setCell_same W rb 0 _ _ _ hrW
  obtain ⟨a0, _⟩ := cells_one q0
  obtain ⟨b0, b1, _, _⟩ := cells_two q1
  obtain ⟨r0, r1⟩ := cells_one qr
  obtain ⟨s0, s1⟩ := cells_one hrW
  have hKw : Keeps (fun g => g < w.heap.size ∧ g ≠ rb) w V := ((Keeps.of_below hB).mono fun g e => e.1).trans (hKV.mono fun g e => e.2)
  have hSV := hS.keep (w' := V) fun p hp => World.cell?_of_block (hKw.block _ ⟨by omega, by omega⟩)
  have HW := Lib.hid hW
  have HV := Lib.hid hV
  clear hW hV
  go_enter Tryd.func30, Tryd.ntmps30
  go_upto_region 1 with fail
  rw [HW.out]
  go_upto_region 2 with fail
  rw [HV.out]
  have fin : ∀ {v : Bool} {x : Int} {w' : World}, Hid (fitT l (.node f xs) d r = (v, x)) → Keeps (fun g => g < w.heap.size ∧ g ≠ rb) w w' → w'.heap[rb]? = some (.cells #[.int .i64 x] 3) → FitPost l (.node f xs) d r rb w (.returned (.bool v)) w' := fun h hk hc => ⟨by rw [h.out], hk, by rw [h.out]; exact hc⟩
  have hwV : w.heap.size + 1 < V.heap.size := (Array.getElem?_eq_some_iff.1 q1).1
  have keep2 : ∀ {w2 : World}, Below V.heap.size V w2 → Keeps (fun g => g < w.heap.size ∧ g ≠ rb) w w2 ∧ w2.heap[rb]? = some (.cells #[.int .i64 (r - 1)] 3) := fun h => ⟨hKw.trans ((Keeps.of_below h).mono fun g e => by have := e.1; show g < V.heap.size; omega), (h.block rb (by omega)).trans qr⟩
  by_cases h1 : r - 1 < 0 ∨ 30 < d
  · have hf := Lib.hid (fit_room (l := l) (f := f) (xs := xs) h1)
    by_cases h2 : r - 1 < 0
    · go_wp2
      go_ret
      exact fin hf hKw qr
    · have h3 : 30 < d := by omega
      go_wp2
      go_ret
      exact fin hf hKw qr
  · obtain ⟨h2, h3⟩ := not_or.1 h1
    by_cases hf0 : f < 0
    · have hfv := fit_var (l := l) (xs := xs) h1 hf0
      by_cases hv1 : -1 - f < 48
      · have hfv' := Lib.hid hfv
        go_wp2_with (first
          | (go_at_call 38
             refine (variable_any f _ V hf hf0).mono ?_
             rintro e w2 ⟨rfl, hb2⟩
             have hx2 := cell_on hb2 (b := w.heap.size + 1) (o := 1) (by have := (Array.getElem?_eq_some_iff.1 q1).1; omega) b1)
          | fail)
        go_ret
        have k2 := keep2 hb2
        exact ⟨ret_bool (by rw [hfv'.out]; simp only [hv1, true_and]; cases xs <;> simp; omega), k2.1, by rw [hfv'.out]; exact k2.2⟩
      · have hfv' := Lib.hid hfv
        go_wp2_with (first
          | (go_at_call 38
             refine (variable_any f _ V hf hf0).mono ?_
             rintro e w2 ⟨rfl, hb2⟩)
          | fail)
        go_ret
        have k2 := keep2 hb2
        exact ⟨ret_bool (by rw [hfv'.out]; exact (decide_eq_false fun h => by have := h.1; omega).symm), k2.1, by rw [hfv'.out]; exact k2.2⟩
    · by_cases ho : (l.length : Int) ≤ f
      · have hfo := Lib.hid (fit_out (l := l) (xs := xs) h1 hf0 ho)
        go_wp2
        go_ret
        exact fin hfo hKw qr
      · obtain ⟨k0, rfl⟩ : ∃ k0 : Nat, f = (k0 : Int) := ⟨f.toNat, by omega⟩
        obtain ⟨s, hs⟩ : ∃ s, l[k0]? = some s := ⟨_, List.getElem?_eq_getElem (by omega)⟩
        obtain ⟨sb, so, rfl, hsb, hsc⟩ := hSV.ad (by omega)
        obtain ⟨y0, y1, y2⟩ := hsc _ _ hs
        have hs' : l[((k0 : Int)).toNat]? = some s := by simpa using hs
        have hlt' : (k0 : Int) < l.length := by omega
        have hge' : (k0 : Int) ≥ 0 := by omega
        by_cases hb : s.arity ≠ xs.length ∨ (s.pred = true ∧ 1 < d)
        · have hfb := Lib.hid (fit_bad (xs := xs) h1 hf0 hs' hb)
          by_cases hb1 : s.arity = xs.length
          · have hb2 : s.pred = true ∧ 1 < d := hb.resolve_left (fun h => h hb1)
            obtain ⟨hb3, hb4⟩ := hb2
            clear hs hs' hsc
            go_wp2
            go_ret
            exact fin hfb (keep2 ((Below.refl _ _).alloc (Nat.le_refl _) _)).1 (keep2 ((Below.refl _ _).alloc (Nat.le_refl _) _)).2
          · clear hs hs' hsc
            go_wp2
            go_ret
            exact fin hfb (keep2 ((Below.refl _ _).alloc (Nat.le_refl _) _)).1 (keep2 ((Below.refl _ _).alloc (Nat.le_refl _) _)).2
        · have hfi := Lib.hid (fit_in (xs := xs) h1 hf0 hs' hb)
          have hb1 : s.arity = xs.length := Classical.not_not.1 (fun h => hb (.inl h))
          have hb2 : s.pred = true → ¬ 1 < d := fun h h' => hb (.inr ⟨h, h'⟩)
          have hB5 : Below V.heap.size V (V.alloc (.cells #[.string s.name, .int .i64 s.arity, .bool s.pred] 59)) := (Below.refl _ _).alloc (Nat.le_refl _) _
          clear hs hs' hsc hb
          go_upto_region 9 with fail
          go_cut [62] (fun s62 wx => s62 = .bool false ∧ wx = V.alloc (.cells #[.string s.name, .int .i64 s.arity, .bool s.pred] 59))
          case first =>
            by_cases hp : s.pred = true
            · have hd := hb2 hp
              go_wp2
              go_meet
              case rel => exact ⟨rfl, by rw [hb1, hp]⟩
            · have hp' : s.pred = false := by simpa using hp
              go_wp2
              go_meet
              case rel => exact ⟨rfl, by rw [hb1, hp']⟩
          case rest =>
            obtain ⟨rfl, rfl⟩ := hcut
            obtain ⟨V5, hV5⟩ : ∃ V5, V.alloc (.cells #[.string s.name, .int .i64 s.arity, .bool s.pred] 59) = V5 := ⟨_, rfl⟩
            rw [hV5] at hB5 ⊢
            have k5 := keep2 hB5
            have x0 := (hB5.block _ (by omega)).trans q0
            have x1 := (hB5.block _ hwV).trans q1
            have hV5s : w.heap.size + 1 < V5.heap.size := (Array.getElem?_eq_some_iff.1 x1).1
            obtain ⟨z0, _⟩ := cells_one x0
            obtain ⟨_, z1, _, _⟩ := cells_two x1
            clear hV5 q0 q1 qr a0 b0 b1 r0 r1 s0 s1 y0 y1 y2 hB5 hB hrW p0 p1 HW HV
            go_wp2
            go_loopw [66] (fun i wr => ∃ (k : Nat) (r' : Int), k ≤ xs.length ∧ i = .int .i64 (k : Int) ∧ Keeps (fun g => g < V5.heap.size ∧ g ≠ rb) V5 wr ∧ wr.heap[rb]? = some (.cells #[.int .i64 r'] 3) ∧ 0 ≤ r' ∧ r' ≤ 300 ∧ Hid (fitL l xs (d + 1) (r - 1) = fitL l (xs.drop k) (d + 1) r')) (fun i _ => xs.length - (intOf i).toNat)
            case atStart => exact ⟨0, r - 1, Nat.zero_le _, rfl, Keeps.refl _ _, k5.2, by omega, by omega, rfl⟩
            case round =>
              obtain ⟨k, r', hk, rfl, hKr, hcr, hr0', hr3', H⟩ := hrel
              have hKwr : Keeps (fun g => g < w.heap.size ∧ g ≠ rb) w wr := k5.1.trans (hKr.mono fun g e => ⟨by have := e.1; omega, e.2⟩)
              by_cases hlt : k < xs.length
              · obtain ⟨u, hu⟩ : ∃ u, xs[k]? = some u := ⟨_, List.getElem?_eq_getElem hlt⟩
                obtain ⟨bb, off, A1, c1, rfl, ha⟩ := (hA.keep (w' := wr) fun p hp => World.cell?_of_block (hKwr.block _ ⟨by omega, by omega⟩)).get hu
                have e0 := ha.c0
                have e1 := ha.c1
                have hl2 := hA.len
                have hwr : rb < wr.heap.size := (Array.getElem?_eq_some_iff.1 hcr).1
                have hdrop : xs.drop k = u :: xs.drop (k + 1) := by
                  rw [List.drop_eq_getElem_cons hlt]
                  rw [List.getElem?_eq_getElem hlt] at hu
                  injection hu with hu
                  rw [hu]
                have hBa : Below wr.heap.size wr (wr.alloc (.cells #[.int .i64 u.fn, .slice A1 u.args.length c1] 24)) := (Below.refl _ _).alloc (Nat.le_refl _) _
                have g0 := cell_on hBa (b := w.heap.size) (o := 0) (by have := hKr.size; omega) ((World.cell?_of_block (a := ⟨w.heap.size, 0, none⟩) (hKr.block w.heap.size ⟨by omega, by omega⟩)).trans z0)
                have hsy := Lib.hid ((hS.keep (w' := wr) fun p hp => World.cell?_of_block (hKwr.block _ ⟨by omega, by omega⟩)).below (hBa.mono (show rb ≤ wr.heap.size by omega)))
                have hsu := Lib.hid (ha.sub.blw (hBa.mono (show rb ≤ wr.heap.size by omega)))
                have hcr' := Lib.hid ((hBa.block rb hwr).trans hcr)
                have hfle := fit_le l u (d + 1) r' hr0'
                have hu64 := ha.hi
                have hmem := List.mem_of_getElem? hu
                clear hu ha
                cases hb : (fitT l u (d + 1) r').1 with
                | true =>
                  have hfy := fitL_yes (xs := xs.drop (k + 1)) hb
                  have H2 : Hid (fitL l xs (d + 1) (r - 1) = fitL l (xs.drop (k + 1)) (d + 1) (fitT l u (d + 1) r').2) := by
                    rw [show fitL l xs (d + 1) (r - 1) = _ from H.out, hdrop, hfy]; rfl
                  have hb' := Lib.hid hb
                  clear hb hfy H hdrop
                  go_wp2_with (first
                    | (go_at_call 30
                       refine (ih u hmem (some ⟨sb, so, none⟩) A1 cs c1 (d + 1) r' rb _ hu64 hsy.out hl hsu.out hcr'.out hr0' hr3' (by omega) (by omega)).mono ?_
                       rintro e w8 ⟨rfl, hK8, hc8⟩
                       rw [hb'.out])
                    | fail)
                  exact ⟨⟨k + 1, _, by omega, by go_num, (hKr.trans ((Keeps.of_below hBa).mono fun g e => by have := e.1; have := hKr.size; show g < wr.heap.size; omega)).trans (hK8.mono fun g e => ⟨by have := e.1; have := hKr.size; simp; omega, e.2⟩), hc8, hfle.2.2 hb'.out, by omega, H2.out⟩, by simp [intOf]; omega⟩
                | false =>
                  have hfn := fitL_no (xs := xs.drop (k + 1)) hb
                  have H2 : Hid (fitT l (.node (k0 : Int) xs) d r = (false, (fitT l u (d + 1) r').2)) := by
                    rw [hfi.out, show fitL l xs (d + 1) (r - 1) = _ from H.out, hdrop, hfn]; rfl
                  have hb' := Lib.hid hb
                  clear hb hfn H hdrop
                  go_wp2_with (first
                    | (go_at_call 30
                       refine (ih u hmem (some ⟨sb, so, none⟩) A1 cs c1 (d + 1) r' rb _ hu64 hsy.out hl hsu.out hcr'.out hr0' hr3' (by omega) (by omega)).mono ?_
                       rintro e w8 ⟨rfl, hK8, hc8⟩
                       rw [hb'.out])
                    | fail)
                  go_ret
                  exact fin H2 (hKwr.trans (((Keeps.of_below hBa).mono (T := fun g => g < w.heap.size ∧ g ≠ rb) fun g e => by have := e.1; have := hKr.size; show g < wr.heap.size; omega).trans (hK8.mono fun g e => ⟨by have := e.1; have := hKr.size; simp; omega, e.2⟩))) hc8
              · obtain rfl : k = xs.length := by omega
                have H2 : fitT l (.node (k0 : Int) xs) d r = (true, r') := by
                  rw [hfi.out, show fitL l xs (d + 1) (r - 1) = _ from H.out]; simp [fitL]
                have H2 := Lib.hid H2
                go_wp2
                go_ret
                exact fin H2 hKwr hcr
end Go.Proofs.YtimgomoafeaoiaaDoor
