import Derived.Test.YthgglobfkkcdgaaGreatDoorP48S7
import Derived.Test.YthgglobfkkcdgaaGreatDoorP48S8
import Derived.Test.YthgglobfkkcdgaaGreatDoorP48S9
import Derived.Test.YthgglobfkkcdgaaGreatDoorP48S10
import Derived.Test.YthgglobfkkcdgaaGreatDoorP48S2
import Derived.WideMake
import Derived.Test.YthgglobfkkcdgaaGreatDoorP48S5
import Derived.Test.YthgglobfkkcdgaaGreatDoorP48S1
namespace Go.Proofs.YthgglobfkkcdgaaGreatDoor
open Go.RowKit Go.Shelf Go.Maps
set_option maxRecDepth 100000
theorem count_any (o : Odr) (b : Bal) (t : Tm) (P Q A : Option Addr) (pc qc c bx bm B0 : Nat) (at_ : Int) (hat : at_ = 0 ∨ at_ = 1) (w : World) (hM : BalM w bx bm o P pc Q qc b) (hO : OdrM w B0 o P Q) (hB0 : B0 ≤ w.heap.size) (hk : t.fn < 0 ∨ t.fn < (o.wts.length : Int)) (hOK : BalOK b) (hf64 : I64 t.fn) :
    Calls Tryz.prog 109 #[.pointer (some ⟨bx, 0, none⟩), .agg #[.int .i64 t.fn, .slice A t.args.length c], .int .i64 at_] w (CntPost bx bm o P pc Q qc (cntB o at_ b t.fn) w) := by
  rcases hat with rfl | rfl
  · by_cases hf : t.fn < 0
    · by_cases hv : 0 ≤ b.V t.fn
      · exact count_neg00 o b t P Q A pc qc c bx bm B0 w hM hO hB0 hk hOK hf64 hf hv
      · exact count_neg01 o b t P Q A pc qc c bx bm B0 w hM hO hB0 hk hOK hf64 hf hv
    · exact count_pos0 o b t P Q A pc qc c bx bm B0 w hM hO hB0 hk hOK hf
  · by_cases hf : t.fn < 0
    · by_cases hv : 0 ≤ -b.V t.fn
      · exact count_neg10 o b t P Q A pc qc c bx bm B0 w hM hO hB0 hk hOK hf64 hf hv
      · exact count_neg11 o b t P Q A pc qc c bx bm B0 w hM hO hB0 hk hOK hf64 hf hv
    · exact count_pos1 o b t P Q A pc qc c bx bm B0 w hM hO hB0 hk hOK hf
end Go.Proofs.YthgglobfkkcdgaaGreatDoor
namespace Go.Proofs.YthgglobfkkcdgaaGreatDoor
open Go.RowKit Go.Shelf Go.Maps
set_option maxRecDepth 100000
def lvis (o : Odr) (at_ : Int) (b : Bal) (t : Tm) : Bal × Bool := (cntB o at_ b t.fn, true)
def layB (o : Odr) (at_ : Int) (b : Bal) (t : Tm) : Bal := (evT (lvis o at_) b t).1
def lokV (o : Odr) (b : Bal) (t : Tm) : Prop := (t.fn < 0 ∨ t.fn < (o.wts.length : Int)) ∧ BalOK b
theorem know_top {o : Odr} {f : Int} {n : Nat} (h : knowTop o f n = true) : (f < 0 ∨ f < (o.wts.length : Int)) ∧ f < (o.prec.length : Int) ∧ (f < 0 → n = 0) := by
  unfold knowTop at h
  by_cases hf : f < 0
  · rw [if_pos hf] at h
    exact ⟨.inl hf, by omega, fun _ => of_decide_eq_true h⟩
  · rw [if_neg hf, Bool.and_eq_true, decide_eq_true_eq, decide_eq_true_eq] at h
    exact ⟨.inr h.2, h.1, fun h' => absurd h' hf⟩
theorem knowL_mem {o : Odr} : ∀ {xs : List Tm} {t : Tm}, knowL o xs = true → t ∈ xs → knowT o t = true
  | [], _, _, h => by simp at h
  | x :: xs, t, hk, h => by
    rw [knowL, Bool.and_eq_true] at hk
    rcases List.mem_cons.1 h with rfl | h
    · exact hk.1
    · exact knowL_mem hk.2 h
structure LayOK (o : Odr) (at_ : Int) (b : Bal) (t : Tm) : Prop where
  yes : (evT (lvis o at_) b t).2 = true
  n : (layB o at_ b t).n = b.n + t.size
  ok : BalOK (layB o at_ b t)
  all : okT (lokV o) (lvis o at_) b t
theorem lay_ok (o : Odr) (at_ : Int) (t : Tm) : ∀ b, BalOK b → knowT o t = true → b.n + t.size ≤ 1073741824 → LayOK o at_ b t := by
  have key : ∀ xs : List Tm, (∀ t ∈ xs, ∀ b, BalOK b → knowT o t = true → b.n + t.size ≤ 1073741824 → LayOK o at_ b t) → ∀ b, BalOK b → knowL o xs = true → b.n + sizes xs ≤ 1073741824 →
      (evL (lvis o at_) b xs).2 = true ∧ (evL (lvis o at_) b xs).1.n = b.n + sizes xs ∧ BalOK (evL (lvis o at_) b xs).1 ∧ okL (lokV o) (lvis o at_) b xs := by
    intro xs
    induction xs with
    | nil => intro _ b hb _ _; exact ⟨by rw [evL], by rw [evL]; simp [sizes], by rw [evL]; exact hb, by rw [okL]; trivial⟩
    | cons x xs ih =>
      intro h b hb hk hn
      rw [knowL, Bool.and_eq_true] at hk
      simp only [sizes] at hn ⊢
      have h1 := h x (by simp) b hb hk.1 (by omega)
      have hn1 : (evT (lvis o at_) b x).1.n = b.n + x.size := h1.n
      obtain ⟨k1, k2, k3, k4⟩ := ih (fun t ht => h t (by simp [ht])) (evT (lvis o at_) b x).1 h1.ok hk.2 (by omega)
      have e : evL (lvis o at_) b (x :: xs) = evL (lvis o at_) (evT (lvis o at_) b x).1 xs := by rw [evL, h1.yes]; rfl
      rw [e]
      exact ⟨k1, by omega, k3, by rw [okL]; exact ⟨h1.all, fun _ => k4⟩⟩
  refine Tm.ind (P := fun t => ∀ b, BalOK b → knowT o t = true → b.n + t.size ≤ 1073741824 → LayOK o at_ b t) (fun f xs ih b hb hk hn => ?_) t
  rw [knowT, Bool.and_eq_true] at hk
  simp only [Tm.size] at hn
  have hb1 : BalOK (cntB o at_ b f) := hb.next (by omega) f
  have hn1 : (cntB o at_ b f).n = b.n + 1 := rfl
  obtain ⟨k1, k2, k3, k4⟩ := key xs ih (cntB o at_ b f) hb1 hk.2 (by omega)
  have e : evT (lvis o at_) b (.node f xs) = evL (lvis o at_) (cntB o at_ b f) xs := by rw [evT]; rfl
  refine ⟨by rw [e]; exact k1, ?_, ?_, ?_⟩
  · show (evT (lvis o at_) b (.node f xs)).1.n = _
    rw [e]; simp only [Tm.size]; omega
  · show BalOK (evT (lvis o at_) b (.node f xs)).1
    rw [e]; exact k3
  · rw [okT]
    exact ⟨⟨(know_top hk.1).1, hb⟩, fun _ => k4⟩
structure BalW (o : Odr) (P Q : Option Addr) (pc qc bx bm B0 : Nat) (b : Bal) (w : World) : Prop where
  m : BalM w bx bm o P pc Q qc b
  o : OdrM w B0 o P Q
  lx : B0 ≤ bx
  lm : B0 ≤ bm
theorem BalW.lt {o : Odr} {P Q : Option Addr} {pc qc bx bm B0 : Nat} {b : Bal} {w : World} (h : BalW o P Q pc qc bx bm B0 b w) : bx < w.heap.size ∧ bm < w.heap.size := ⟨(Array.getElem?_eq_some_iff.1 h.m.box).1, h.m.map.lt⟩
theorem OdrM.blw {w w' : World} {B : Nat} {o : Odr} {P Q : Option Addr} (h : OdrM w B o P Q) (hk : ∀ g, g < B → w'.heap[g]? = w.heap[g]?) : OdrM w' B o P Q :=
  ⟨h.p.keep fun p hp => World.cell?_of_block (hk p.block hp), h.q.keep fun p hp => World.cell?_of_block (hk p.block hp), h.v⟩
theorem BalW.keep {o : Odr} {P Q : Option Addr} {pc qc bx bm B0 : Nat} {b : Bal} {w w' : World} (h : BalW o P Q pc qc bx bm B0 b w) (hk : ∀ g, g < B0 ∨ g = bx ∨ g = bm → w'.heap[g]? = w.heap[g]?) : BalW o P Q pc qc bx bm B0 b w' :=
  ⟨h.m.keep (hk bx (.inr (.inl rfl))) (hk bm (.inr (.inr rfl))), h.o.blw fun g hg => hk g (.inl hg), h.lx, h.lm⟩
theorem BalW.on {o : Odr} {P Q : Option Addr} {pc qc bx bm B0 : Nat} {b : Bal} {w w' : World} (h : BalW o P Q pc qc bx bm B0 b w) (hb : Below w.heap.size w w') : BalW o P Q pc qc bx bm B0 b w' :=
  h.keep fun g hg => hb.block g (by have := h.lt; have := h.lx; have := h.lm; omega)
theorem BalW.next {o : Odr} {P Q : Option Addr} {pc qc bx bm B0 : Nat} {b b' : Bal} {w w' : World} (h : BalW o P Q pc qc bx bm B0 b w) (hm : BalM w' bx bm o P pc Q qc b') (hk : KeepsC (fun g => g = bx ∨ g = bm) w w') : BalW o P Q pc qc bx bm B0 b' w' :=
  ⟨hm, h.o.blw fun g hg => hk.block (by have := h.lt; have := h.lx; omega) (by rintro (e | e) <;> (have := h.lx; have := h.lm; omega)), h.lx, h.lm⟩
theorem count_at {o : Odr} {P Q : Option Addr} {pc qc bx bm B0 : Nat} {b : Bal} {w : World} (h : BalW o P Q pc qc bx bm B0 b w) (t : Tm) (A : Option Addr) (c : Nat) (at_ : Int) (hat : at_ = 0 ∨ at_ = 1) (hk : t.fn < 0 ∨ t.fn < (o.wts.length : Int)) (hOK : BalOK b) (hf : I64 t.fn) :
    Calls Tryz.prog 109 #[.pointer (some ⟨bx, 0, none⟩), .agg #[.int .i64 t.fn, .slice A t.args.length c], .int .i64 at_] w fun e w' => e = .returned (.tuple #[]) ∧ BalW o P Q pc qc bx bm B0 (cntB o at_ b t.fn) w' ∧ KeepsC (fun g => g = bx ∨ g = bm) w w' :=
  (count_any o b t P Q A pc qc c bx bm B0 at_ hat w h.m h.o (by have := h.lt; have := h.lx; omega) hk hOK hf).mono fun e w' ⟨he, hm, hkk⟩ => ⟨he, h.next hm hkk, hkk⟩
set_option maxHeartbeats 1000000 in
theorem lay1_any {o : Odr} {P Q : Option Addr} {pc qc bx bm B0 : Nat} {b : Bal} {w : World} (h : BalW o P Q pc qc bx bm B0 b w) (t : Tm) (A : Option Addr) (c pb ps : Nat) (at_ : Int) (hat : at_ = 0 ∨ at_ = 1) (hk : t.fn < 0 ∨ t.fn < (o.wts.length : Int)) (hOK : BalOK b) (hf : I64 t.fn)
    (hpb : Boxed w pb 137 (.pointer (some ⟨bx, 0, none⟩))) (hps : Boxed w ps 140 (.int .i64 at_)) :
    Calls Tryz.prog 131 #[.agg #[.int .i64 t.fn, .slice A t.args.length c], .pointer (some ⟨pb, 0, none⟩), .pointer (some ⟨ps, 0, none⟩)] w fun e w' => e = .returned (.bool true) ∧ BalW o P Q pc qc bx bm B0 (cntB o at_ b t.fn) w' ∧ KeepsC (fun g => g = bx ∨ g = bm) w w' := by
  have q0 := heap_alloc_new w (.cells #[.int .i64 t.fn, .slice A t.args.length c] 32)
  obtain ⟨W, hW⟩ : ∃ W, w.alloc (.cells #[.int .i64 t.fn, .slice A t.args.length c] 32) = W := ⟨_, rfl⟩
  have hB : Below w.heap.size w W := by rw [← hW]; exact (Below.refl _ _).alloc (Nat.le_refl _) _
  rw [hW] at q0
  obtain ⟨x0, x1, _, _⟩ := cells_two q0
  have c1 := Boxed.cell (show Boxed W pb _ _ from (hB.block _ hpb.lt).trans hpb)
  have c2 := Boxed.cell (show Boxed W ps _ _ from (hB.block _ hps.lt).trans hps)
  have H1 := Lib.hid (count_at (h.on hB) t A c at_ hat hk hOK hf)
  have HW := Lib.hid hW
  clear hW h q0
  go_enter Tryz.func131, Tryz.ntmps131
  go_upto_region 1 with fail
  rw [HW.out]
  go_wp2_with (first
    | (go_at_call 109; (with_reducible refine H1.out.mono ?_); go_must (rintro e w1 ⟨rfl, hI1, hk1⟩; have HI1 := Lib.hid hI1; clear hI1))
    | fail)
  go_ret
  exact ⟨rfl, HI1.out, (KeepsC.of_below hB).trans hk1⟩
theorem lay1_vis (o : Odr) (P Q : Option Addr) (pc qc bx bm B0 B1 pb ps : Nat) (at_ : Int) (hat : at_ = 0 ∨ at_ = 1) (h1 : B0 ≤ bx) (h2 : B0 ≤ bm) (h3 : bx < pb) (h4 : bm < pb) (h5 : pb < ps) (h6 : ps < B1) :
    VisC (lokV o) (lvis o at_) 131 #[.pointer (some ⟨pb, 0, none⟩), .pointer (some ⟨ps, 0, none⟩)] (fun g => g = bx ∨ g = bm) (· < B1) (· < B0)
      (fun b W => BalW o P Q pc qc bx bm B0 b W ∧ Boxed W pb 137 (.pointer (some ⟨bx, 0, none⟩)) ∧ Boxed W ps 140 (.int .i64 at_)) B1 where
  ent := enters_of Tryz.func131 (by kernel_rfl) rfl
  call := fun b t A c W hB1 hI hf hV hA => (lay1_any hI.1 t A c pb ps at_ hat hV.1 hV.2 hf hI.2.1 hI.2.2).mono fun e w' ⟨he, hI', hk⟩ =>
    ⟨he, ⟨hI', (hk.block hI.2.1.lt (by rintro (e | e) <;> omega)).trans hI.2.1, (hk.block hI.2.2.lt (by rintro (e | e) <;> omega)).trans hI.2.2⟩, hk⟩
  stay := fun b W W' h hk => ⟨h.1.keep fun g hg => hk.block g (by omega), (hk.block pb (by omega)).trans h.2.1, (hk.block ps h6).trans h.2.2⟩
  cb := fun g e => by omega
  db := fun g e => e
  nb := fun g e => by omega
  nc := fun g e => by rintro (e' | e') <;> omega
set_option maxHeartbeats 1000000 in
theorem lay_any {o : Odr} {P Q : Option Addr} {pc qc bx bm B0 : Nat} {b : Bal} {w : World} (h : BalW o P Q pc qc bx bm B0 b w) (t : Tm) (A : Option Addr) (c : Nat) (at_ : Int) (hat : at_ = 0 ∨ at_ = 1) (hOK : BalOK b) (hk : knowT o t = true) (hn : b.n + t.size ≤ 1073741824) (hf : I64 t.fn) (hA : ArgsN w (· < B0) A t.args) :
    Calls Tryz.prog 107 #[.pointer (some ⟨bx, 0, none⟩), .agg #[.int .i64 t.fn, .slice A t.args.length c], .int .i64 at_] w fun e w' => e = .returned (.tuple #[]) ∧ BalW o P Q pc qc bx bm B0 (layB o at_ b t) w' ∧ KeepsC (fun g => g = bx ∨ g = bm) w w' := by
  obtain ⟨q0, q1, q2⟩ := heap3 w (.cells #[.pointer (some ⟨bx, 0, none⟩)] 137) (.cells #[.int .i64 t.fn, .slice A t.args.length c] 32) (.cells #[.int .i64 at_] 140)
  obtain ⟨W, hW⟩ : ∃ W, (((w.alloc (.cells #[.pointer (some ⟨bx, 0, none⟩)] 137)).alloc (.cells #[.int .i64 t.fn, .slice A t.args.length c] 32)).alloc (.cells #[.int .i64 at_] 140)) = W := ⟨_, rfl⟩
  have hB : Below w.heap.size w W := by rw [← hW]; exact (((Below.refl _ _).alloc (Nat.le_refl _) _).alloc (by simp) _).alloc (by simp; omega) _
  rw [hW] at q0 q1 q2
  have hWs : w.heap.size + 1 + 1 < W.heap.size := (Array.getElem?_eq_some_iff.1 q2).1
  obtain ⟨x0, x1, _, _⟩ := cells_two q1
  obtain ⟨hlx, hlm⟩ := h.lt
  have hl := lay_ok o at_ t b hOK hk hn
  have h1 := each_any (lay1_vis o P Q pc qc bx bm B0 W.heap.size w.heap.size (w.heap.size + 1 + 1) at_ hat h.lx h.lm hlx hlm (by omega) hWs) t b A c W (Nat.le_refl _) ⟨h.on hB, q0, q2⟩ hf hl.all (hA.keep fun g e => hB.block g (by have := h.lx; omega))
  unfold VisPost at h1
  rw [hl.yes] at h1
  have H1 := Lib.hid h1
  have HW := Lib.hid hW
  clear hW h hA q0 q1 q2 h1 hl
  go_enter Tryz.func107, Tryz.ntmps107
  go_upto_region 1 with fail
  rw [HW.out]
  go_wp2_with (first
    | (go_at_call 75; (with_reducible refine H1.out.mono ?_); go_must (rintro e w1 ⟨rfl, hI1, hk1⟩; have HI1 := Lib.hid hI1; clear hI1))
    | fail)
  go_end0
  exact ⟨rfl, HI1.out.1, (KeepsC.of_below hB).trans hk1⟩
end Go.Proofs.YthgglobfkkcdgaaGreatDoor
namespace Go.Proofs.YthgglobfkkcdgaaGreatDoor
open Go.RowKit Go.Shelf Go.Maps
set_option maxRecDepth 100000
def finQ (b0 : Bal) (r : Bal × Int) : Int := if numI (capI (r.1.w0 - b0.w0)) (capI (r.1.w1 - b0.w1)) = 0 then r.2 else relC (numI (capI (r.1.w0 - b0.w0)) (capI (r.1.w1 - b0.w1)))
def finR (a0 a1 q : Int) : Int := if q = 3 ∧ 0 < a1 then 0 else if q = 1 ∧ 0 < a0 then 0 else q
def finB (b0 : Bal) (r : Bal × Int) : Int := finR r.1.a0 r.1.a1 (finQ b0 r)
def layL (o : Odr) (at_ : Int) : Bal → List Tm → Bal
  | b, [] => b
  | b, t :: ts => layL o at_ (layB o at_ b t) ts
mutual
def rsnB (o : Odr) : Tm → Bal → Tm → Bal × Int
  | .node f xs, b, t => if f = t.fn then argB o xs (cntB o 1 (cntB o 0 b f) t.fn) t.args else (layB o 1 (layB o 0 b (.node f xs)) t, topsR o (.node f xs) t)
def argB (o : Odr) : List Tm → Bal → List Tm → Bal × Int
  | [], b, ys => (layL o 1 b ys, relC (numI 0 ys.length))
  | x :: xs, b, [] => (layL o 0 b (x :: xs), relC (numI (xs.length + 1 : Nat) 0))
  | x :: xs, b, y :: ys => if finB b (rsnB o x b y) = 2 then argB o xs (rsnB o x b y).1 ys else (layL o 1 (layL o 0 (rsnB o x b y).1 xs) ys, finB b (rsnB o x b y))
end
theorem relC_bd (c : Int) : 1 ≤ relC c ∧ relC c ≤ 3 := by unfold relC; split <;> (try split) <;> omega
theorem finR_bd {a0 a1 q : Int} (h : 0 ≤ q ∧ q ≤ 3) : 0 ≤ finR a0 a1 q ∧ finR a0 a1 q ≤ 3 := by unfold finR; split <;> (try split) <;> omega
theorem finQ_bd {b0 : Bal} {r : Bal × Int} (h : 0 ≤ r.2 ∧ r.2 ≤ 3) : 0 ≤ finQ b0 r ∧ finQ b0 r ≤ 3 := by
  have := relC_bd (numI (capI (r.1.w0 - b0.w0)) (capI (r.1.w1 - b0.w1)))
  unfold finQ; split <;> omega
theorem relT_bd {r : Int} (h : 0 ≤ r ∧ r ≤ 3) : 0 ≤ relT r ∧ relT r ≤ 3 := by unfold relT; split <;> (try split) <;> omega
theorem topsR_bd (o : Odr) (s t : Tm) : 0 ≤ topsR o s t ∧ topsR o s t ≤ 3 := by
  unfold topsR
  split
  · split
    · omega
    · exact relT_bd (topsP_bd o t s)
  · exact topsP_bd o s t
structure StpOK (b b' : Bal) (n : Nat) : Prop where
  ok : BalOK b'
  n : b'.n = b.n + n
theorem layL_ok {o : Odr} {at_ : Int} : ∀ (ts : List Tm) (b : Bal), BalOK b → knowL o ts = true → b.n + sizes ts ≤ 1073741824 → StpOK b (layL o at_ b ts) (sizes ts)
  | [], b, hb, _, _ => ⟨hb, by simp [layL, sizes]⟩
  | t :: ts, b, hb, hk, hn => by
    rw [knowL, Bool.and_eq_true] at hk
    simp only [sizes] at hn ⊢
    have h1 := lay_ok o at_ t b hb hk.1 (by omega)
    have h2 := layL_ok (at_ := at_) ts (layB o at_ b t) h1.ok hk.2 (by have := h1.n; omega)
    exact ⟨h2.ok, by rw [layL, h2.n, h1.n]; omega⟩
theorem know_node {o : Odr} {t : Tm} (h : knowT o t = true) : knowTop o t.fn t.args.length = true ∧ knowL o t.args = true := by
  obtain ⟨f, xs⟩ := t
  rw [knowT, Bool.and_eq_true] at h
  exact h
theorem size_node (t : Tm) : t.size = 1 + sizes t.args := by obtain ⟨f, xs⟩ := t; simp only [Tm.size, Tm.args]; omega
mutual
theorem rsn_ok {o : Odr} : ∀ (s : Tm) (b : Bal) (t : Tm), BalOK b → knowT o s = true → knowT o t = true → b.n + s.size + t.size ≤ 1073741824 → StpOK b (rsnB o s b t).1 (s.size + t.size) ∧ 0 ≤ (rsnB o s b t).2 ∧ (rsnB o s b t).2 ≤ 3
  | .node f xs, b, t, hb, hs, ht, hn => by
    rw [rsnB]
    have hst := size_node t
    by_cases e : f = t.fn
    · rw [if_pos e]
      rw [knowT, Bool.and_eq_true] at hs
      obtain ⟨_, ht2⟩ := know_node ht
      simp only [Tm.size] at hn ⊢
      have h1 : BalOK (cntB o 0 b f) := hb.next (by omega) f
      have n1 : (cntB o 0 b f).n = b.n + 1 := rfl
      have h2 : BalOK (cntB o 1 (cntB o 0 b f) t.fn) := h1.next (by omega) t.fn
      have n2 : (cntB o 1 (cntB o 0 b f) t.fn).n = b.n + 1 + 1 := rfl
      obtain ⟨h3, h4⟩ := arg_ok xs (cntB o 1 (cntB o 0 b f) t.fn) t.args h2 hs.2 ht2 (by omega)
      exact ⟨⟨h3.ok, by rw [h3.n]; omega⟩, h4⟩
    · rw [if_neg e]
      have h1 := lay_ok o 0 (.node f xs) b hb hs (by omega)
      have h2 := lay_ok o 1 t (layB o 0 b (.node f xs)) h1.ok ht (by have := h1.n; omega)
      exact ⟨⟨h2.ok, by rw [h2.n, h1.n]; omega⟩, topsR_bd o _ _⟩
theorem arg_ok {o : Odr} : ∀ (xs : List Tm) (b : Bal) (ys : List Tm), BalOK b → knowL o xs = true → knowL o ys = true → b.n + sizes xs + sizes ys ≤ 1073741824 → StpOK b (argB o xs b ys).1 (sizes xs + sizes ys) ∧ 0 ≤ (argB o xs b ys).2 ∧ (argB o xs b ys).2 ≤ 3
  | [], b, ys, hb, _, hy, hn => by
    simp only [sizes] at hn ⊢
    have := relC_bd (numI 0 ys.length)
    have h1 := layL_ok (at_ := 1) ys b hb hy (by omega)
    rw [argB]
    exact ⟨⟨h1.ok, by rw [h1.n]; omega⟩, by show 0 ≤ relC _; omega, by show relC _ ≤ 3; omega⟩
  | x :: xs, b, [], hb, hx, _, hn => by
    have := relC_bd (numI (xs.length + 1 : Nat) 0)
    have h1 := layL_ok (at_ := 0) (x :: xs) b hb hx (by omega)
    rw [argB]
    exact ⟨⟨h1.ok, by rw [h1.n]; simp [sizes]⟩, by show 0 ≤ relC _; omega, by show relC _ ≤ 3; omega⟩
  | x :: xs, b, y :: ys, hb, hx, hy, hn => by
    rw [knowL, Bool.and_eq_true] at hx hy
    simp only [sizes] at hn ⊢
    obtain ⟨h1, h2⟩ := rsn_ok x b y hb hx.1 hy.1 (by omega)
    have hn1 := h1.n
    rw [argB]
    by_cases e : finB b (rsnB o x b y) = 2
    · rw [if_pos e]
      obtain ⟨h3, h4⟩ := arg_ok xs (rsnB o x b y).1 ys h1.ok hx.2 hy.2 (by omega)
      exact ⟨⟨h3.ok, by rw [h3.n]; omega⟩, h4⟩
    · rw [if_neg e]
      have h3 := layL_ok (at_ := 0) xs (rsnB o x b y).1 h1.ok hx.2 (by omega)
      have h4 := layL_ok (at_ := 1) ys (layL o 0 (rsnB o x b y).1 xs) h3.ok hy.2 (by have := h3.n; omega)
      exact ⟨⟨h4.ok, by show (layL o 1 (layL o 0 (rsnB o x b y).1 xs) ys).n = _; rw [h4.n, h3.n]; omega⟩, finR_bd (finQ_bd h2)⟩
end
theorem cmp64_any (a b : Int) (w : World) :
    Calls Tryz.prog 78 #[.int .i64 a, .int .i64 b] w fun e w' => e = .returned (.int .i64 (numI a b)) ∧ Below w.heap.size w w' := by
  go_enter Tryz.func78, Tryz.ntmps78
  go_wp2
  all_goals
    go_ret
    first
      | exact ⟨ret_int (numI_lt (by omega)).symm, Below.refl _ _⟩
      | exact ⟨ret_int (numI_gt (by omega)).symm, Below.refl _ _⟩
      | exact ⟨ret_int (numI_eq (by omega) (by omega)).symm, Below.refl _ _⟩
theorem capped_bl (n : Int) (w : World) : Calls Tryz.prog 79 #[.int .i64 n] w fun e w' => e = .returned (.int .i64 (capI n)) ∧ Below w.heap.size w w' :=
  (capped_any n w).mono fun e w' ⟨he, hw⟩ => ⟨he, by rw [hw]; exact Below.refl _ _⟩
theorem numI_bd (a b : Int) : -1 ≤ numI a b ∧ numI a b ≤ 1 := by unfold numI; split <;> (try split) <;> omega
end Go.Proofs.YthgglobfkkcdgaaGreatDoor
namespace Go.Proofs.YthgglobfkkcdgaaGreatDoor
open Go.RowKit Go.Shelf Go.Maps
set_option maxRecDepth 100000
def BalPost (o : Odr) (P Q : Option Addr) (pc qc bx bm B0 : Nat) (b : Bal) (q : Int) (w : World) (e : Ending) (w' : World) : Prop :=
  e = .returned (.int .i64 q) ∧ BalW o P Q pc qc bx bm B0 b w' ∧ KeepsC (fun g => g = bx ∨ g = bm) w w'
set_option maxHeartbeats 4000000 in
theorem compare_of {o : Odr} {P Q : Option Addr} {pc qc bx bm B0 : Nat} {b : Bal} {w : World} (h : BalW o P Q pc qc bx bm B0 b w) (s t : Tm) (A A2 : Option Addr) (c c2 : Nat) (r : Bal × Int) (hOK : BalOK b) (hrOK : BalOK r.1)
    (hr : ∀ w1, Below w.heap.size w w1 → BalW o P Q pc qc bx bm B0 b w1 → Calls Tryz.prog 77 #[.pointer (some ⟨bx, 0, none⟩), .agg #[.int .i64 s.fn, .slice A s.args.length c], .agg #[.int .i64 t.fn, .slice A2 t.args.length c2]] w1 (BalPost o P Q pc qc bx bm B0 r.1 r.2 w1)) :
    Calls Tryz.prog 44 #[.pointer (some ⟨bx, 0, none⟩), .agg #[.int .i64 s.fn, .slice A s.args.length c], .agg #[.int .i64 t.fn, .slice A2 t.args.length c2]] w (BalPost o P Q pc qc bx bm B0 r.1 (finB b r) w) := by
  obtain ⟨q0, q1⟩ := heap2 w (.cells #[.int .i64 s.fn, .slice A s.args.length c] 32) (.cells #[.int .i64 t.fn, .slice A2 t.args.length c2] 32)
  obtain ⟨W, hW⟩ : ∃ W, ((w.alloc (.cells #[.int .i64 s.fn, .slice A s.args.length c] 32)).alloc (.cells #[.int .i64 t.fn, .slice A2 t.args.length c2] 32)) = W := ⟨_, rfl⟩
  have hB : Below w.heap.size w W := by rw [← hW]; exact ((Below.refl _ _).alloc (Nat.le_refl _) _).alloc (by simp) _
  rw [hW] at q0 q1
  have hWs : w.heap.size + 1 < W.heap.size := (Array.getElem?_eq_some_iff.1 q1).1
  obtain ⟨hlx, hlm⟩ := h.lt
  obtain ⟨_, _, _, _, _, _, _, n7, n8⟩ := cells_9 (h.on hB).m.box
  have q2 := heap_alloc_new W (.cells #[.int .i64 b.w0, .int .i64 b.w1] 98)
  obtain ⟨W3, hW3⟩ : ∃ W3, W.alloc (.cells #[.int .i64 b.w0, .int .i64 b.w1] 98) = W3 := ⟨_, rfl⟩
  have hB3 : Below W.heap.size W W3 := by rw [← hW3]; exact (Below.refl _ _).alloc (Nat.le_refl _) _
  rw [hW3] at q2
  have hW3s : W.heap.size < W3.heap.size := (Array.getElem?_eq_some_iff.1 q2).1
  have hBw3 : Below w.heap.size w W3 := hB.trans (hB3.mono hB.size)
  have H1 := Lib.hid (hr W3 hBw3 (h.on hBw3))
  obtain ⟨x0, x1, _, _⟩ := cells_two ((hB3.block _ (by omega)).trans q0)
  obtain ⟨y0, y1, _, _⟩ := cells_two ((hB3.block _ hWs).trans q1)
  have HW := Lib.hid hW
  have HW3 := Lib.hid hW3
  have Hq2 := Lib.hid q2
  clear hW hW3 h hr q0 q1 q2
  have hfb : Hid (finB b r = finR r.1.a0 r.1.a1 (finQ b r)) := Lib.hid rfl
  have hfq : Hid (finQ b r = if numI (capI (r.1.w0 - b.w0)) (capI (r.1.w1 - b.w1)) = 0 then r.2 else relC (numI (capI (r.1.w0 - b.w0)) (capI (r.1.w1 - b.w1)))) := Lib.hid rfl
  obtain ⟨u0, hu0⟩ : ∃ u, r.1.w0 = u := ⟨_, rfl⟩
  obtain ⟨u1, hu1⟩ : ∃ u, r.1.w1 = u := ⟨_, rfl⟩
  obtain ⟨v0, hv0⟩ : ∃ u, r.1.a0 = u := ⟨_, rfl⟩
  obtain ⟨v1, hv1⟩ : ∃ u, r.1.a1 = u := ⟨_, rfl⟩
  obtain ⟨p, hp⟩ : ∃ p, r.2 = p := ⟨_, rfl⟩
  have k0 := hrOK.w0
  have k1 := hrOK.w1
  have k2 := hOK.w0
  have k3 := hOK.w1
  have k4 := hrOK.n
  have k5 := hOK.n
  rw [hu0, hu1, hp] at hfq
  rw [hv0, hv1] at hfb
  rw [hu0] at k0
  rw [hu1] at k1
  rw [hp] at H1
  have hs0 : IntKind.i64.wrap (u0 - b.w0) = u0 - b.w0 := by rw [IntKind.wrap_i64]; omega
  have hs1 : IntKind.i64.wrap (u1 - b.w1) = u1 - b.w1 := by rw [IntKind.wrap_i64]; omega
  have Hu0 := Lib.hid hu0
  have Hu1 := Lib.hid hu1
  have Hv0 := Lib.hid hv0
  have Hv1 := Lib.hid hv1
  clear hu0 hu1 hv0 hv1 hp hrOK hOK k4 k5 k0 k1 k2 k3
  have hbd := numI_bd (capI (u0 - b.w0)) (capI (u1 - b.w1))
  obtain ⟨cc, hcc⟩ : ∃ cc, numI (capI (u0 - b.w0)) (capI (u1 - b.w1)) = cc := ⟨_, rfl⟩
  rw [hcc] at hfq hbd
  have Hcc := Lib.hid hcc
  clear hcc
  have hrel : ∀ w1 : World, _ := fun w1 => relation_any cc (by omega) (by omega) w1
  have Hrel := Lib.hid hrel
  clear hrel
  by_cases hc0 : cc = 0
  · have Hq0 := Lib.hid (show finQ b r = p by rw [hfq.out, if_pos hc0])
    have hne : (cc != 0) = false := by simp [hc0]
    clear hc0
    go_enter Tryz.func44, Tryz.ntmps44
    go_upto_region 1 with fail
    rw [HW.out]
    go_upto_region 2 with fail
    rw [HW3.out]
    clear n7 n8
    go_upto_region 3 with (first
      | (go_at_call 77; (with_reducible refine H1.out.mono ?_); go_must (rintro e w1 ⟨rfl, hI1, hk1⟩; have HI1 := Lib.hid hI1; clear hI1))
      | fail)
    have hz1 := hk1.size
    have hbx1 := HI1.out.m.box
    rw [Hu0.out, Hu1.out, Hv0.out, Hv1.out] at hbx1
    have hb2 := (hk1.block hW3s (by rintro (e | e) <;> omega)).trans Hq2.out
    have m0 : ∀ y : Later w1.heap.size w1, y.w.cell? ⟨bx, 7, none⟩ = some (.int .i64 u0) := fun y => (cells_9 ((y.h.block bx (by omega)).trans hbx1)).2.2.2.2.2.2.2.1
    have m1 : ∀ y : Later w1.heap.size w1, y.w.cell? ⟨bx, 8, none⟩ = some (.int .i64 u1) := fun y => (cells_9 ((y.h.block bx (by omega)).trans hbx1)).2.2.2.2.2.2.2.2
    have m2 : ∀ y : Later w1.heap.size w1, y.w.cell? ⟨W.heap.size, 0, none⟩ = some (.int .i64 b.w0) := fun y => (cells_two ((y.h.block _ (by omega)).trans hb2)).1
    have m3 : ∀ y : Later w1.heap.size w1, y.w.cell? ⟨W.heap.size, 1, none⟩ = some (.int .i64 b.w1) := fun y => (cells_two ((y.h.block _ (by omega)).trans hb2)).2.1
    have hcap : Hid (∀ (n : Int) (y : Later w1.heap.size w1), Calls Tryz.prog 79 #[.int .i64 n] y.w fun e w' => e = .returned (.int .i64 (capI n)) ∧ Below y.w.heap.size y.w w') := Lib.hid fun n y => capped_bl n y.w
    have hcmp : Hid (∀ (y : Later w1.heap.size w1), Calls Tryz.prog 78 #[.int .i64 (capI (u0 - b.w0)), .int .i64 (capI (u1 - b.w1))] y.w fun e w' => e = .returned (.int .i64 cc) ∧ Below y.w.heap.size y.w w') := Lib.hid fun y => by have := cmp64_any (capI (u0 - b.w0)) (capI (u1 - b.w1)) y.w; rwa [Hcc.out] at this
    have HK := Lib.hid ((KeepsC.of_below hBw3).trans hk1)
    have Hbx := Lib.hid hbx1
    clear hbx1 hb2 hk1 x0 x1 y0 y1
    refine wp_region_later w1.heap.size w1 (by kernel_rfl) (by kernel_rfl) (bl_drewN (Below.refl _ _) 1) ?_
    repeat (go_big_quiet_step (first | (go_at_call 79; with_reducible refine calls_later _ (Nat.le_refl _) (hcap.out _ _)) | (go_at_call 78; with_reducible refine calls_later _ (Nat.le_refl _) (hcmp.out _)) | fail))
    refine wpQuiet_nil ?_
    rintro _ ⟨z, rfl⟩
    have hbz := (z.h.block bx (by omega)).trans Hbx.out
    obtain ⟨_, _, _, _, _, l5, l6, _, _⟩ := cells_9 hbz
    have HIz := Lib.hid (HI1.out.on z.h)
    have HKz := Lib.hid (HK.out.trans (KeepsC.of_below z.h))
    clear m0 m1 m2 m3 hbz
    go_upto_region 6 with fail
    obtain ⟨q, hq⟩ : ∃ q, p = q := ⟨_, rfl⟩
    have Hq : Hid (finQ b r = q) := Lib.hid (by rw [Hq0.out, hq])
    rw [hq]
    clear hne hq
    rcases Classical.em (q = 3) with g1 | g1
    · subst g1
      by_cases g2 : 0 < v1
      · have g2' : decide (v1 > 0) = true := decide_eq_true g2
        have hfin := Lib.hid (show finB b r = 0 by rw [hfb.out, Hq.out]; unfold finR; rw [if_pos ⟨rfl, g2⟩])
        clear g2
        go_wp2
        go_ret
        exact ⟨by rw [hfin.out]; rfl, HIz.out, HKz.out⟩
      · have g2' : decide (v1 > 0) = false := decide_eq_false g2
        have hfin := Lib.hid (show finB b r = 3 by rw [hfb.out, Hq.out]; unfold finR; rw [if_neg (fun e => g2 e.2), if_neg (fun e => by have := e.1; omega)])
        clear g2
        go_wp2
        go_ret
        exact ⟨by rw [hfin.out]; rfl, HIz.out, HKz.out⟩
    · have g1' : (q == 3) = false := by simp [g1]
      rcases Classical.em (q = 1) with g3 | g3
      · subst g3
        by_cases g2 : 0 < v0
        · have g2' : decide (v0 > 0) = true := decide_eq_true g2
          have hfin := Lib.hid (show finB b r = 0 by rw [hfb.out, Hq.out]; unfold finR; rw [if_neg (fun e => g1 e.1), if_pos ⟨rfl, g2⟩])
          clear g2
          go_wp2
          go_ret
          exact ⟨by rw [hfin.out]; rfl, HIz.out, HKz.out⟩
        · have g2' : decide (v0 > 0) = false := decide_eq_false g2
          have hfin := Lib.hid (show finB b r = 1 by rw [hfb.out, Hq.out]; unfold finR; rw [if_neg (fun e => g1 e.1), if_neg (fun e => g2 e.2)])
          clear g2
          go_wp2
          go_ret
          exact ⟨by rw [hfin.out]; rfl, HIz.out, HKz.out⟩
      · have g3' : (q == 1) = false := by simp [g3]
        have hfin := Lib.hid (show finB b r = q by rw [hfb.out, Hq.out]; unfold finR; rw [if_neg (fun e => g1 e.1), if_neg (fun e => g3 e.1)])
        clear g1 g3
        go_wp2
        go_ret
        exact ⟨by rw [hfin.out]; rfl, HIz.out, HKz.out⟩
  · have Hq0 := Lib.hid (show finQ b r = relC cc by rw [hfq.out, if_neg hc0])
    have hne : (cc != 0) = true := by simp [hc0]
    clear hc0
    go_enter Tryz.func44, Tryz.ntmps44
    go_upto_region 1 with fail
    rw [HW.out]
    go_upto_region 2 with fail
    rw [HW3.out]
    clear n7 n8
    go_upto_region 3 with (first
      | (go_at_call 77; (with_reducible refine H1.out.mono ?_); go_must (rintro e w1 ⟨rfl, hI1, hk1⟩; have HI1 := Lib.hid hI1; clear hI1))
      | fail)
    have hz1 := hk1.size
    have hbx1 := HI1.out.m.box
    rw [Hu0.out, Hu1.out, Hv0.out, Hv1.out] at hbx1
    have hb2 := (hk1.block hW3s (by rintro (e | e) <;> omega)).trans Hq2.out
    have m0 : ∀ y : Later w1.heap.size w1, y.w.cell? ⟨bx, 7, none⟩ = some (.int .i64 u0) := fun y => (cells_9 ((y.h.block bx (by omega)).trans hbx1)).2.2.2.2.2.2.2.1
    have m1 : ∀ y : Later w1.heap.size w1, y.w.cell? ⟨bx, 8, none⟩ = some (.int .i64 u1) := fun y => (cells_9 ((y.h.block bx (by omega)).trans hbx1)).2.2.2.2.2.2.2.2
    have m2 : ∀ y : Later w1.heap.size w1, y.w.cell? ⟨W.heap.size, 0, none⟩ = some (.int .i64 b.w0) := fun y => (cells_two ((y.h.block _ (by omega)).trans hb2)).1
    have m3 : ∀ y : Later w1.heap.size w1, y.w.cell? ⟨W.heap.size, 1, none⟩ = some (.int .i64 b.w1) := fun y => (cells_two ((y.h.block _ (by omega)).trans hb2)).2.1
    have hcap : Hid (∀ (n : Int) (y : Later w1.heap.size w1), Calls Tryz.prog 79 #[.int .i64 n] y.w fun e w' => e = .returned (.int .i64 (capI n)) ∧ Below y.w.heap.size y.w w') := Lib.hid fun n y => capped_bl n y.w
    have hcmp : Hid (∀ (y : Later w1.heap.size w1), Calls Tryz.prog 78 #[.int .i64 (capI (u0 - b.w0)), .int .i64 (capI (u1 - b.w1))] y.w fun e w' => e = .returned (.int .i64 cc) ∧ Below y.w.heap.size y.w w') := Lib.hid fun y => by have := cmp64_any (capI (u0 - b.w0)) (capI (u1 - b.w1)) y.w; rwa [Hcc.out] at this
    have HK := Lib.hid ((KeepsC.of_below hBw3).trans hk1)
    have Hbx := Lib.hid hbx1
    clear hbx1 hb2 hk1 x0 x1 y0 y1
    refine wp_region_later w1.heap.size w1 (by kernel_rfl) (by kernel_rfl) (bl_drewN (Below.refl _ _) 1) ?_
    repeat (go_big_quiet_step (first | (go_at_call 79; with_reducible refine calls_later _ (Nat.le_refl _) (hcap.out _ _)) | (go_at_call 78; with_reducible refine calls_later _ (Nat.le_refl _) (hcmp.out _)) | fail))
    refine wpQuiet_nil ?_
    rintro _ ⟨z, rfl⟩
    have hbz := (z.h.block bx (by omega)).trans Hbx.out
    obtain ⟨_, _, _, _, _, l5, l6, _, _⟩ := cells_9 hbz
    have HIz := Lib.hid (HI1.out.on z.h)
    have HKz := Lib.hid (HK.out.trans (KeepsC.of_below z.h))
    clear m0 m1 m2 m3 hbz
    go_upto_region 6 with (first
      | (go_at_call 80; (with_reducible refine (Hrel.out _).mono ?_); go_must (rintro e w2 ⟨rfl, rfl⟩))
      | fail)
    obtain ⟨q, hq⟩ : ∃ q, relC cc = q := ⟨_, rfl⟩
    have Hq : Hid (finQ b r = q) := Lib.hid (by rw [Hq0.out, hq])
    rw [hq]
    clear hne hq
    rcases Classical.em (q = 3) with g1 | g1
    · subst g1
      by_cases g2 : 0 < v1
      · have g2' : decide (v1 > 0) = true := decide_eq_true g2
        have hfin := Lib.hid (show finB b r = 0 by rw [hfb.out, Hq.out]; unfold finR; rw [if_pos ⟨rfl, g2⟩])
        clear g2
        go_wp2
        go_ret
        exact ⟨by rw [hfin.out]; rfl, HIz.out, HKz.out⟩
      · have g2' : decide (v1 > 0) = false := decide_eq_false g2
        have hfin := Lib.hid (show finB b r = 3 by rw [hfb.out, Hq.out]; unfold finR; rw [if_neg (fun e => g2 e.2), if_neg (fun e => by have := e.1; omega)])
        clear g2
        go_wp2
        go_ret
        exact ⟨by rw [hfin.out]; rfl, HIz.out, HKz.out⟩
    · have g1' : (q == 3) = false := by simp [g1]
      rcases Classical.em (q = 1) with g3 | g3
      · subst g3
        by_cases g2 : 0 < v0
        · have g2' : decide (v0 > 0) = true := decide_eq_true g2
          have hfin := Lib.hid (show finB b r = 0 by rw [hfb.out, Hq.out]; unfold finR; rw [if_neg (fun e => g1 e.1), if_pos ⟨rfl, g2⟩])
          clear g2
          go_wp2
          go_ret
          exact ⟨by rw [hfin.out]; rfl, HIz.out, HKz.out⟩
        · have g2' : decide (v0 > 0) = false := decide_eq_false g2
          have hfin := Lib.hid (show finB b r = 1 by rw [hfb.out, Hq.out]; unfold finR; rw [if_neg (fun e => g1 e.1), if_neg (fun e => g2 e.2)])
          clear g2
          go_wp2
          go_ret
          exact ⟨by rw [hfin.out]; rfl, HIz.out, HKz.out⟩
      · have g3' : (q == 1) = false := by simp [g3]
        have hfin := Lib.hid (show finB b r = q by rw [hfb.out, Hq.out]; unfold finR; rw [if_neg (fun e => g1 e.1), if_neg (fun e => g3 e.1)])
        clear g1 g3
        go_wp2
        go_ret
        exact ⟨by rw [hfin.out]; rfl, HIz.out, HKz.out⟩
end Go.Proofs.YthgglobfkkcdgaaGreatDoor
namespace Go.Proofs.YthgglobfkkcdgaaGreatDoor
open Go.RowKit Go.Shelf Go.Maps
set_option maxRecDepth 100000
theorem BalW.lB {o : Odr} {P Q : Option Addr} {pc qc bx bm B0 : Nat} {b : Bal} {w : World} (h : BalW o P Q pc qc bx bm B0 b w) : B0 ≤ w.heap.size := by have := h.lt; have := h.lx; omega
theorem BalW.low {o : Odr} {P Q : Option Addr} {pc qc bx bm B0 : Nat} {b : Bal} {w w' : World} (h : BalW o P Q pc qc bx bm B0 b w) (hk : KeepsC (fun g => g = bx ∨ g = bm) w w') : ∀ g, g < B0 → w'.heap[g]? = w.heap[g]? := fun g hg => hk.block (by have := h.lB; omega) (by have := h.lx; have := h.lm; rintro (e | e) <;> omega)
theorem lay_at {o : Odr} {P Q : Option Addr} {pc qc bx bm B0 : Nat} {b : Bal} {w : World} (h : BalW o P Q pc qc bx bm B0 b w) (t : Tm) (A : Option Addr) (c : Nat) (at_ : Int) (hat : at_ = 0 ∨ at_ = 1) (hOK : BalOK b) (hk : knowT o t = true) (hn : b.n + t.size ≤ 1073741824) (hf : I64 t.fn) (hA : ArgsK w (· < B0) A c t.args) :
    Calls Tryz.prog 107 #[.pointer (some ⟨bx, 0, none⟩), .agg #[.int .i64 t.fn, .slice A t.args.length c], .int .i64 at_] w fun e w' => e = .returned (.tuple #[]) ∧ BalW o P Q pc qc bx bm B0 (layB o at_ b t) w' ∧ KeepsC (fun g => g = bx ∨ g = bm) w w' :=
  lay_any h t A c at_ hat hOK hk hn hf hA.toN
set_option maxHeartbeats 4000000 in
theorem reason_of {o : Odr} {P Q : Option Addr} {pc qc bx bm B0 : Nat} {b : Bal} {w : World} (h : BalW o P Q pc qc bx bm B0 b w) (s t : Tm) (A A2 : Option Addr) (c c2 : Nat) (hOK : BalOK b) (hks : knowT o s = true) (hkt : knowT o t = true) (hn : b.n + s.size + t.size ≤ 1073741824) (hf : I64 s.fn) (hg : I64 t.fn) (hA : ArgsK w (· < B0) A c s.args) (hA2 : ArgsK w (· < B0) A2 c2 t.args)
    (harg : ∀ (b' : Bal) (w' : World), BalOK b' → b'.n = b.n + 2 → BalW o P Q pc qc bx bm B0 b' w' → ArgsK w' (· < B0) A c s.args → ArgsK w' (· < B0) A2 c2 t.args → Calls Tryz.prog 110 #[.pointer (some ⟨bx, 0, none⟩), .slice A s.args.length c, .slice A2 t.args.length c2] w' (BalPost o P Q pc qc bx bm B0 (argB o s.args b' t.args).1 (argB o s.args b' t.args).2 w')) :
    Calls Tryz.prog 77 #[.pointer (some ⟨bx, 0, none⟩), .agg #[.int .i64 s.fn, .slice A s.args.length c], .agg #[.int .i64 t.fn, .slice A2 t.args.length c2]] w (BalPost o P Q pc qc bx bm B0 (rsnB o s b t).1 (rsnB o s b t).2 w) := by
  obtain ⟨q0, q1⟩ := heap2 w (.cells #[.int .i64 s.fn, .slice A s.args.length c] 32) (.cells #[.int .i64 t.fn, .slice A2 t.args.length c2] 32)
  obtain ⟨W, hW⟩ : ∃ W, ((w.alloc (.cells #[.int .i64 s.fn, .slice A s.args.length c] 32)).alloc (.cells #[.int .i64 t.fn, .slice A2 t.args.length c2] 32)) = W := ⟨_, rfl⟩
  have hB : Below w.heap.size w W := by rw [← hW]; exact ((Below.refl _ _).alloc (Nat.le_refl _) _).alloc (by simp) _
  rw [hW] at q0 q1
  have hWs : w.heap.size + 1 < W.heap.size := (Array.getElem?_eq_some_iff.1 q1).1
  obtain ⟨hlx, hlm⟩ := h.lt
  have hlb := h.lB
  obtain ⟨x0, x1, _, _⟩ := cells_two q0
  obtain ⟨y0, y1, _, _⟩ := cells_two q1
  have hS : ∀ w1, KeepsC (fun g => g = bx ∨ g = bm) W w1 → w1.cell? ⟨w.heap.size, 0, none⟩ = some (.int .i64 s.fn) ∧ w1.cell? ⟨w.heap.size, 1, none⟩ = some (.slice A s.args.length c) ∧ w1.cell? ⟨w.heap.size + 1, 0, none⟩ = some (.int .i64 t.fn) ∧ w1.cell? ⟨w.heap.size + 1, 1, none⟩ = some (.slice A2 t.args.length c2) ∧ W.heap.size ≤ w1.heap.size := fun w1 hk => by
    obtain ⟨a0, a1, _, _⟩ := cells_two ((hk.block (by omega) (by rintro (e | e) <;> omega)).trans q0)
    obtain ⟨b0, b1, _, _⟩ := cells_two ((hk.block hWs (by rintro (e | e) <;> omega)).trans q1)
    exact ⟨a0, a1, b0, b1, hk.size⟩
  have hK : ∀ w1, KeepsC (fun g => g = bx ∨ g = bm) W w1 → ArgsK w1 (· < B0) A c s.args ∧ ArgsK w1 (· < B0) A2 c2 t.args := fun w1 hk => by
    have hl : ∀ g, g < B0 → w1.heap[g]? = w.heap[g]? := fun g hg => ((h.on hB).low hk g hg).trans (hB.block g (by omega))
    exact ⟨hA.keep hl, hA2.keep hl⟩
  have hWb := h.on hB
  have HWb := Lib.hid hWb
  have HW := Lib.hid hW
  have HS := Lib.hid hS
  have HK := Lib.hid hK
  have hkW : KeepsC (fun g => g = bx ∨ g = bm) w W := KeepsC.of_below hB
  by_cases hfg : s.fn = t.fn
  · have hne : (s.fn != t.fn) = false := by simp [hfg]
    have hrs : rsnB o s b t = argB o s.args (cntB o 1 (cntB o 0 b s.fn) t.fn) t.args := by
      obtain ⟨f, xs⟩ := s
      have hfg' : f = t.fn := hfg
      rw [rsnB, if_pos hfg']; rfl
    have Hrs := Lib.hid hrs
    have hsz := size_node s
    have htz := size_node t
    have hOK1 : BalOK (cntB o 0 b s.fn) := hOK.next (by omega) _
    have hn1 : (cntB o 0 b s.fn).n = b.n + 1 := rfl
    have hOK2 : BalOK (cntB o 1 (cntB o 0 b s.fn) t.fn) := hOK1.next (by omega) _
    have hn2 : (cntB o 1 (cntB o 0 b s.fn) t.fn).n = b.n + 2 := rfl
    have hts := (know_top (know_node hks).1).1
    have htt := (know_top (know_node hkt).1).1
    have H1 := Lib.hid (count_at hWb s A c 0 (.inl rfl) hts hOK hf)
    have H2 : ∀ w1, BalW o P Q pc qc bx bm B0 (cntB o 0 b s.fn) w1 → _ := fun w1 hb => count_at hb t A2 c2 1 (.inr rfl) htt hOK1 hg
    have H2 := Lib.hid H2
    have H3 : ∀ w1, KeepsC (fun g => g = bx ∨ g = bm) W w1 → BalW o P Q pc qc bx bm B0 (cntB o 1 (cntB o 0 b s.fn) t.fn) w1 → _ := fun w1 hk hb => harg _ w1 hOK2 hn2 hb (hK w1 hk).1 (hK w1 hk).2
    have H3 := Lib.hid H3
    clear hW hS hK h hA hA2 harg q0 q1 hWb hrs hfg hsz htz hOK hOK1 hOK2 hn1 hn2 hts htt
    go_enter Tryz.func77, Tryz.ntmps77
    go_upto_region 1 with fail
    rw [HW.out]
    go_wp2_with (first
      | (go_at_call 109; (with_reducible refine H1.out.mono ?_); go_must (rintro e w1 ⟨rfl, hI1, hk1⟩; obtain ⟨a0, a1, a2, a3, a4⟩ := HS.out w1 hk1; have HI1 := Lib.hid hI1; have H4 := Lib.hid (H2.out w1 hI1); clear hI1))
      | (go_at_call 109; (with_reducible refine H4.out.mono ?_); go_must (rintro e w2 ⟨rfl, hI2, hk2⟩; have hk2' := hk1.trans hk2; obtain ⟨b0, b1, b2, b3, b4⟩ := HS.out w2 hk2'; have H5 := Lib.hid (H3.out w2 hk2' hI2); clear hI2))
      | (go_at_call 110; (with_reducible refine H5.out.mono ?_); go_must (rintro e w3 ⟨rfl, hI3, hk3⟩; have HI3 := Lib.hid hI3; clear hI3))
      | fail)
    go_ret
    exact ⟨by rw [Hrs.out]; rfl, by rw [Hrs.out]; exact HI3.out, hkW.trans (hk2'.trans hk3)⟩
  · have hne : (s.fn != t.fn) = true := by simp [hfg]
    have hrs : rsnB o s b t = (layB o 1 (layB o 0 b s) t, topsR o s t) := by
      obtain ⟨f, xs⟩ := s
      have hfg' : ¬ f = t.fn := hfg
      rw [rsnB, if_neg hfg']
    have Hrs := Lib.hid hrs
    have hl1 := lay_ok o 0 s b hOK hks (by omega)
    have hl2 := lay_ok o 1 t (layB o 0 b s) hl1.ok hkt (by have := hl1.n; omega)
    have hts := (know_top (know_node hks).1).2.1
    have htt := (know_top (know_node hkt).1).2.1
    have H1 := Lib.hid (lay_at hWb s A c 0 (.inl rfl) hOK hks (by omega) hf (hK W (KeepsC.refl _ _)).1)
    have H2 : ∀ w1, KeepsC (fun g => g = bx ∨ g = bm) W w1 → BalW o P Q pc qc bx bm B0 (layB o 0 b s) w1 → _ := fun w1 hk hb => lay_at hb t A2 c2 1 (.inr rfl) hl1.ok hkt (by have := hl1.n; omega) hg (hK w1 hk).2
    have H2 := Lib.hid H2
    have H3 : ∀ w1, KeepsC (fun g => g = bx ∨ g = bm) W w1 → BalW o P Q pc qc bx bm B0 (layB o 1 (layB o 0 b s) t) w1 → ∀ y : Later w1.heap.size w1, Calls Tryz.prog 108 #[.agg #[.bool o.lpo, .slice P o.prec.length pc, .slice Q o.wts.length qc, .int .i64 o.var], .agg #[.int .i64 s.fn, .slice A s.args.length c], .agg #[.int .i64 t.fn, .slice A2 t.args.length c2]] y.w fun e w' => e = .returned (.int .i64 (topsR o s t)) ∧ Below y.w.heap.size y.w w' := fun w1 hk hb y => by
      have hby := hb.on y.h
      have hky := hk.trans (KeepsC.of_below y.h)
      exact tops_any o s t P Q A A2 pc qc c c2 y.w ⟨hby.o.p.more hby.lB, hby.o.q.more hby.lB, hby.o.v⟩ hts htt ((hK y.w hky).1.toN.args fun g e => Nat.lt_of_lt_of_le e hby.lB) ((hK y.w hky).2.toN.args fun g e => Nat.lt_of_lt_of_le e hby.lB)
    have H3 := Lib.hid H3
    clear hW hS hK h hA hA2 harg q0 q1 hWb hrs hfg hOK hl1 hl2 hts htt
    go_enter Tryz.func77, Tryz.ntmps77
    go_upto_region 1 with fail
    rw [HW.out]
    go_upto_region 4 with (first
      | (go_at_call 107; (with_reducible refine H1.out.mono ?_); go_must (rintro e w1 ⟨rfl, hI1, hk1⟩; obtain ⟨a0, a1, a2, a3, a4⟩ := HS.out w1 hk1; have H4 := Lib.hid (H2.out w1 hk1 hI1); clear hI1))
      | (go_at_call 107; (with_reducible refine H4.out.mono ?_); go_must (rintro e w2 ⟨rfl, hI2, hk2⟩; have hk2' := hk1.trans hk2; have H5 := Lib.hid (H3.out w2 hk2' hI2); have HI2 := Lib.hid hI2; clear hI2))
      | fail)
    have hS2 : ∀ y : Later w2.heap.size w2, KeepsC (fun g => g = bx ∨ g = bm) W y.w := fun y => hk2'.trans (KeepsC.of_below y.h)
    have m0 : ∀ y : Later w2.heap.size w2, y.w.cell? ⟨w.heap.size, 0, none⟩ = some (.int .i64 s.fn) := fun y => (HS.out y.w (hS2 y)).1
    have m1 : ∀ y : Later w2.heap.size w2, y.w.cell? ⟨w.heap.size, 1, none⟩ = some (.slice A s.args.length c) := fun y => (HS.out y.w (hS2 y)).2.1
    have m2 : ∀ y : Later w2.heap.size w2, y.w.cell? ⟨w.heap.size + 1, 0, none⟩ = some (.int .i64 t.fn) := fun y => (HS.out y.w (hS2 y)).2.2.1
    have m3 : ∀ y : Later w2.heap.size w2, y.w.cell? ⟨w.heap.size + 1, 1, none⟩ = some (.slice A2 t.args.length c2) := fun y => (HS.out y.w (hS2 y)).2.2.2.1
    have m4 : ∀ y : Later w2.heap.size w2, y.w.cell? ⟨bx, 0, none⟩ = some (.bool o.lpo) := fun y => (cells_9 (HI2.out.on y.h).m.box).1
    have m5 : ∀ y : Later w2.heap.size w2, y.w.cell? ⟨bx, 1, none⟩ = some (.slice P o.prec.length pc) := fun y => (cells_9 (HI2.out.on y.h).m.box).2.1
    have m6 : ∀ y : Later w2.heap.size w2, y.w.cell? ⟨bx, 2, none⟩ = some (.slice Q o.wts.length qc) := fun y => (cells_9 (HI2.out.on y.h).m.box).2.2.1
    have m7 : ∀ y : Later w2.heap.size w2, y.w.cell? ⟨bx, 3, none⟩ = some (.int .i64 o.var) := fun y => (cells_9 (HI2.out.on y.h).m.box).2.2.2.1
    clear a0 a1 a2 a3 x0 x1 y0 y1 hS2
    refine wp_region_later w2.heap.size w2 (by kernel_rfl) (by kernel_rfl) (bl_drewN (Below.refl _ _) 1) ?_
    repeat (go_big_quiet_step (first | (go_at_call 108; with_reducible refine calls_later _ (Nat.le_refl _) (H5.out _)) | fail))
    refine wpQuiet_nil ?_
    rintro _ ⟨z, rfl⟩
    go_wp2
    go_ret
    exact ⟨by rw [Hrs.out]; rfl, by rw [Hrs.out]; exact HI2.out.on z.h, hkW.trans (hk2'.trans (KeepsC.of_below z.h))⟩
end Go.Proofs.YthgglobfkkcdgaaGreatDoor
namespace Go.Proofs.YthgglobfkkcdgaaGreatDoor
open Go.RowKit Go.Shelf Go.Maps
set_option maxRecDepth 100000
structure ArgI (o : Odr) (xs ys : List Tm) (b : Bal) (xs' ys' : List Tm) (b' : Bal) (q : Int) : Prop where
  mem : ∀ x ∈ xs', x ∈ xs
  kx : knowL o xs' = true
  ky : knowL o ys' = true
  ok : BalOK b'
  n : b'.n + sizes xs' + sizes ys' ≤ 1073741824
  yes : q = 2 → argB o xs b ys = argB o xs' b' ys'
  no : ¬ q = 2 → argB o xs b ys = (layL o 1 (layL o 0 b' xs') ys', q)
structure LayI (o : Odr) (at_ : Int) (b0 : Bal) (xs : List Tm) (m k : Nat) (b : Bal) : Prop where
  eq : layL o at_ b0 xs = layL o at_ b (xs.drop k)
  ok : BalOK b
  n : b.n + sizes (xs.drop k) + m ≤ 1073741824
  kn : knowL o (xs.drop k) = true
theorem LayI.step {o : Odr} {at_ : Int} {b0 b : Bal} {xs : List Tm} {m k : Nat} {u : Tm} (h : LayI o at_ b0 xs m k b) (hu : xs[k]? = some u) : knowT o u = true ∧ b.n + u.size ≤ 1073741824 ∧ LayI o at_ b0 xs m (k + 1) (layB o at_ b u) := by
  obtain ⟨h1, h2⟩ := List.getElem?_eq_some_iff.1 hu
  have hd : xs.drop k = u :: xs.drop (k + 1) := by rw [List.drop_eq_getElem_cons h1, h2]
  have hk := h.kn
  have hn := h.n
  have he := h.eq
  rw [hd] at hk hn he
  rw [knowL, Bool.and_eq_true] at hk
  simp only [sizes] at hn
  have hl := lay_ok o at_ u b h.ok hk.1 (by omega)
  exact ⟨hk.1, by omega, ⟨by rw [he, layL], hl.ok, by rw [hl.n]; omega, hk.2⟩⟩
theorem LayI.done {o : Odr} {at_ : Int} {b0 b : Bal} {xs : List Tm} {m : Nat} (h : LayI o at_ b0 xs m xs.length b) : layL o at_ b0 xs = b := by
  have := h.eq
  rwa [List.drop_length, layL] at this
def KArgsAt (o : Odr) (P Q : Option Addr) (pc qc bx bm B0 : Nat) (xs : List Tm) : Prop :=
  ∀ (ys : List Tm) (b : Bal) (A A2 : Option Addr) (c c2 : Nat) (w : World), BalW o P Q pc qc bx bm B0 b w → BalOK b → knowL o xs = true → knowL o ys = true → b.n + sizes xs + sizes ys ≤ 1073741824 → ArgsK w (· < B0) A c xs → ArgsK w (· < B0) A2 c2 ys →
    Calls Tryz.prog 110 #[.pointer (some ⟨bx, 0, none⟩), .slice A xs.length c, .slice A2 ys.length c2] w (BalPost o P Q pc qc bx bm B0 (argB o xs b ys).1 (argB o xs b ys).2 w)
def KCmpAt (o : Odr) (P Q : Option Addr) (pc qc bx bm B0 : Nat) (s : Tm) : Prop :=
  ∀ (t : Tm) (b : Bal) (A A2 : Option Addr) (c c2 : Nat) (w : World), BalW o P Q pc qc bx bm B0 b w → BalOK b → knowT o s = true → knowT o t = true → b.n + s.size + t.size ≤ 1073741824 → I64 s.fn → I64 t.fn → ArgsK w (· < B0) A c s.args → ArgsK w (· < B0) A2 c2 t.args →
    Calls Tryz.prog 44 #[.pointer (some ⟨bx, 0, none⟩), .agg #[.int .i64 s.fn, .slice A s.args.length c], .agg #[.int .i64 t.fn, .slice A2 t.args.length c2]] w (BalPost o P Q pc qc bx bm B0 (rsnB o s b t).1 (finB b (rsnB o s b t)) w)
theorem cmpInt_eq (a b : Int) (w : World) :
    Calls Tryz.prog 57 #[.int .i64 a, .int .i64 b] w fun e w' => e = .returned (.int .i64 (numI a b)) ∧ w' = w := by
  go_enter Tryz.func57, Tryz.ntmps57
  go_wp2
  all_goals
    go_ret
    first
      | exact ⟨ret_int (numI_lt (by omega)).symm, rfl⟩
      | exact ⟨ret_int (numI_gt (by omega)).symm, rfl⟩
      | exact ⟨ret_int (numI_eq (by omega) (by omega)).symm, rfl⟩
set_option maxHeartbeats 8000000 in
theorem arguments_of {o : Odr} {P Q : Option Addr} {pc qc bx bm B0 : Nat} (xs : List Tm) (ih : ∀ x ∈ xs, KCmpAt o P Q pc qc bx bm B0 x) : KArgsAt o P Q pc qc bx bm B0 xs := by
  intro ys b A0 A20 c0 c20 w hW hOK hkx hky hn hA hA2
  have HWw := Lib.hid hW
  have HI0 : Hid (ArgI o xs ys b xs ys b 2) := Lib.hid ⟨fun _ h => h, hkx, hky, hOK, hn, fun _ => rfl, fun h => absurd rfl h⟩
  have hl1 := hA.len
  have hl2 := hA2.len
  have HAa := Lib.hid hA
  have HAb := Lib.hid hA2
  clear hW hOK hkx hky hn hA hA2
  go_enter Tryz.func110, Tryz.ntmps110
  go_wp2
  go_loopg [1, 2, 7] xs.length (fun gk u1 u2 u7 wx => ∃ (xs' ys' : List Tm) (b' : Bal) (q : Int) (A A2 : Option Addr) (c c2 : Nat), u1 = .slice A xs'.length c ∧ u2 = .slice A2 ys'.length c2 ∧ u7 = .int .i64 q ∧ xs'.length ≤ gk ∧ KeepsC (fun g => g = bx ∨ g = bm) w wx ∧ Hid (BalW o P Q pc qc bx bm B0 b' wx) ∧ Hid (ArgI o xs ys b xs' ys' b' q) ∧ Hid (ArgsK w (· < B0) A c xs') ∧ Hid (ArgsK w (· < B0) A2 c2 ys'))
  case atStart => exact ⟨xs, ys, b, 2, A0, A20, c0, c20, rfl, rfl, rfl, Nat.le_refl _, KeepsC.refl _ _, HWw, HI0, HAa, HAb⟩
  case round =>
    obtain ⟨xs', ys', b', q, A, A2, c, c2, rfl, rfl, rfl, hgk, hKr, HWr, HI, HA0, HA20⟩ := hrel
    have hA0 := HA0.out
    have hA20 := HA20.out
    have hlx := hA0.len
    have hly := hA20.len
    by_cases hq : q = 2
    · subst hq
      by_cases hend : xs'.length = 0 ∨ ys'.length = 0
      · have hfin : Hid (argB o xs b ys = (layL o 1 (layL o 0 b' xs') ys', relC (numI (xs'.length : Int) (ys'.length : Int)))) := Lib.hid (by
          rw [HI.out.yes rfl]
          match xs', ys', hend with
          | [], ys', _ => rw [argB, layL]; rfl
          | x :: xs'', [], _ => rw [argB, layL]; rfl
          | x :: xs'', y :: ys'', h => simp at h)
        have hrc : ∀ w1 : World, _ := fun w1 => relation_any (numI (xs'.length : Int) (ys'.length : Int)) (by have := numI_bd (xs'.length : Int) (ys'.length : Int); omega) (by have := numI_bd (xs'.length : Int) (ys'.length : Int); omega) w1
        have Hrc := Lib.hid hrc
        have hcm : ∀ w1 : World, _ := fun w1 => cmpInt_eq (xs'.length : Int) (ys'.length : Int) w1
        have Hcm := Lib.hid hcm
        obtain ⟨qf, hqf⟩ : ∃ qf, relC (numI (xs'.length : Int) (ys'.length : Int)) = qf := ⟨_, rfl⟩
        rw [hqf] at hfin Hrc
        clear hrc hcm hqf
        by_cases hx0 : xs'.length = 0
        · have f1 : ¬ 0 < xs'.length := by omega
          clear hend hx0
          have hK0 := hKr
          have HW0 := HWr
          have HL0 : Hid (LayI o 0 b' xs' (sizes ys') 0 b') := Lib.hid ⟨by rw [List.drop_zero], HI.out.ok, by rw [List.drop_zero]; exact HI.out.n, by rw [List.drop_zero]; exact HI.out.kx⟩
          have HA1 : Hid (∀ wx, KeepsC (fun g => g = bx ∨ g = bm) w wx → ArgsK wx (· < B0) A c xs') := Lib.hid fun wx hk => hA0.keep fun g hg => HWw.out.low hk g hg
          have HA2 : Hid (∀ wx, KeepsC (fun g => g = bx ∨ g = bm) w wx → ArgsK wx (· < B0) A2 c2 ys') := Lib.hid fun wx hk => hA20.keep fun g hg => HWw.out.low hk g hg
          obtain ⟨wo, rfl⟩ : ∃ wo, wo = wr := ⟨_, rfl⟩
          clear hKr HWr hA0 hA20 hgk
          go_wp2_with (first
            | (go_at_call 57; (with_reducible refine (Hcm.out _).mono ?_); go_must (rintro e w1 ⟨rfl, rfl⟩))
            | (go_at_call 80; (with_reducible refine (Hrc.out _).mono ?_); go_must (rintro e w1 ⟨rfl, rfl⟩))
            | fail)
          clear f1
          go_loopw [46] (fun i wx => ∃ (k : Nat) (b2 : Bal), k ≤ xs'.length ∧ i = .int .i64 (k : Int) ∧ KeepsC (fun g => g = bx ∨ g = bm) w wx ∧ Hid (BalW o P Q pc qc bx bm B0 b2 wx) ∧ Hid (LayI o 0 b' xs' (sizes ys') k b2)) (fun i _ => xs'.length - (intOf i).toNat)
          case atStart => exact ⟨0, b', Nat.zero_le _, rfl, hK0, HW0, HL0⟩
          case round =>
            obtain ⟨k, b2, hk, rfl, hKx, HWx, HLx⟩ := hrel
            by_cases hlt : k < xs'.length
            · obtain ⟨u, hu⟩ : ∃ u, xs'[k]? = some u := ⟨_, List.getElem?_eq_getElem hlt⟩
              obtain ⟨hku, hnu, hnx⟩ := HLx.out.step hu
              obtain ⟨bb, off, A5, c5, rfl, hbb, hu64, e0, e1, hsub⟩ := (HA1.out wr hKx).get hu
              have q5 := heap_alloc_new wr (.cells #[.int .i64 u.fn, .slice A5 u.args.length c5] 32)
              obtain ⟨W5, hW5⟩ : ∃ W5, wr.alloc (.cells #[.int .i64 u.fn, .slice A5 u.args.length c5] 32) = W5 := ⟨_, rfl⟩
              have hB5 : Below wr.heap.size wr W5 := by rw [← hW5]; exact (Below.refl _ _).alloc (Nat.le_refl _) _
              rw [hW5] at q5
              obtain ⟨z0, z1, _, _⟩ := cells_two q5
              have hlb5 := HWx.out.lB
              have H5 := Lib.hid (lay_at (HWx.out.on hB5) u A5 c5 0 (.inl rfl) HLx.out.ok hku hnu hu64 (hsub.keep fun g hg => hB5.block g (Nat.lt_of_lt_of_le hg hlb5)))
              have HW5 := Lib.hid hW5
              have hnx := Lib.hid hnx
              have hK5 := hKx.trans (KeepsC.of_below hB5)
              clear hu hku hnu hsub hW5 q5
              go_upto_region 10 with fail
              rw [HW5.out]
              go_wp2_with (first
                | (go_at_call 107; (with_reducible refine H5.out.mono ?_); go_must (rintro e w6 ⟨rfl, hI6, hk6⟩; have HI6 := Lib.hid hI6; have hK6 := hK5.trans hk6; clear hI6))
                | fail)
              go_roundw
              case rel => exact ⟨k + 1, _, by omega, by go_num, hK6, HI6, hnx⟩
              case measure => simp [intOf]; omega
            · obtain rfl : k = xs'.length := by omega
              have hdone := HLx.out.done
              have hK1 := hKx
              have HW1 : Hid (BalW o P Q pc qc bx bm B0 b2 wr) := HWx
              have HL1 : Hid (LayI o 1 b2 ys' 0 0 b2) := Lib.hid ⟨by rw [List.drop_zero], HLx.out.ok, by have := HLx.out.n; rw [List.drop_zero]; rw [List.drop_length] at this; simp only [sizes] at this; omega, by rw [List.drop_zero]; exact HI.out.ky⟩
              have Hd1 := Lib.hid hdone
              obtain ⟨wo2, rfl⟩ : ∃ wo2, wo2 = wr := ⟨_, rfl⟩
              clear hdone hKx HWx HLx
              go_wp2
              go_loopw [56] (fun i wx => ∃ (k : Nat) (b3x : Bal), k ≤ ys'.length ∧ i = .int .i64 (k : Int) ∧ KeepsC (fun g => g = bx ∨ g = bm) w wx ∧ Hid (BalW o P Q pc qc bx bm B0 b3x wx) ∧ Hid (LayI o 1 b2 ys' 0 k b3x)) (fun i _ => ys'.length - (intOf i).toNat)
              case atStart => exact ⟨0, b2, Nat.zero_le _, rfl, hK1, HW1, HL1⟩
              case round =>
                obtain ⟨k, b3x, hk, rfl, hKx, HWx, HLx⟩ := hrel
                by_cases hlt : k < ys'.length
                · obtain ⟨u, hu⟩ : ∃ u, ys'[k]? = some u := ⟨_, List.getElem?_eq_getElem hlt⟩
                  obtain ⟨hku, hnu, hnx⟩ := HLx.out.step hu
                  obtain ⟨bb, off, A5, c5, rfl, hbb, hu64, e0, e1, hsub⟩ := (HA2.out wr hKx).get hu
                  have q5 := heap_alloc_new wr (.cells #[.int .i64 u.fn, .slice A5 u.args.length c5] 32)
                  obtain ⟨W5, hW5⟩ : ∃ W5, wr.alloc (.cells #[.int .i64 u.fn, .slice A5 u.args.length c5] 32) = W5 := ⟨_, rfl⟩
                  have hB5 : Below wr.heap.size wr W5 := by rw [← hW5]; exact (Below.refl _ _).alloc (Nat.le_refl _) _
                  rw [hW5] at q5
                  obtain ⟨z0, z1, _, _⟩ := cells_two q5
                  have hlb5 := HWx.out.lB
                  have H5 := Lib.hid (lay_at (HWx.out.on hB5) u A5 c5 1 (.inr rfl) HLx.out.ok hku hnu hu64 (hsub.keep fun g hg => hB5.block g (Nat.lt_of_lt_of_le hg hlb5)))
                  have HW5 := Lib.hid hW5
                  have hnx := Lib.hid hnx
                  have hK5 := hKx.trans (KeepsC.of_below hB5)
                  clear hu hku hnu hsub hW5 q5
                  go_upto_region 15 with fail
                  rw [HW5.out]
                  go_wp2_with (first
                    | (go_at_call 107; (with_reducible refine H5.out.mono ?_); go_must (rintro e w6 ⟨rfl, hI6, hk6⟩; have HI6 := Lib.hid hI6; have hK6 := hK5.trans hk6; clear hI6))
                    | fail)
                  go_roundw
                  case rel => exact ⟨k + 1, _, by omega, by go_num, hK6, HI6, hnx⟩
                  case measure => simp [intOf]; omega
                · obtain rfl : k = ys'.length := by omega
                  have hdone := HLx.out.done
                  go_wp2
                  go_ret
                  have hfin2 : argB o xs b ys = (b3x, qf) := by rw [hfin.out, Hd1.out, hdone]
                  exact ⟨by rw [hfin2]; rfl, by rw [hfin2]; exact HWx.out, hKx⟩
        · have f1 : 0 < xs'.length := by omega
          have f2 : ¬ 0 < ys'.length := by omega
          clear hend hx0
          have hK0 := hKr
          have HW0 := HWr
          have HL0 : Hid (LayI o 0 b' xs' (sizes ys') 0 b') := Lib.hid ⟨by rw [List.drop_zero], HI.out.ok, by rw [List.drop_zero]; exact HI.out.n, by rw [List.drop_zero]; exact HI.out.kx⟩
          have HA1 : Hid (∀ wx, KeepsC (fun g => g = bx ∨ g = bm) w wx → ArgsK wx (· < B0) A c xs') := Lib.hid fun wx hk => hA0.keep fun g hg => HWw.out.low hk g hg
          have HA2 : Hid (∀ wx, KeepsC (fun g => g = bx ∨ g = bm) w wx → ArgsK wx (· < B0) A2 c2 ys') := Lib.hid fun wx hk => hA20.keep fun g hg => HWw.out.low hk g hg
          obtain ⟨wo, rfl⟩ : ∃ wo, wo = wr := ⟨_, rfl⟩
          clear hKr HWr hA0 hA20 hgk
          go_wp2_with (first
            | (go_at_call 57; (with_reducible refine (Hcm.out _).mono ?_); go_must (rintro e w1 ⟨rfl, rfl⟩))
            | (go_at_call 80; (with_reducible refine (Hrc.out _).mono ?_); go_must (rintro e w1 ⟨rfl, rfl⟩))
            | fail)
          clear f1 f2
          go_loopw [46] (fun i wx => ∃ (k : Nat) (b2 : Bal), k ≤ xs'.length ∧ i = .int .i64 (k : Int) ∧ KeepsC (fun g => g = bx ∨ g = bm) w wx ∧ Hid (BalW o P Q pc qc bx bm B0 b2 wx) ∧ Hid (LayI o 0 b' xs' (sizes ys') k b2)) (fun i _ => xs'.length - (intOf i).toNat)
          case atStart => exact ⟨0, b', Nat.zero_le _, rfl, hK0, HW0, HL0⟩
          case round =>
            obtain ⟨k, b2, hk, rfl, hKx, HWx, HLx⟩ := hrel
            by_cases hlt : k < xs'.length
            · obtain ⟨u, hu⟩ : ∃ u, xs'[k]? = some u := ⟨_, List.getElem?_eq_getElem hlt⟩
              obtain ⟨hku, hnu, hnx⟩ := HLx.out.step hu
              obtain ⟨bb, off, A5, c5, rfl, hbb, hu64, e0, e1, hsub⟩ := (HA1.out wr hKx).get hu
              have q5 := heap_alloc_new wr (.cells #[.int .i64 u.fn, .slice A5 u.args.length c5] 32)
              obtain ⟨W5, hW5⟩ : ∃ W5, wr.alloc (.cells #[.int .i64 u.fn, .slice A5 u.args.length c5] 32) = W5 := ⟨_, rfl⟩
              have hB5 : Below wr.heap.size wr W5 := by rw [← hW5]; exact (Below.refl _ _).alloc (Nat.le_refl _) _
              rw [hW5] at q5
              obtain ⟨z0, z1, _, _⟩ := cells_two q5
              have hlb5 := HWx.out.lB
              have H5 := Lib.hid (lay_at (HWx.out.on hB5) u A5 c5 0 (.inl rfl) HLx.out.ok hku hnu hu64 (hsub.keep fun g hg => hB5.block g (Nat.lt_of_lt_of_le hg hlb5)))
              have HW5 := Lib.hid hW5
              have hnx := Lib.hid hnx
              have hK5 := hKx.trans (KeepsC.of_below hB5)
              clear hu hku hnu hsub hW5 q5
              go_upto_region 10 with fail
              rw [HW5.out]
              go_wp2_with (first
                | (go_at_call 107; (with_reducible refine H5.out.mono ?_); go_must (rintro e w6 ⟨rfl, hI6, hk6⟩; have HI6 := Lib.hid hI6; have hK6 := hK5.trans hk6; clear hI6))
                | fail)
              go_roundw
              case rel => exact ⟨k + 1, _, by omega, by go_num, hK6, HI6, hnx⟩
              case measure => simp [intOf]; omega
            · obtain rfl : k = xs'.length := by omega
              have hdone := HLx.out.done
              have hK1 := hKx
              have HW1 : Hid (BalW o P Q pc qc bx bm B0 b2 wr) := HWx
              have HL1 : Hid (LayI o 1 b2 ys' 0 0 b2) := Lib.hid ⟨by rw [List.drop_zero], HLx.out.ok, by have := HLx.out.n; rw [List.drop_zero]; rw [List.drop_length] at this; simp only [sizes] at this; omega, by rw [List.drop_zero]; exact HI.out.ky⟩
              have Hd1 := Lib.hid hdone
              obtain ⟨wo2, rfl⟩ : ∃ wo2, wo2 = wr := ⟨_, rfl⟩
              clear hdone hKx HWx HLx
              go_wp2
              go_loopw [56] (fun i wx => ∃ (k : Nat) (b3x : Bal), k ≤ ys'.length ∧ i = .int .i64 (k : Int) ∧ KeepsC (fun g => g = bx ∨ g = bm) w wx ∧ Hid (BalW o P Q pc qc bx bm B0 b3x wx) ∧ Hid (LayI o 1 b2 ys' 0 k b3x)) (fun i _ => ys'.length - (intOf i).toNat)
              case atStart => exact ⟨0, b2, Nat.zero_le _, rfl, hK1, HW1, HL1⟩
              case round =>
                obtain ⟨k, b3x, hk, rfl, hKx, HWx, HLx⟩ := hrel
                by_cases hlt : k < ys'.length
                · obtain ⟨u, hu⟩ : ∃ u, ys'[k]? = some u := ⟨_, List.getElem?_eq_getElem hlt⟩
                  obtain ⟨hku, hnu, hnx⟩ := HLx.out.step hu
                  obtain ⟨bb, off, A5, c5, rfl, hbb, hu64, e0, e1, hsub⟩ := (HA2.out wr hKx).get hu
                  have q5 := heap_alloc_new wr (.cells #[.int .i64 u.fn, .slice A5 u.args.length c5] 32)
                  obtain ⟨W5, hW5⟩ : ∃ W5, wr.alloc (.cells #[.int .i64 u.fn, .slice A5 u.args.length c5] 32) = W5 := ⟨_, rfl⟩
                  have hB5 : Below wr.heap.size wr W5 := by rw [← hW5]; exact (Below.refl _ _).alloc (Nat.le_refl _) _
                  rw [hW5] at q5
                  obtain ⟨z0, z1, _, _⟩ := cells_two q5
                  have hlb5 := HWx.out.lB
                  have H5 := Lib.hid (lay_at (HWx.out.on hB5) u A5 c5 1 (.inr rfl) HLx.out.ok hku hnu hu64 (hsub.keep fun g hg => hB5.block g (Nat.lt_of_lt_of_le hg hlb5)))
                  have HW5 := Lib.hid hW5
                  have hnx := Lib.hid hnx
                  have hK5 := hKx.trans (KeepsC.of_below hB5)
                  clear hu hku hnu hsub hW5 q5
                  go_upto_region 15 with fail
                  rw [HW5.out]
                  go_wp2_with (first
                    | (go_at_call 107; (with_reducible refine H5.out.mono ?_); go_must (rintro e w6 ⟨rfl, hI6, hk6⟩; have HI6 := Lib.hid hI6; have hK6 := hK5.trans hk6; clear hI6))
                    | fail)
                  go_roundw
                  case rel => exact ⟨k + 1, _, by omega, by go_num, hK6, HI6, hnx⟩
                  case measure => simp [intOf]; omega
                · obtain rfl : k = ys'.length := by omega
                  have hdone := HLx.out.done
                  go_wp2
                  go_ret
                  have hfin2 : argB o xs b ys = (b3x, qf) := by rw [hfin.out, Hd1.out, hdone]
                  exact ⟨by rw [hfin2]; rfl, by rw [hfin2]; exact HWx.out, hKx⟩
      · match xs', ys', hend with
        | [], ys', h => exact absurd (.inl rfl) h
        | x :: xs'', [], h => exact absurd (.inr rfl) h
        | x :: xs'', y :: ys'', _ =>
          obtain ⟨p1, off1, A1, c1, hc1⟩ := (hA0.keep fun g hg => HWw.out.low hKr g hg).cons
          obtain ⟨p2, off2, A3, c3, hc2⟩ := (hA20.keep fun g hg => HWw.out.low hKr g hg).cons
          obtain ⟨p1', off1', A1', c1', hd1⟩ := hA0.cons
          obtain ⟨p2', off2', A3', c3', hd2⟩ := hA20.cons
          have hD := bl_drewN (Below.refl wr.heap.size wr) 1
          have hDK : KeepsC (fun g => g = bx ∨ g = bm) wr wr.drew := KeepsC.of_below hD
          have e0 : wr.drew.cell? ⟨p1, off1, none⟩ = some (.int .i64 x.fn) := hc1.v0
          have e1 : wr.drew.cell? ⟨p1, off1 + 1, none⟩ = some (.slice A1 x.args.length c1) := hc1.v1
          have e2 : wr.drew.cell? ⟨p2, off2, none⟩ = some (.int .i64 y.fn) := hc2.v0
          have e3 : wr.drew.cell? ⟨p2, off2 + 1, none⟩ = some (.slice A3 y.args.length c3) := hc2.v1
          have hkx := HI.out.kx
          have hky := HI.out.ky
          have hnn := HI.out.n
          rw [knowL, Bool.and_eq_true] at hkx hky
          simp only [sizes] at hnn
          obtain ⟨hst, hrb⟩ := rsn_ok x b' y HI.out.ok hkx.1 hky.1 (by omega)
          have H1 := Lib.hid (ih x (HI.out.mem x (by simp)) y b' A1 A3 c1 c3 wr.drew (HWr.out.on hD) HI.out.ok hkx.1 hky.1 (by omega) hc1.hi hc2.hi (hc1.sub.keep fun g hg => HWr.out.low hDK g hg) (hc2.sub.keep fun g hg => HWr.out.low hDK g hg))
          have hrest1 := Lib.hid hd1.rest
          have hrest2 := Lib.hid hd2.rest
          have had1 := hd1.ad
          have had2 := hd2.ad
          rw [hc1.ad] at had1
          rw [hc2.ad] at had2
          have h1c := hc1.hc
          have h2c := hc2.hc
          have ha1 := hc1.ad
          have ha2 := hc2.ad
          injection had1 with had1
          injection had1 with had1 had1' _
          injection had2 with had2
          injection had2 with had2 had2' _
          subst had1; subst had1'; subst had2; subst had2'
          subst ha1; subst ha2
          obtain ⟨r, hr⟩ : ∃ r, rsnB o x b' y = r := ⟨_, rfl⟩
          have hnext : Hid (ArgI o xs ys b xs'' ys'' r.1 (finB b' r)) := Lib.hid ⟨fun z hz => HI.out.mem z (by simp [hz]), hkx.2, hky.2, by rw [← hr]; exact hst.ok, by rw [← hr, hst.n]; omega, fun h => by rw [HI.out.yes rfl, argB, hr, if_pos h], fun h => by rw [HI.out.yes rfl, argB, hr, if_neg h]⟩
          rw [hr] at H1
          obtain ⟨qn, hqn⟩ : ∃ qn, finB b' r = qn := ⟨_, rfl⟩
          rw [hqn] at H1 hnext
          clear hc1 hc2 hd1 hd2 hkx hky hnn hst hrb hr hqn hA0 hA20 HA0 HA20
          go_upto_region 3 with fail
          go_region_law
            (first
              | (go_simp
                 go_at_call 44
                 with_reducible refine H1.out.mono ?_
                 rintro e w1 ⟨rfl, hI1, hk1⟩
                 have HI1 := Lib.hid hI1
                 have hkr1 : KeepsC (fun g => g = bx ∨ g = bm) wr w1 := hDK.trans hk1
                 clear hI1
                 dsimp only)
              | fail)
          all_goals
            have hk2 := hKr.trans hkr1
            go_upto_region 4 with fail
            have hz1 : (1 : Int) ≤ (xs''.length : Int) + 1 := by omega
            have hz2 : (1 : Int) ≤ (ys''.length : Int) + 1 := by omega
            have hD1 := bl_drewN (Below.refl w1.heap.size w1) 1
            have hk3 : KeepsC (fun g => g = bx ∨ g = bm) w w1.drew := hk2.trans (KeepsC.of_below hD1)
            have HI3 : Hid (BalW o P Q pc qc bx bm B0 r.1 w1.drew) := Lib.hid (HI1.out.on hD1)
            clear hD1
            by_cases hc1 : c = 1
            all_goals
              by_cases hc2 : c2 = 1
            all_goals
              go_region
              go_wp2
              go_roundg xs''.length
              case rel => exact ⟨xs'', ys'', r.1, qn, _, _, c - 1, c2 - 1, by simp [hc1], by simp [hc2], rfl, Nat.le_refl _, hk3, HI3, hnext, hrest1, hrest2⟩
            all_goals
              simp only [List.length_cons] at hgk
              omega
    · have hq' : (q == 2) = false := by simp [hq]
      have hfin := Lib.hid (HI.out.no hq)
      obtain ⟨qf, hqf⟩ : ∃ qf, q = qf := ⟨_, rfl⟩
      subst hqf
      have hK0 := hKr
      have HW0 := HWr
      have HL0 : Hid (LayI o 0 b' xs' (sizes ys') 0 b') := Lib.hid ⟨by rw [List.drop_zero], HI.out.ok, by rw [List.drop_zero]; exact HI.out.n, by rw [List.drop_zero]; exact HI.out.kx⟩
      have HA1 : Hid (∀ wx, KeepsC (fun g => g = bx ∨ g = bm) w wx → ArgsK wx (· < B0) A c xs') := Lib.hid fun wx hk => hA0.keep fun g hg => HWw.out.low hk g hg
      have HA2 : Hid (∀ wx, KeepsC (fun g => g = bx ∨ g = bm) w wx → ArgsK wx (· < B0) A2 c2 ys') := Lib.hid fun wx hk => hA20.keep fun g hg => HWw.out.low hk g hg
      obtain ⟨wo, rfl⟩ : ∃ wo, wo = wr := ⟨_, rfl⟩
      clear hKr HWr hA0 hA20 hgk
      clear hq
      go_wp2
      go_loopw [46] (fun i wx => ∃ (k : Nat) (b2 : Bal), k ≤ xs'.length ∧ i = .int .i64 (k : Int) ∧ KeepsC (fun g => g = bx ∨ g = bm) w wx ∧ Hid (BalW o P Q pc qc bx bm B0 b2 wx) ∧ Hid (LayI o 0 b' xs' (sizes ys') k b2)) (fun i _ => xs'.length - (intOf i).toNat)
      case atStart => exact ⟨0, b', Nat.zero_le _, rfl, hK0, HW0, HL0⟩
      case round =>
        obtain ⟨k, b2, hk, rfl, hKx, HWx, HLx⟩ := hrel
        by_cases hlt : k < xs'.length
        · obtain ⟨u, hu⟩ : ∃ u, xs'[k]? = some u := ⟨_, List.getElem?_eq_getElem hlt⟩
          obtain ⟨hku, hnu, hnx⟩ := HLx.out.step hu
          obtain ⟨bb, off, A5, c5, rfl, hbb, hu64, e0, e1, hsub⟩ := (HA1.out wr hKx).get hu
          have q5 := heap_alloc_new wr (.cells #[.int .i64 u.fn, .slice A5 u.args.length c5] 32)
          obtain ⟨W5, hW5⟩ : ∃ W5, wr.alloc (.cells #[.int .i64 u.fn, .slice A5 u.args.length c5] 32) = W5 := ⟨_, rfl⟩
          have hB5 : Below wr.heap.size wr W5 := by rw [← hW5]; exact (Below.refl _ _).alloc (Nat.le_refl _) _
          rw [hW5] at q5
          obtain ⟨z0, z1, _, _⟩ := cells_two q5
          have hlb5 := HWx.out.lB
          have H5 := Lib.hid (lay_at (HWx.out.on hB5) u A5 c5 0 (.inl rfl) HLx.out.ok hku hnu hu64 (hsub.keep fun g hg => hB5.block g (Nat.lt_of_lt_of_le hg hlb5)))
          have HW5 := Lib.hid hW5
          have hnx := Lib.hid hnx
          have hK5 := hKx.trans (KeepsC.of_below hB5)
          clear hu hku hnu hsub hW5 q5
          go_upto_region 10 with fail
          rw [HW5.out]
          go_wp2_with (first
            | (go_at_call 107; (with_reducible refine H5.out.mono ?_); go_must (rintro e w6 ⟨rfl, hI6, hk6⟩; have HI6 := Lib.hid hI6; have hK6 := hK5.trans hk6; clear hI6))
            | fail)
          go_roundw
          case rel => exact ⟨k + 1, _, by omega, by go_num, hK6, HI6, hnx⟩
          case measure => simp [intOf]; omega
        · obtain rfl : k = xs'.length := by omega
          have hdone := HLx.out.done
          have hK1 := hKx
          have HW1 : Hid (BalW o P Q pc qc bx bm B0 b2 wr) := HWx
          have HL1 : Hid (LayI o 1 b2 ys' 0 0 b2) := Lib.hid ⟨by rw [List.drop_zero], HLx.out.ok, by have := HLx.out.n; rw [List.drop_zero]; rw [List.drop_length] at this; simp only [sizes] at this; omega, by rw [List.drop_zero]; exact HI.out.ky⟩
          have Hd1 := Lib.hid hdone
          obtain ⟨wo2, rfl⟩ : ∃ wo2, wo2 = wr := ⟨_, rfl⟩
          clear hdone hKx HWx HLx
          go_wp2
          go_loopw [56] (fun i wx => ∃ (k : Nat) (b3x : Bal), k ≤ ys'.length ∧ i = .int .i64 (k : Int) ∧ KeepsC (fun g => g = bx ∨ g = bm) w wx ∧ Hid (BalW o P Q pc qc bx bm B0 b3x wx) ∧ Hid (LayI o 1 b2 ys' 0 k b3x)) (fun i _ => ys'.length - (intOf i).toNat)
          case atStart => exact ⟨0, b2, Nat.zero_le _, rfl, hK1, HW1, HL1⟩
          case round =>
            obtain ⟨k, b3x, hk, rfl, hKx, HWx, HLx⟩ := hrel
            by_cases hlt : k < ys'.length
            · obtain ⟨u, hu⟩ : ∃ u, ys'[k]? = some u := ⟨_, List.getElem?_eq_getElem hlt⟩
              obtain ⟨hku, hnu, hnx⟩ := HLx.out.step hu
              obtain ⟨bb, off, A5, c5, rfl, hbb, hu64, e0, e1, hsub⟩ := (HA2.out wr hKx).get hu
              have q5 := heap_alloc_new wr (.cells #[.int .i64 u.fn, .slice A5 u.args.length c5] 32)
              obtain ⟨W5, hW5⟩ : ∃ W5, wr.alloc (.cells #[.int .i64 u.fn, .slice A5 u.args.length c5] 32) = W5 := ⟨_, rfl⟩
              have hB5 : Below wr.heap.size wr W5 := by rw [← hW5]; exact (Below.refl _ _).alloc (Nat.le_refl _) _
              rw [hW5] at q5
              obtain ⟨z0, z1, _, _⟩ := cells_two q5
              have hlb5 := HWx.out.lB
              have H5 := Lib.hid (lay_at (HWx.out.on hB5) u A5 c5 1 (.inr rfl) HLx.out.ok hku hnu hu64 (hsub.keep fun g hg => hB5.block g (Nat.lt_of_lt_of_le hg hlb5)))
              have HW5 := Lib.hid hW5
              have hnx := Lib.hid hnx
              have hK5 := hKx.trans (KeepsC.of_below hB5)
              clear hu hku hnu hsub hW5 q5
              go_upto_region 15 with fail
              rw [HW5.out]
              go_wp2_with (first
                | (go_at_call 107; (with_reducible refine H5.out.mono ?_); go_must (rintro e w6 ⟨rfl, hI6, hk6⟩; have HI6 := Lib.hid hI6; have hK6 := hK5.trans hk6; clear hI6))
                | fail)
              go_roundw
              case rel => exact ⟨k + 1, _, by omega, by go_num, hK6, HI6, hnx⟩
              case measure => simp [intOf]; omega
            · obtain rfl : k = ys'.length := by omega
              have hdone := HLx.out.done
              go_wp2
              go_ret
              have hfin2 : argB o xs b ys = (b3x, q) := by rw [hfin.out, Hd1.out, hdone]
              exact ⟨by rw [hfin2]; rfl, by rw [hfin2]; exact HWx.out, hKx⟩
end Go.Proofs.YthgglobfkkcdgaaGreatDoor
namespace Go.Proofs.YthgglobfkkcdgaaGreatDoor
open Go.RowKit Go.Shelf Go.Maps
set_option maxRecDepth 100000
theorem cmp_any (o : Odr) (P Q : Option Addr) (pc qc bx bm B0 : Nat) (s : Tm) : KCmpAt o P Q pc qc bx bm B0 s := by
  refine Tm.ind (P := fun s => KCmpAt o P Q pc qc bx bm B0 s) (fun f xs ih => ?_) s
  intro t b A A2 c c2 w hW hOK hks hkt hn hf hg hA hA2
  have harg := arguments_of xs ih
  obtain ⟨hst, _, _⟩ := rsn_ok (.node f xs) b t hOK hks hkt hn
  refine compare_of hW (.node f xs) t A A2 c c2 (rsnB o (.node f xs) b t) hOK hst.ok fun w1 hb1 hW1 => ?_
  have hlow : ∀ g, g < B0 → w1.heap[g]? = w.heap[g]? := fun g hg => hb1.block g (Nat.lt_of_lt_of_le hg hW.lB)
  refine reason_of hW1 (.node f xs) t A A2 c c2 hOK hks hkt hn hf hg (hA.keep hlow) (hA2.keep hlow) fun b' w' hOK' hn' hW' hA' hA2' => ?_
  have k1 := (know_node hks).2
  have k2 := (know_node hkt).2
  have z1 : (Tm.node f xs).size = 1 + sizes xs := size_node _
  have z2 := size_node t
  exact harg t.args b' A A2 c c2 w' hW' hOK' k1 k2 (by show b'.n + sizes xs + sizes t.args ≤ _; omega) hA' hA2'
def bal0 : Bal := ⟨0, 0, 0, 0, fun _ => 0, 0⟩
theorem bal0_ok : BalOK bal0 := by constructor <;> simp [bal0]
def cmpO (o : Odr) (s t : Tm) : Int := if knowT o s && knowT o t then finB bal0 (rsnB o s bal0 t) else 0
set_option maxHeartbeats 2000000 in
theorem kboCmp_any (o : Odr) (s t : Tm) (P Q A A2 : Option Addr) (pc qc c c2 : Nat) (w : World) (hM : OdrM w w.heap.size o P Q) (hf : I64 s.fn) (hg : I64 t.fn) (hn : s.size + t.size ≤ 1073741824) (hA : ArgsK w (· < w.heap.size) A c s.args) (hA2 : ArgsK w (· < w.heap.size) A2 c2 t.args) :
    Calls Tryz.prog 23 #[.agg #[.bool o.lpo, .slice P o.prec.length pc, .slice Q o.wts.length qc, .int .i64 o.var], .agg #[.int .i64 s.fn, .slice A s.args.length c], .agg #[.int .i64 t.fn, .slice A2 t.args.length c2]] w fun e w' => e = .returned (.int .i64 (cmpO o s t)) ∧ Below w.heap.size w w' := by
  have hmm : ∀ w : World, (Instr.makeMap 96 none).run Tryz.prog w = .ok (.map (some w.heap.size)) (w.alloc (.map #[] 0)) := fun _ => run_makeMap_plain (w := _) _
  obtain ⟨q0, q1, q2⟩ := heap3 w (.cells #[.bool o.lpo, .slice P o.prec.length pc, .slice Q o.wts.length qc, .int .i64 o.var] 38) (.cells #[.int .i64 s.fn, .slice A s.args.length c] 32) (.cells #[.int .i64 t.fn, .slice A2 t.args.length c2] 32)
  obtain ⟨W, hW⟩ : ∃ W, (((w.alloc (.cells #[.bool o.lpo, .slice P o.prec.length pc, .slice Q o.wts.length qc, .int .i64 o.var] 38)).alloc (.cells #[.int .i64 s.fn, .slice A s.args.length c] 32)).alloc (.cells #[.int .i64 t.fn, .slice A2 t.args.length c2] 32)) = W := ⟨_, rfl⟩
  have hB : Below w.heap.size w W := by rw [← hW]; exact (((Below.refl _ _).alloc (Nat.le_refl _) _).alloc (by simp) _).alloc (by simp; omega) _
  rw [hW] at q0 q1 q2
  have hWz : W.heap.size = w.heap.size + 3 := by rw [← hW]; simp
  have HK1 : Hid (∀ w1, Below W.heap.size W w1 → Calls Tryz.prog 43 #[.agg #[.bool o.lpo, .slice P o.prec.length pc, .slice Q o.wts.length qc, .int .i64 o.var], .agg #[.int .i64 s.fn, .slice A s.args.length c]] w1 fun e w' => e = .returned (.bool (knowT o s)) ∧ Below w1.heap.size w1 w') := Lib.hid fun w1 hb => kboKnows_any o s P Q A pc qc c w1 hf (hA.toA.on (hB.trans (hb.mono hB.size)))
  have HK2 : Hid (∀ w1, Below W.heap.size W w1 → Calls Tryz.prog 43 #[.agg #[.bool o.lpo, .slice P o.prec.length pc, .slice Q o.wts.length qc, .int .i64 o.var], .agg #[.int .i64 t.fn, .slice A2 t.args.length c2]] w1 fun e w' => e = .returned (.bool (knowT o t)) ∧ Below w1.heap.size w1 w') := Lib.hid fun w1 hb => kboKnows_any o t P Q A2 pc qc c2 w1 hg (hA2.toA.on (hB.trans (hb.mono hB.size)))
  have hS : ∀ w1, Below W.heap.size W w1 → w1.cell? ⟨w.heap.size, 0, none⟩ = some (.bool o.lpo) ∧ w1.cell? ⟨w.heap.size, 1, none⟩ = some (.slice P o.prec.length pc) ∧ w1.cell? ⟨w.heap.size, 2, none⟩ = some (.slice Q o.wts.length qc) ∧ w1.cell? ⟨w.heap.size, 3, none⟩ = some (.int .i64 o.var) ∧
      w1.cell? ⟨w.heap.size + 1, 0, none⟩ = some (.int .i64 s.fn) ∧ w1.cell? ⟨w.heap.size + 1, 1, none⟩ = some (.slice A s.args.length c) ∧ w1.cell? ⟨w.heap.size + 2, 0, none⟩ = some (.int .i64 t.fn) ∧ w1.cell? ⟨w.heap.size + 2, 1, none⟩ = some (.slice A2 t.args.length c2) := fun w1 hb => by
    obtain ⟨a0, a1, a2, a3⟩ := cells_four ((hb.block _ (by omega)).trans q0)
    obtain ⟨b0, b1, _, _⟩ := cells_two ((hb.block _ (by omega)).trans q1)
    obtain ⟨d0, d1, _, _⟩ := cells_two ((hb.block _ (by omega)).trans q2)
    exact ⟨a0, a1, a2, a3, b0, b1, d0, d1⟩
  have HS := Lib.hid hS
  obtain ⟨x0, x1, x2, x3, y0, y1, z0, z1⟩ := hS W (Below.refl _ _)
  have HM := Lib.hid hM
  have HA := Lib.hid hA
  have HA2 := Lib.hid hA2
  have HW := Lib.hid hW
  clear hS hM hA hA2 hW q0 q1 q2
  go_enter Tryz.func23, Tryz.ntmps23
  go_upto_region 1 with fail
  rw [HW.out]
  cases hks : knowT o s with
  | false =>
    have hfin := Lib.hid (show cmpO o s t = 0 by unfold cmpO; rw [hks]; rfl)
    have H1 := HK1.out W (Below.refl _ _)
    rw [hks] at H1
    have H1 := Lib.hid H1
    clear hks
    go_wp2_with (first
      | (go_at_call 43; (with_reducible refine H1.out.mono ?_); go_must (rintro e w1 ⟨rfl, hb1⟩))
      | fail)
    go_ret
    exact ⟨by rw [hfin.out]; rfl, hB.trans (hb1.mono hB.size)⟩
  | true =>
    have H1 := HK1.out W (Below.refl _ _)
    rw [hks] at H1
    have H1 := Lib.hid H1
    have Hks := Lib.hid hks
    clear hks
    cases hkt : knowT o t with
    | false =>
      have hfin := Lib.hid (show cmpO o s t = 0 by unfold cmpO; rw [hkt, Bool.and_false]; rfl)
      have H2 : Hid (∀ w1, Below W.heap.size W w1 → _) := Lib.hid fun w1 hb => HK2.out w1 hb
      rw [hkt] at H2
      clear hkt
      go_wp2_with (first
        | (go_at_call 43; (with_reducible refine H1.out.mono ?_); go_must (rintro e w1 ⟨rfl, hb1⟩; obtain ⟨u0, u1, u2, u3, u4, u5, u6, u7⟩ := HS.out w1 hb1; have h2 := Lib.hid (H2.out w1 hb1); clear H1))
        | (go_at_call 43; (with_reducible refine h2.out.mono ?_); go_must (rintro e w2 ⟨rfl, hb2⟩))
        | fail)
      go_ret
      exact ⟨by rw [hfin.out]; rfl, (hB.trans (hb1.mono hB.size)).trans (hb2.mono (Nat.le_trans hB.size hb1.size))⟩
    | true =>
      have H2 : Hid (∀ w1, Below W.heap.size W w1 → _) := Lib.hid fun w1 hb => HK2.out w1 hb
      rw [hkt] at H2
      have Hkt := Lib.hid hkt
      clear hkt
      go_upto_region 3 with (first
        | (go_at_call 43; (with_reducible refine H1.out.mono ?_); go_must (rintro e w1 ⟨rfl, hb1⟩; obtain ⟨u0, u1, u2, u3, u4, u5, u6, u7⟩ := HS.out w1 hb1; have h2 := Lib.hid (H2.out w1 hb1); clear H1))
        | (go_at_call 43; (with_reducible refine h2.out.mono ?_); go_must (rintro e w2 ⟨rfl, hb2⟩))
        | fail)
      have hbW : Below W.heap.size W w2 := hb1.trans (hb2.mono hb1.size)
      obtain ⟨v0, v1, v2, v3, v4, v5, v6, v7⟩ := HS.out w2 hbW
      clear u0 u1 u2 u3 u4 u5 u6 u7
      go_upto_region 4 with fail
      obtain ⟨p0, p1⟩ := heap2 w2 (.map #[] 0) (.cells #[.bool o.lpo, .slice P o.prec.length pc, .slice Q o.wts.length qc, .int .i64 o.var, .map (some w2.heap.size), .int .i64 0, .int .i64 0, .int .i64 0, .int .i64 0] 100)
      obtain ⟨W5, hW5⟩ : ∃ W5, ((w2.alloc (.map #[] 0)).alloc (.cells #[.bool o.lpo, .slice P o.prec.length pc, .slice Q o.wts.length qc, .int .i64 o.var, .map (some w2.heap.size), .int .i64 0, .int .i64 0, .int .i64 0, .int .i64 0] 100)) = W5 := ⟨_, rfl⟩
      have hB5 : Below w2.heap.size w2 W5 := by rw [← hW5]; exact ((Below.refl _ _).alloc (Nat.le_refl _) _).alloc (by simp) _
      rw [hW5] at p0 p1 ⊢
      have hz2 := hbW.size
      have hB0 : Below w.heap.size w W5 := (hB.trans (hbW.mono hB.size)).trans (hB5.mono (by omega))
      have hV : VMap W5 w2.heap.size 0 fun _ => 0 := (VMap.made w2).kept (p0.trans (heap_alloc_new w2 _).symm)
      have hI : BalW o P Q pc qc (w2.heap.size + 1) w2.heap.size w.heap.size bal0 W5 := ⟨⟨p1, hV, by omega⟩, HM.out.blw fun g hg => hB0.block g hg, by omega, by omega⟩
      have H3 := Lib.hid (cmp_any o P Q pc qc (w2.heap.size + 1) w2.heap.size w.heap.size s t bal0 A A2 c c2 W5 hI bal0_ok Hks.out Hkt.out (by show 0 + s.size + t.size ≤ _; omega) hf hg (HA.out.keep fun g hg => hB0.block g hg) (HA2.out.keep fun g hg => hB0.block g hg))
      have hfin := Lib.hid (show cmpO o s t = finB bal0 (rsnB o s bal0 t) by unfold cmpO; rw [Hks.out, Hkt.out]; rfl)
      obtain ⟨m0, m1, m2, m3, m4, m5, m6, m7⟩ := HS.out W5 (hbW.trans (hB5.mono hz2))
      have hz5 := hB5.size
      clear v0 v1 v2 v3 v4 v5 v6 v7 hI hV p0 p1 hW5 m0 m1 m2 m3
      go_wp2_with (first
        | (go_at_call 44; (with_reducible refine H3.out.mono ?_); go_must (rintro e w6 ⟨rfl, _, hk6⟩))
        | fail)
      go_ret
      refine ⟨by rw [hfin.out]; rfl, hB0.trans (hk6.below (by omega) fun g hg => by omega)⟩
end Go.Proofs.YthgglobfkkcdgaaGreatDoor
namespace Go.Proofs.YthgglobfkkcdgaaGreatDoor
open Go.RowKit Go.Shelf Go.Maps
set_option maxRecDepth 100000
mutual
def wsT (o : Odr) : Tm → Int
  | .node f xs => wtI o f + wsL o xs
def wsL (o : Odr) : List Tm → Int
  | [] => 0
  | t :: ts => wsT o t + wsL o ts
end
end Go.Proofs.YthgglobfkkcdgaaGreatDoor
namespace Go.Proofs.YthgglobfkkcdgaaGreatDoor
open Go.RowKit Go.Shelf Go.Maps
set_option maxRecDepth 100000
end Go.Proofs.YthgglobfkkcdgaaGreatDoor
namespace Go.Proofs.YthgglobfkkcdgaaGreatDoor
open Go.RowKit Go.Shelf Go.Maps
set_option maxRecDepth 100000
theorem wsT_lo (o : Odr) (t : Tm) : 0 ≤ wsT o t := by
  have key : ∀ xs : List Tm, (∀ t ∈ xs, 0 ≤ wsT o t) → 0 ≤ wsL o xs := by
    intro xs
    induction xs with
    | nil => intro _; rw [wsL]; omega
    | cons x xs ih => intro h; have h1 := h x (by simp); have h2 := ih fun t ht => h t (by simp [ht]); rw [wsL]; omega
  refine Tm.ind (P := fun t => 0 ≤ wsT o t) (fun f xs ih => ?_) t
  have h1 := key xs ih
  have h2 := (wtI_bd o f).1
  rw [wsT]; omega
theorem wsL_lo (o : Odr) : ∀ xs : List Tm, 0 ≤ wsL o xs
  | [] => by rw [wsL]; omega
  | x :: xs => by have h1 := wsT_lo o x; have h2 := wsL_lo o xs; rw [wsL]; omega
end Go.Proofs.YthgglobfkkcdgaaGreatDoor
namespace Go.Proofs.YthgglobfkkcdgaaGreatDoor
open Go.RowKit Go.Shelf Go.Maps
set_option maxRecDepth 100000
mutual
def covU (s t : Tm) : Tm → Bool
  | .node f xs => if f < 0 then decide (ofT f t ≤ ofT f s) else covL s t xs
def covL (s t : Tm) : List Tm → Bool
  | [] => true
  | u :: us => covU s t u && covL s t us
end
end Go.Proofs.YthgglobfkkcdgaaGreatDoor
namespace Go.Proofs.YthgglobfkkcdgaaGreatDoor
open Go.RowKit
set_option maxRecDepth 100000
end Go.Proofs.YthgglobfkkcdgaaGreatDoor
namespace Go.Proofs.YthgglobfkkcdgaaGreatDoor
open Go.RowKit
set_option maxRecDepth 100000
theorem cmpT_h {f g : Int} {xs ys : List Tm} (h : ¬ headI f g = 0) : cmpT (.node f xs) (.node g ys) = headI f g := (cmpT_eq _ _).trans (if_pos h)
theorem cmpT_c {f g : Int} {xs ys : List Tm} (h : headI f g = 0) (h1 : ¬ cmpL xs ys = 0) : cmpT (.node f xs) (.node g ys) = cmpL xs ys := (cmpT_eq _ _).trans ((if_neg (fun e => e h)).trans (if_pos h1))
theorem cmpT_n {f g : Int} {xs ys : List Tm} (h : headI f g = 0) (h1 : cmpL xs ys = 0) : cmpT (.node f xs) (.node g ys) = numI xs.length ys.length := (cmpT_eq _ _).trans ((if_neg (fun e => e h)).trans (if_neg (fun e => e h1)))
end Go.Proofs.YthgglobfkkcdgaaGreatDoor
