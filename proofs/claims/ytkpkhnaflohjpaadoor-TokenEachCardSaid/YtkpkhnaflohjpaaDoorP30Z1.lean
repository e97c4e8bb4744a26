import Derived.Sort.QuietTacIn
import Derived.Test.YtkpkhnaflohjpaaDoorP27Z2
/- A region that draws its order and only reads, in a round of a range over a function. -/

namespace Go.Proofs.YtkpkhnaflohjpaaDoor

open Go

variable {F : Fence} {n : Nat} {P : Program} {ops : Array Oper} {C : World → Prop} {md : Region.Mode}

theorem rd_op {o : Oper} {a : Act} {K : Act → Prop} {K' : Act → World → Prop} {Q' : Exit → Act → World → Prop} {w : World} (hs : ∀ ρ, o.semAt F.round ρ = execOp ρ o) (hw : C w) (h : ∀ a w', C w' → K a → K' a w')
    (ha : o.askedIn F P a C) (hq : o.quietIn F n P a C K) : o.wpIn F n P a w K' Q' := by
  obtain ⟨v, h1, h2⟩ := hq
  have h3 := h1 w hw
  unfold Oper.quietAtIn at h3
  refine ⟨ha w hw, ?_⟩
  rw [hs]
  revert h3
  generalize (execOp a.eval o).run P w = r
  intro h3
  rcases r with ⟨x, w'⟩ | ⟨x, w'⟩
  · cases x <;> simp only [Oper.quietUponIn] at h3
    · rw [h3.1, h3.2]; exact h _ _ hw h2
    · rw [h3.1]
      show K' (a.put o.dst undef) w
      rw [← h3.2]; exact h _ _ hw h2
    · rw [h3.1]
      exact ⟨h3.2.1, h3.2.2.mono fun e w'' he => by obtain ⟨rfl, hw''⟩ := he; exact h _ _ hw'' h2⟩
  · simp only [Oper.quietUponIn] at h3

theorem rd_num {i : Nat} {a : Act} {K : Act → Prop} {K' : Act → World → Prop} {Q' : Exit → Act → World → Prop} {w : World} (hs : ∀ (j : Nat) o, ops[j]? = some o → ∀ ρ, o.semAt F.round ρ = execOp ρ o) (hC : C w) (h : ∀ a w', C w' → K a → K' a w')
    (hq : qOpIn F n P ops C i K a) : wpOpIn F n P ops Q' i K' a w := by
  unfold qOpIn at hq
  unfold wpOpIn
  cases ho : ops[i]? with
  | none => simp only [ho] at hq; exact h _ _ hC hq
  | some o =>
    simp only [ho] at hq
    by_cases hw : Region.wanted o (yielded ops a.tmps) = true
    · simp only [hw, if_true] at hq ⊢
      exact rd_op (hs i o ho) hC h hq.1 hq.2
    · simp only [hw] at hq ⊢
      exact ⟨hq.1 w hC, h _ _ hC hq.2⟩

theorem rd_any {Q : Act → Prop} {Q' : Exit → Act → World → Prop} (hs : ∀ (j : Nat) o, ops[j]? = some o → ∀ ρ, o.semAt F.round ρ = execOp ρ o) (hQ : ∀ a w, C w → Q a → Q' .normal a w) : ∀ (fuel : Nat) (listed : Array Bool) (a : Act) (w : World), C w →
    wpAnyQIn F n P md ops C Q fuel listed a → wpAnyIn F n P md ops Q' fuel listed a w
  | 0, _, _, _, hw, h => ⟨h.1, hQ _ _ hw h.2⟩
  | k + 1, _, _, _, hw, h => ⟨fun h0 => hQ _ _ hw (h.1 h0), fun i hi => rd_num hs hw (fun a' w' hw' => rd_any hs hQ k _ a' w' hw') (h.2 i hi)⟩

/-- No operation of the region is a defer: told by a look at each. -/
def noDefer (l : List Oper) : Bool := l.all fun o => match o.op with | .defer _ => false | _ => true

theorem rd_sem {l : List Oper} (h : noDefer l = true) (r : Nat) : ∀ (j : Nat) o, l.toArray[j]? = some o → ∀ ρ, o.semAt (some r) ρ = execOp ρ o := by
  intro j o ho ρ
  have hm : o ∈ l := by simpa using Array.mem_of_getElem? ho
  have := List.all_eq_true.1 h o hm
  refine Oper.semAt_some r ρ o fun c hc => ?_
  rw [hc] at this
  cases this

theorem wpIn_region_rd {id r : Nat} {Q : Exit → Act → World → Prop} {a : Act} {w : World} {l : List Oper} (hro : F.round = some r) (hd : noDefer l = true) (hm : P.follows .mixedOrders = true) (hB : Region.lexB .any l.toArray = true)
    (h : wpQuietIn F n P l.toArray (fun w' => ∃ n, w' = w.drewN n) (fun a' => ∀ w', (∃ n, w' = w.drewN n) → Q .normal a' w') l a) : (Code.region id l.toArray true).wpIn F n P Q a w := by
  simp only [Region.lexB, Bool.and_eq_true] at hB
  refine wpIn_region_any hm (rd_any (Q := fun a' => ∀ w', (∃ n, w' = w.drewN n) → Q .normal a' w') (C := fun w' => ∃ n, w' = w.drewN n) (by rw [hro]; exact rd_sem hd r) (fun _ w' hw' h => h w' hw') _ _ _ _ ⟨1, rfl⟩ ?_)
  have := wpAnyQIn_lex (F := F) (n := n) (P := P) (C := fun w' => ∃ n, w' = w.drewN n) (md := .any) hB.1 l 0 (Array.replicate l.toArray.size false) a (by simp) (by simpa using hB.2) h
  simpa using this

/-- The same, where calls may make memory: what is said of every world (C) they keep. -/
theorem wpIn_region_rdC {id r : Nat} {Q : Exit → Act → World → Prop} {a : Act} {w : World} {l : List Oper} (hro : F.round = some r) (hd : noDefer l = true) (hm : P.follows .mixedOrders = true) (hB : Region.lexB .any l.toArray = true) (hC : C w.drew)
    (h : wpQuietIn F n P l.toArray C (fun a' => ∀ w', C w' → Q .normal a' w') l a) : (Code.region id l.toArray true).wpIn F n P Q a w := by
  simp only [Region.lexB, Bool.and_eq_true] at hB
  refine wpIn_region_any hm (rd_any (Q := fun a' => ∀ w', C w' → Q .normal a' w') (C := C) (by rw [hro]; exact rd_sem hd r) (fun _ w' hw' h => h w' hw') _ _ _ _ hC ?_)
  have := wpAnyQIn_lex (F := F) (n := n) (P := P) (C := C) (md := .any) hB.1 l 0 (Array.replicate l.toArray.size false) a (by simp) (by simpa using hB.2) h
  simpa using this

end Go.Proofs.YtkpkhnaflohjpaaDoor

/- Token: the law's each, a range over Each. -/

namespace Go.Proofs.YtkpkhnaflohjpaaDoor

open Go Go.RowKit Go.Shelf
attribute [local go_sem] Oper.semAt_some
set_option maxRecDepth 100000

/-- A function value is not nil. -/
theorem run_eql_seqk (f : Fn) (xs ys : Array Value) (w : World) : (binOp .eql 41 (.func f xs ys) .nilFunc).run Tryd.prog w = .ok (.bool false) w := by
  have h : ∀ d, (Op.equalIn (d + 1) 41 (.func f xs ys) .nilFunc).run Tryd.prog w = .ok false w := fun d => by
    simp [Op.equalIn, run_underlying Tryd.underlying41]
  simp only [binOp]
  simp [Op.equal, Op.maxDepth, h 9999]

/-- What stays while the range runs. -/
structure EachI (w : World) (v : Value) (lv : Int) (k : Nat) (W : World) : Prop where
  want : Boxed W w.heap.size 22 v
  leave : Boxed W (w.heap.size + 1) 3 (.int .i64 lv)
  res : Boxed W (w.heap.size + 2) 4 (.bool false)
  cnt : Boxed W (w.heap.size + 3) 3 (.int .i64 (k : Int))
  below : Below w.heap.size w W
  big : w.heap.size + 4 < W.heap.size

def EachC (h : Nat) (_ : World) (g : Nat) : Prop := g < h + 4

theorem EachI.keep {w W W' : World} {v : Value} {lv : Int} {k : Nat} (h : EachI w v lv k W) (hk : Keeps (EachC w.heap.size W) W W') : EachI w v lv k W' :=
  ⟨(hk.block _ (by unfold EachC; omega)).trans h.want, (hk.block _ (by unfold EachC; omega)).trans h.leave, (hk.block _ (by unfold EachC; omega)).trans h.res, (hk.block _ (by unfold EachC; omega)).trans h.cnt, h.below.trans (hk.below fun g e => by unfold EachC; omega), Nat.lt_of_lt_of_le h.big hk.size⟩

theorem EachI.next {w W : World} {v : Value} {lv : Int} {k q : Nat} (h : EachI w v lv k W) : EachI w v lv (k + 1) ((W.drewN q).setCell ⟨w.heap.size + 3, 0, none⟩ (.int .i64 ((k : Int) + 1))) ∧ ∀ N : Nat → Prop, (∀ g, N g → g ≠ w.heap.size + 3) → Stp N (EachC w.heap.size) W ((W.drewN q).setCell ⟨w.heap.size + 3, 0, none⟩ (.int .i64 ((k : Int) + 1))) := by
  have hs : ∀ g, g ≠ w.heap.size + 3 → ((W.drewN q).setCell ⟨w.heap.size + 3, 0, none⟩ (.int .i64 ((k : Int) + 1))).heap[g]? = W.heap[g]? := fun g e => heap_setCell_other _ _ _ _ e
  have hK : Keeps (· ≠ w.heap.size + 3) W ((W.drewN q).setCell ⟨w.heap.size + 3, 0, none⟩ (.int .i64 ((k : Int) + 1))) := ⟨rfl, rfl, rfl, by simp, hs⟩
  refine ⟨⟨(hs _ (by omega)).trans h.want, (hs _ (by omega)).trans h.leave, (hs _ (by omega)).trans h.res, ?_, h.below.trans (hK.below fun g e => by omega), by simpa using h.big⟩, fun N hN => ⟨hK.mono fun g e => ?_, fun g e => .inl e⟩⟩
  · exact Boxed.set (W := W.drewN q) (.int .i64 ((k : Int) + 1)) (show Boxed (W.drewN q) (w.heap.size + 3) 3 _ from h.cnt)
  · rcases e with e | ⟨_, e⟩
    · exact hN g e
    · unfold EachC at e; omega

theorem EachI.ends {w W : World} {v : Value} {lv : Int} {k D : Nat} (h : EachI w v lv k W) (hD : w.heap.size + 4 < D) (hK : W.heap[D]? = some (.deferred (some []))) :
    (W.setCell ⟨w.heap.size + 2, 0, none⟩ (.bool true)).heap[D]? = some (.deferred (some [])) ∧
    ((W.setCell ⟨w.heap.size + 2, 0, none⟩ (.bool true)).putObj D (.deferred none)).cell? ⟨w.heap.size + 2, 0, none⟩ = some (.bool true) ∧
    Below w.heap.size w ((W.setCell ⟨w.heap.size + 2, 0, none⟩ (.bool true)).putObj D (.deferred none)) := by
  have e1 := Boxed.set (.bool true) h.res
  have hp := Keeps.put (W.setCell ⟨w.heap.size + 2, 0, none⟩ (.bool true)) D (.deferred none)
  refine ⟨(heap_setCell_other _ _ _ _ (show D ≠ w.heap.size + 2 by omega)).trans hK, ?_, ?_⟩
  · exact Boxed.cell (t := 4) ((hp.block _ (show w.heap.size + 2 ≠ D by omega)).trans e1)
  · exact (h.below.setCell (p := ⟨w.heap.size + 2, 0, none⟩) (by show _ ≤ w.heap.size + 2; omega) _).trans (hp.below fun g e => by show g ≠ D; omega)

theorem pre_get {L pre : List Tk} {x : Tk} (h : pre ++ [x] <+: L) : L[pre.length]? = some x ∧ pre.length < L.length := by
  obtain ⟨r, rfl⟩ := h
  constructor
  · rw [List.append_assoc, List.getElem?_append_right (Nat.le_refl _)]; simp
  · simp

set_option maxHeartbeats 4000000 in
theorem lawEach_any (s : ByteArray) (A : Option Addr) (c : Nat) (lv : Int) (w : World) (hg : sgn w) (hmax : s.size ≤ maxLen) (hT : TksAt w A (eachL s)) (hL : (eachL s).length ≤ 8002) :
    Calls Tryd.prog 13 #[.string s, .slice A (eachL s).length c, .int .i64 lv] w fun e w' => e = .returned (.bool true) ∧ Below w.heap.size w w' := by
  have heqf := run_eql_seqk
  refine (callsIn_wide (n := 3)).1 (callsIn_of_wp_marks Tryd.func13 rfl trivial ?_ rfl)
  simp only [Tryd.ntmps13, List.size_toArray, List.length_cons, List.length_nil, Nat.reduceAdd, Nat.reduceSub, Array.replicate_succ, Array.replicate_zero, List.push_toArray, List.append_toArray, List.nil_append, List.cons_append]
  refine wpIn_wide.2 ?_
  obtain ⟨L, heL⟩ : ∃ L, eachL s = L := ⟨_, rfl⟩
  rw [heL] at hT hL ⊢
  have HeL := Lib.hid heL
  clear heL
  go_wp2_with (first
    | (go_at_call 19; refine (tokEach_any s _).mono ?_; go_must (rintro e w1 ⟨rfl, rfl⟩))
    | fail)
  obtain ⟨W, hW⟩ : ∃ W, (((((w.alloc (.cells #[.slice A L.length c] 22)).alloc (.cells #[.int .i64 lv] 3)).alloc (.cells #[.bool false] 4)).alloc (.cells #[.int .i64 0] 3)).alloc (.cells #[.string s] 9)) = W := ⟨_, rfl⟩
  have hB : Below w.heap.size w W := by rw [← hW]; exact (((((Below.refl _ _).alloc (Nat.le_refl _) _).alloc (by simp) _).alloc (by simp; omega) _).alloc (by simp; omega) _).alloc (by simp; omega) _
  have p0 : Boxed W w.heap.size 22 (.slice A L.length c) := by
    rw [← hW]
    exact (Below.heap_alloc _ _ _ (by simp; omega)).trans ((Below.heap_alloc _ _ _ (by simp; omega)).trans ((Below.heap_alloc _ _ _ (by simp; omega)).trans ((Below.heap_alloc _ _ _ (by simp)).trans (heap_alloc_new _ _))))
  have p1 : Boxed W (w.heap.size + 1) 3 (.int .i64 lv) := by
    rw [← hW]
    refine (Below.heap_alloc _ _ _ (by simp)).trans ((Below.heap_alloc _ _ _ (by simp)).trans ((Below.heap_alloc _ _ _ (by simp)).trans ?_))
    rw [show w.heap.size + 1 = (w.alloc (.cells #[.slice A L.length c] 22)).heap.size by simp]
    exact heap_alloc_new _ _
  have p2 : Boxed W (w.heap.size + 2) 4 (.bool false) := by
    rw [← hW]
    refine (Below.heap_alloc _ _ _ (by simp)).trans ((Below.heap_alloc _ _ _ (by simp)).trans ?_)
    rw [show w.heap.size + 2 = ((w.alloc (.cells #[.slice A L.length c] 22)).alloc (.cells #[.int .i64 lv] 3)).heap.size by simp]
    exact heap_alloc_new _ _
  have p3 : Boxed W (w.heap.size + 3) 3 (.int .i64 0) := by
    rw [← hW]
    refine (Below.heap_alloc _ _ _ (by simp)).trans ?_
    rw [show w.heap.size + 3 = (((w.alloc (.cells #[.slice A L.length c] 22)).alloc (.cells #[.int .i64 lv] 3)).alloc (.cells #[.bool false] 4)).heap.size by simp]
    exact heap_alloc_new _ _
  have p4 : Boxed W (w.heap.size + 4) 9 (.string s) := by
    rw [← hW, show w.heap.size + 4 = ((((w.alloc (.cells #[.slice A L.length c] 22)).alloc (.cells #[.int .i64 lv] 3)).alloc (.cells #[.bool false] 4)).alloc (.cells #[.int .i64 0] 3)).heap.size by simp]
    exact heap_alloc_new _ _
  have hz : w.heap.size + 4 < W.heap.size := p4.lt
  have hgW := sgn_below hg hB
  have hgl := hg.2
  rw [hW]
  clear hW
  refine (wpIn_wide (n := 3)).1 ?_
  refine range_law (F := Fence.wide) (n := 3) (w0 := W) rfl rfl (gf := 29) (lb := #[.pointer (some ⟨w.heap.size + 4, 0, none⟩)]) rfl trivial (enters_of Tryd.func29 (by kernel_rfl) rfl)
    (fun m => each1_seq m (w.heap.size + 4) s W p4.cell hgW hmax)
    (Below.refl _ _) (fun _ => rfl) (fun g e => by rcases e with rfl | rfl; exact hz; exact hgW.2)
    (EachC w.heap.size) (fun pre W => EachI w (.slice A L.length c) lv pre.length W) (fun cd pre W => cd = .exit 0 ∧ EachI w (.slice A L.length c) lv pre.length W ∧ (pre.length : Int) = lv)
    (fun _ _ _ h1 hk => ⟨h1.keep hk, fun _ e => e⟩) (fun _ _ h1 g e => by have := h1.big; unfold EachC at e; omega) (fun _ _ _ _ h1 hk => ⟨⟨h1.1, h1.2.1.keep hk, h1.2.2⟩, fun _ e => e⟩)
    ⟨p0, p1, p2, p3, hB, hz⟩
    (fun pre x a' W => EachI w (.slice A L.length c) lv pre.length W ∧ ∃ Bx, W.heap[Bx]? = some (.cells #[.int .i64 (x.kind : Int), .string x.txt, .int .i64 (x.pos : Int)] 38) ∧ w.heap.size + 4 < Bx ∧ a' = { tmps := #[.string s, .slice A L.length c, .int .i64 lv, undef, .pointer (some ⟨w.heap.size, 0, none⟩), .pointer (some ⟨w.heap.size + 1, 0, none⟩), .pointer (some ⟨w.heap.size + 1 + 1, 0, none⟩), .pointer (some ⟨w.heap.size + 1 + 1 + 1, 0, none⟩), .func (.func 29) #[] #[.pointer (some ⟨w.heap.size + 1 + 1 + 1 + 1, 0, none⟩)], .pointer (some ⟨Bx, 0, none⟩), .string s, .func (.func 29) #[] #[.pointer (some ⟨w.heap.size + 1 + 1 + 1 + 1, 0, none⟩)], .func (.func 29) #[] #[.pointer (some ⟨w.heap.size + 1 + 1 + 1 + 1, 0, none⟩)], .bool false, .func (.func 29) #[] #[.pointer (some ⟨w.heap.size + 1 + 1 + 1 + 1, 0, none⟩)], x.v, undef, undef, undef, undef, undef, undef, undef, undef, undef, undef, undef, undef, undef, undef, undef, undef, undef, undef, undef, undef, undef, undef, undef, undef, undef, undef], defers := [] }) ?hAx ?assign ?body ?done ?stop
  case hAx =>
    rintro pre x a' W l r o ⟨h1, Bx, hbx, h3, rfl⟩ hl hr hn
    have hK := Keeps.put W l o
    exact ⟨fun g e => e, h1.keep (hK.mono fun g e e' => hn (e' ▸ e)), Bx, put_blockk hbx hr, h3, rfl⟩
  case assign =>
    rintro l m pre x W' K h1 _ hfx hK
    simp only [Tk.v]
    gi_wp2
    have hKa := Keeps.alloc W' (.cells #[.int .i64 (x.kind : Int), .string x.txt, .int .i64 (x.pos : Int)] 38)
    have hbg := h1.big
    have hgs := h1.below.size
    exact hK _ _ ⟨hKa.mono fun g e => e.elim (fun e => by rcases e with rfl | rfl; exact hbg; exact Nat.lt_of_lt_of_le hgl hgs) (fun e => e.1), fun g e => .inl e⟩ ⟨h1.keep (hKa.mono fun g e => by unfold EachC at e; omega), W'.heap.size, heap_alloc_new _ _, hbg, rfl⟩
  case body =>
    rintro l m pre x a' W' hsp ⟨h1, Bx, hbx, h3, rfl⟩
    rw [HeL.out] at hsp
    obtain ⟨hx, hxl⟩ := pre_get hsp
    obtain ⟨k, hk⟩ : ∃ k, pre.length = k := ⟨_, rfl⟩
    have Hk1 := Lib.hid (show (pre ++ [x]).length = k + 1 by simp [hk])
    rw [hk] at h1 hx hxl
    clear hk
    obtain ⟨g, rfl, hgl2, c0, c1, c2⟩ := hT k x hx
    obtain ⟨b0, b1, b2, _, _, _⟩ := cells_tk hbx
    have d0 := cell_on h1.below hgl2 c0
    have d1 := cell_on h1.below hgl2 c1
    have d2 := cell_on h1.below hgl2 c2
    have e0 := h1.want.cell
    have e1 := h1.leave.cell
    have e3 := (show Boxed W' (w.heap.size + 1 + 1 + 1) 3 _ from h1.cnt).cell
    have f3 := (show Boxed W' (w.heap.size + 1 + 1 + 1) 3 _ from h1.cnt).frozen
    have hneq := run_neq_tok
    have hs : tkB (x.kind : Int) x.txt (x.pos : Int) (x.kind : Int) x.txt (x.pos : Int) = true := by simp [tkB]
    have hge : ((k : Int) ≥ (L.length : Int)) = False := by simp; omega
    have H1 := Lib.hid h1
    have hnx := Lib.hid (fun q => EachI.next (q := q) h1)
    clear h1 hT hx hsp c0 c1 c2 hbx
    gi_wp2
    refine wpIn_region_rd rfl (by kernel_rfl) (by kernel_rfl) (by kernel_rfl) ?_
    repeat (quiet_step_in (fail))
    refine wpQuietIn_nil ?_
    rintro _ ⟨nq, rfl⟩
    by_cases hlv : (k : Int) + 1 = lv
    · have hlv' : ((k : Int) + 1 == lv) = true := by simp [hlv]
      have Hlv := Lib.hid hlv
      clear hlv
      gi_wp2
      have hlv := Hlv.out
      obtain ⟨h5, h6⟩ := hnx.out nq
      refine ⟨⟨rfl, ?_, ?_⟩, h6 _ ?_⟩
      · show EachI _ _ _ (pre ++ [x]).length _
        rw [Hk1.out]; exact h5
      · rw [Hk1.out]; omega
      · rintro g (rfl | rfl) <;> omega
    · have hlv' : ((k : Int) + 1 == lv) = false := by simp [hlv]
      gi_wp2
      obtain ⟨h5, h6⟩ := hnx.out nq
      refine ⟨?_, h6 _ ?_⟩
      · show EachI _ _ _ (pre ++ [x]).length _
        rw [Hk1.out]; exact h5
      · rintro g (rfl | rfl) <;> omega
  case done =>
    rintro D ys W' hD hS h1 hK
    rw [HeL.out] at hS
    subst hS
    obtain ⟨q1, q2, q3⟩ := h1.ends (D := D) (by omega) hK
    have e0 := h1.want.cell
    have e1 := h1.leave.cell
    have e2 := (show Boxed W' (w.heap.size + 1 + 1) 4 _ from h1.res).cell
    have f2 := (show Boxed W' (w.heap.size + 1 + 1) 4 _ from h1.res).frozen
    have e3 := (show Boxed W' (w.heap.size + 1 + 1 + 1) 3 _ from h1.cnt).cell
    gi_wp2
    go_wp2
    refine ⟨by simp, .inl ⟨_, _, rfl, run_takeDeferred q1, ?_⟩⟩
    exact ⟨.bool true, by simp [results, Tryd.results13, go_sem, q2], rfl, q3⟩
  case stop =>
    rintro D cd pre W' hD hS ⟨rfl, h1, hlv⟩ hK
    obtain ⟨q1, q2, q3⟩ := h1.ends (D := D) (by omega) hK
    have e0 := h1.want.cell
    have e1 := h1.leave.cell
    have e2 := (show Boxed W' (w.heap.size + 1 + 1) 4 _ from h1.res).cell
    have f2 := (show Boxed W' (w.heap.size + 1 + 1) 4 _ from h1.res).frozen
    have e3 := (show Boxed W' (w.heap.size + 1 + 1 + 1) 3 _ from h1.cnt).cell
    by_cases hn : (pre.length : Int) = (L.length : Int)
    · have hn' : ((pre.length : Int) == (L.length : Int)) = true := by simp [hn]
      gi_wp2
      go_wp2
      refine ⟨by simp, .inl ⟨_, _, rfl, run_takeDeferred q1, ?_⟩⟩
      exact ⟨.bool true, by simp [results, Tryd.results13, go_sem, q2], rfl, q3⟩
    · have hn' : ((pre.length : Int) == (L.length : Int)) = false := by simp [hn]
      have hl' : ((pre.length : Int) == lv) = true := by simp [hlv]
      gi_wp2
      go_wp2
      refine ⟨by simp, .inl ⟨_, _, rfl, run_takeDeferred q1, ?_⟩⟩
      exact ⟨.bool true, by simp [results, Tryd.results13, go_sem, q2], rfl, q3⟩

end Go.Proofs.YtkpkhnaflohjpaaDoor

/- Token: the law TokenEach. -/

namespace Go.Proofs.YtkpkhnaflohjpaaDoor

open Go Go.RowKit Go.Shelf
set_option maxRecDepth 100000

theorem each_len (s : ByteArray) : (eachL s).length ≤ 8002 := by
  unfold eachL
  by_cases h : 8000 < s.size
  · rw [if_pos h]; simp
  · rw [if_neg h]
    have := (toks_all s 0 (Nat.zero_le _)).2.1
    omega

set_option maxHeartbeats 2000000 in
theorem TokenEach_any (s : ByteArray) (lv : Int) (w : World) (hg : sgn w) (hs : s.size ≤ maxLen) : Calls Tryd.prog 4 #[.string s, .int .i64 lv] w fun e w' => e = .returned (.bool true) ∧ Below w.heap.size w w' := by
  have hl := Lib.hid (each_len s)
  have C1 : Hid (Calls Tryd.prog 12 #[.string s] w fun e w' => ∃ A c, e = .returned (.slice A (eachL s).length c) ∧ Hid (TksAt w' A (eachL s)) ∧ Below w.heap.size w w') := Lib.hid ((rtEach_any s w hs).mono fun e w' h => by
    obtain ⟨v, he, hR, hb⟩ := h
    obtain ⟨A, c, rfl, hT⟩ := tks_of hR
    exact ⟨A, c, he, Lib.hid hT, hb⟩)
  have C2 : Hid (∀ (w : World) (A : Option Addr) (c : Nat) (lv : Int), sgn w → TksAt w A (eachL s) → Calls Tryd.prog 13 #[.string s, .slice A (eachL s).length c, .int .i64 lv] w fun e w' => e = .returned (.bool true) ∧ Below w.heap.size w w') := Lib.hid fun w A c lv hg hT => lawEach_any s A c lv w hg hs hT hl.out
  obtain ⟨L, hL⟩ : ∃ L, eachL s = L := ⟨_, rfl⟩
  rw [hL] at C1 C2
  have Hg := Lib.hid hg
  clear hg hL hl
  go_enter Tryd.func4, Tryd.ntmps4
  go_wp2_with (first
    | (go_at_call 12; (with_reducible refine C1.out.mono ?_); go_must (rintro e w1 ⟨A, c, rfl, hT1, hb1⟩; have hg1 := Lib.hid (sgn_below Hg.out hb1)))
    | (go_at_call 13; (with_reducible refine (C2.out _ _ _ _ hg1.out hT1.out).mono ?_); go_must (rintro e w2 ⟨rfl, hb2⟩; have hg2 := Lib.hid (sgn_below hg1.out hb2); have hT2 := Lib.hid (hT1.out.on hb2); have hB2 := hb1.trans (hb2.mono hb1.size)))
    | (go_at_call 13; (with_reducible refine (C2.out _ _ _ _ hg2.out hT2.out).mono ?_); go_must (rintro e w3 ⟨rfl, hb3⟩; have hg3 := Lib.hid (sgn_below hg2.out hb3); have hB3 := hB2.trans (hb3.mono hB2.size)))
    | (go_at_call 11; (with_reducible refine (tokWakes_any _ hg3.out).mono ?_); go_must (rintro e w4 ⟨rfl, hb4⟩))
    | fail)
  go_ret
  exact ⟨rfl, hB3.trans (hb4.mono hB3.size)⟩

end Go.Proofs.YtkpkhnaflohjpaaDoor

