import Derived.Test.YtbchignbndgigaaP17Z9
import Derived.Test.YtbchignbndgigaaP17Z1
import Derived.Deep.RegionHeld3
/- A region that draws its order, whose operations make memory and call (RX), with operations behind them that wait for all ahead of them: stores. -/

namespace Go.Proofs.Ytbchignbndgigaa

open Go Go.RowKit

/-- The operations behind the others, one after another. -/
def tailWp (P : Program) (Q : Exit → Act → World → Prop) : List Oper → Act → World → Prop
  | [], a, w => Q .normal a w
  | o :: l, a, w => o.wp P a w (tailWp P Q l) Q

def waits (o : Oper) (j : Nat) : Bool := o.after.any fun e => Region.binds .any e && e.on == j

/-- Each of the later ones waits for all ahead of it. -/
def lateF (l l2 : List Oper) : Bool :=
  l2.zipIdx.all fun (o, i) => o.guard.isNone && o.after.all (fun e => !Region.binds .any e || decide (e.on < l.length + i)) &&
    ((List.range l.length).all fun j => waits o j || l.zipIdx.any fun (o', j') => waits o j' && waits o' j) && ((List.range i).all fun k => waits o (l.length + k))

structure LateF (l l2 : List Oper) : Prop where
  gd : ∀ (i : Nat) (o : Oper), l2[i]? = some o → o.guard = none
  ac : ∀ (i : Nat) (o : Oper), l2[i]? = some o → ∀ e ∈ o.after, Region.binds .any e = true → e.on < l.length + i
  al : ∀ (i : Nat) (o : Oper), l2[i]? = some o → ∀ j, j < l.length → waits o j = true ∨ ∃ (j' : Nat) (o' : Oper), l[j']? = some o' ∧ waits o j' = true ∧ waits o' j = true
  sq : ∀ (i : Nat) (o : Oper), l2[i]? = some o → ∀ k, k < i → waits o (l.length + k) = true

theorem lateF_spec {l l2 : List Oper} (h : lateF l l2 = true) : LateF l l2 := by
  unfold lateF at h
  rw [List.all_eq_true] at h
  have hz : ∀ (i : Nat) (o : Oper), l2[i]? = some o → (o, i) ∈ l2.zipIdx := fun i o e => by
    rw [List.mem_zipIdx_iff_getElem?]; exact e
  refine ⟨fun i o e => ?_, fun i o e x hx hb => ?_, fun i o e j hj => ?_, fun i o e k hk => ?_⟩
  all_goals
    have h1 := h _ (hz i o e)
    simp only [Bool.and_eq_true] at h1
    obtain ⟨⟨⟨h1, h2⟩, h3⟩, h4⟩ := h1
  · simpa using h1
  · have := Array.all_eq_true_iff_forall_mem.1 h2 x hx
    simpa [hb] using this
  · have := List.all_eq_true.1 h3 j (List.mem_range.2 hj)
    rw [Bool.or_eq_true] at this
    rcases this with h | h
    · exact .inl h
    · obtain ⟨⟨o', j'⟩, hm, h⟩ := List.any_eq_true.1 h
      rw [List.mem_zipIdx_iff_getElem?] at hm
      simp only [Bool.and_eq_true] at h
      exact .inr ⟨j', o', hm, h.1, h.2⟩
  · exact List.all_eq_true.1 h4 k (List.mem_range.2 hk)

theorem waits_spec {o : Oper} {j : Nat} (h : waits o j = true) : ∃ e ∈ o.after, Region.binds .any e = true ∧ e.on = j := by
  obtain ⟨e, he, hb⟩ := Array.any_eq_true'.1 h
  simp only [Bool.and_eq_true, beq_iff_eq] at hb
  exact ⟨e, he, hb.1, hb.2⟩

/-- One operation, with what is said of all slots together (R). -/
def stepG (P : Program) (R : Act → World → Prop) (n : Nat) (Fs : List Fct) (a0 : Act) (W : World) (o : Oper) (ds : List (Nat × Option Nat)) (p : Fct) : Prop :=
  o.guard = none ∧ ∀ (a : Act) (w : World), Below W.heap.size W w → a.tmps.size = n → lookF Fs a0 a w ds → R a w → leaves P (fun v w' => Below w.heap.size w w' ∧ p.p v w' ∧ R (a.put o.dst v) w') ((execOp a.eval o).run P w)

def stepsG (P : Program) (R : Act → World → Prop) (n : Nat) (Fs : List Fct) (a0 : Act) (W : World) : List Oper → List (List (Nat × Option Nat)) → List Fct → Prop
  | o :: l, ds :: dl, p :: pl => stepG P R n Fs a0 W o ds p ∧ stepsG P R n Fs a0 W l dl pl
  | [], [], [] => True
  | _, _, _ => False

theorem stepsG_get {P : Program} {R : Act → World → Prop} {n : Nat} {Fs : List Fct} {a0 : Act} {W : World} : ∀ {l : List Oper} {dl : List (List (Nat × Option Nat))} {pl : List Fct}, stepsG P R n Fs a0 W l dl pl → ∀ (i : Nat) (o : Oper), l[i]? = some o → ∃ ds p, dl[i]? = some ds ∧ pl[i]? = some p ∧ stepG P R n Fs a0 W o ds p
  | o :: l, ds :: dl, p :: pl, h, 0, o', ho => by
    simp at ho
    subst ho
    exact ⟨ds, p, rfl, rfl, h.1⟩
  | o :: l, ds :: dl, p :: pl, h, i + 1, o', ho => stepsG_get h.2 i o' (by simpa using ho)
  | [], [], [], _, i, o', ho => by simp at ho
  | [], [], _ :: _, h, _, _, _ => h.elim
  | [], _ :: _, _, h, _, _, _ => h.elim
  | _ :: _, [], _, h, _, _, _ => h.elim
  | _ :: _, _ :: _, [], h, _, _, _ => h.elim

/-- What holds however far the first part is. -/
structure InvG (R : Act → World → Prop) (n : Nat) (Fs : List Fct) (l l2 : List Oper) (a0 : Act) (W : World) (listed : Array Bool) (a : Act) (w : World) : Prop where
  ls : listed.size = (l ++ l2).toArray.size
  nl : ∀ j, l.length ≤ j → listed.getD j false = false
  cl : ∀ j o, l[j]? = some o → listed.getD j false = true → ∀ e ∈ o.after, Region.binds .any e = true → listed.getD e.on false = true
  bl : Below W.heap.size W w
  sz : a.tmps.size = n
  df : a.defers = a0.defers
  ot : ∀ t, (∀ o ∈ l, o.dst ≠ some t) → a.tmps[t]? = a0.tmps[t]?
  fs : ∀ j o d, l[j]? = some o → o.dst = some d → listed.getD j false = true → (Fs.getD j Fct.any).p (a.eval (.tmp d)) w
  rr : R a w

structure InvH (P : Program) (Q : Exit → Act → World → Prop) (l l2 : List Oper) (j : Nat) (listed : Array Bool) (a : Act) (w : World) : Prop where
  ls : listed.size = (l ++ l2).toArray.size
  jl : j ≤ l2.length
  yes : ∀ i, i < l.length + j → listed.getD i false = true
  no : ∀ i, l.length + j ≤ i → listed.getD i false = false
  go : tailWp P Q (l2.drop j) a w

section

variable {P : Program} {Q : Exit → Act → World → Prop}

theorem getD_put {listed : Array Bool} {i j : Nat} (h : i < listed.size) : (listed.setIfInBounds i true).getD j false = true ↔ (j = i ∨ listed.getD j false = true) := by
  by_cases e : j = i
  · subst e; simp [h]
  · rw [getD_set_ne false (Ne.symm e)]; simp [e]

theorem wp_region_facts2 {id : Nat} {a : Act} {w : World} {l l2 : List Oper} (R : Act → World → Prop) (n : Nat) (dl : List (List (Nat × Option Nat))) (Fs : List Fct) (hm : P.follows .mixedOrders = true) (hk : kindF n l dl = true) (hL : lateF l l2 = true) (hn : a.tmps.size = n)
    (hR : R a w.drew) (h : stepsG P R n Fs a w.drew l dl Fs) (hf : ∀ w', Below w.drew.heap.size w.drew w' → finF (fun a' w'' => R a' w'' → tailWp P Q l2 a' w'') w' l Fs a) : (Code.region id (l ++ l2).toArray true).wp P Q a w := by
  have K := kindF_spec hk
  have L := lateF_spec hL
  have hlen : l.length = Fs.length := by
    have : ∀ (l : List Oper) (dl : List (List (Nat × Option Nat))) (pl : List Fct), stepsG P R n Fs a w.drew l dl pl → l.length = pl.length := by
      intro l
      induction l with
      | nil =>
        intro dl pl h
        match dl, pl, h with
        | [], [], _ => rfl
        | [], _ :: _, h => exact h.elim
        | _ :: _, _, h => exact h.elim
      | cons o l ih =>
        intro dl pl h
        match dl, pl, h with
        | ds :: dl, p :: pl, h => simp only [List.length_cons]; rw [ih dl pl h.2]
        | [], _, h => exact h.elim
        | _ :: _, [], h => exact h.elim
    exact this l dl _ h
  have hop1 : ∀ i, i < l.length → (l ++ l2).toArray[i]? = l[i]? := fun i hi => by
    rw [List.getElem?_toArray, List.getElem?_append_left hi]
  have hop2 : ∀ i, l.length ≤ i → (l ++ l2).toArray[i]? = l2[i - l.length]? := fun i hi => by
    rw [List.getElem?_toArray, List.getElem?_append_right hi]
  have htot : (l ++ l2).toArray.size = l.length + l2.length := by simp
  -- what all listed gives
  have hfinish : ∀ listed a' w', InvG R n Fs l l2 a w.drew listed a' w' → (∀ j, j < l.length → listed.getD j false = true) → tailWp P Q l2 a' w' := fun listed a' w' hI hall => by
    refine (finF_of (Fs := Fs) (Q := fun a' w'' => R a' w'' → tailWp P Q l2 a' w'') (w := w') (a := a') l Fs a (hf w' hI.bl) hI.df (by rw [hI.sz, hn]) hlen hI.ot fun i o p d e1 e2 e3 => ⟨by rw [hI.sz]; exact K.dn i o d e1 e3, ?_⟩) hI.rr
    have := hI.fs i o d e1 e3 (hall i (List.getElem?_eq_some_iff.1 e1).1)
    simpa [e2] using this
  -- a later one that is ready: it is the next one
  have htail : ∀ (j : Nat) listed a' w' i, InvH P Q l l2 j listed a' w' → i ∈ Region.ready .any (l ++ l2).toArray listed → wpOp P (l ++ l2).toArray Q i (fun a'' w'' => ∃ j', InvH P Q l l2 j' (listed.setIfInBounds i true) a'' w'') a' w' := by
    intro j listed a' w' i hI hi
    obtain ⟨h0, o, ho, haf⟩ := mem_ready.1 hi
    have hlt : i < listed.size := by rw [hI.ls]; exact (Array.getElem?_eq_some_iff.1 ho).1
    have hi0 : listed.getD i false = false := by simpa [hlt] using h0
    have hge : l.length + j ≤ i := by
      rcases Nat.lt_or_ge i (l.length + j) with h1 | h1
      · rw [hI.yes i h1] at hi0; cases hi0
      · exact h1
    have ho2 : l2[i - l.length]? = some o := by rw [← hop2 i (by omega)]; exact ho
    have heq : i = l.length + j := by
      rcases Nat.eq_or_lt_of_le hge with e | e
      · exact e.symm
      · exfalso
        obtain ⟨x, hx, hb, hon⟩ := waits_spec (L.sq (i - l.length) o ho2 j (by omega))
        have := haf x hx hb
        rw [hon, hI.no _ (Nat.le_refl _)] at this
        cases this
    subst heq
    rw [show l.length + j - l.length = j by omega] at ho2
    have hjl := (List.getElem?_eq_some_iff.1 ho2).1
    have hdrop : l2.drop j = o :: l2.drop (j + 1) := by
      rw [List.drop_eq_getElem_cons hjl]
      congr 1
      exact (List.getElem?_eq_some_iff.1 ho2).2
    have hgo := hI.go
    rw [hdrop] at hgo
    unfold wpOp
    simp only [ho]
    have hw : Region.wanted o (yielded (l ++ l2).toArray a'.tmps) = true := by
      unfold Region.wanted
      rw [L.gd j o ho2]
    simp only [hw, if_true]
    refine .inl (Oper.wp_mono (fun a'' w'' h1 => ⟨j + 1, by simpa using hI.ls, by omega, fun i' hi' => ?_, fun i' hi' => ?_, h1⟩) hgo)
    · rw [getD_put hlt]
      by_cases e : i' = l.length + j
      · exact .inl e
      · exact .inr (hI.yes i' (by omega))
    · rw [getD_set_ne false (by omega)]
      exact hI.no i' (by omega)
  have hstepA : ∀ listed a' w' i, InvG R n Fs l l2 a w.drew listed a' w' → i ∈ Region.ready .any (l ++ l2).toArray listed → i < l.length → wpOp P (l ++ l2).toArray Q i (fun a'' w'' => InvG R n Fs l l2 a w.drew (listed.setIfInBounds i true) a'' w'') a' w' := by
    intro listed a' w' i hI hi hil
    obtain ⟨h0, o, ho, haf⟩ := mem_ready.1 hi
    have ho' : l[i]? = some o := by rw [← hop1 i hil]; exact ho
    have hlt0 : i < listed.size := by rw [hI.ls, htot]; omega
    obtain ⟨ds, p, hds, hp, hst⟩ := stepsG_get h i o ho'
    have hpF : Fs.getD i Fct.any = p := by simp [hp]
    have hnew : ∀ v w'', Below w'.heap.size w' w'' → p.p v w'' → R (a'.put o.dst v) w'' → InvG R n Fs l l2 a w.drew (listed.setIfInBounds i true) (a'.put o.dst v) w'' := fun v w'' hb hpv hRv => by
      refine ⟨by simpa using hI.ls, fun j hj => ?_, fun j o1 hj hl e he hbd => ?_, hI.bl.trans (hb.mono hI.bl.size), ?_, ?_, fun t ht => ?_, fun j o1 d hj hd hl => ?_, hRv⟩
      · rw [getD_set_ne false (by omega)]; exact hI.nl j hj
      · rw [getD_put hlt0] at hl ⊢
        rcases hl with rfl | hl
        · obtain rfl : o1 = o := by rw [ho'] at hj; injection hj with hj; exact hj.symm
          exact .inr (haf e he hbd)
        · exact .inr (hI.cl j o1 hj hl e he hbd)
      · rw [← hI.sz]; cases o.dst <;> simp [Act.put]
      · rw [← hI.df]; cases o.dst <;> simp [Act.put]
      · rw [← hI.ot t ht]
        cases hd : o.dst with
        | none => rfl
        | some d =>
          have hne : d ≠ t := fun e => ht o (List.mem_of_getElem? ho') (by rw [hd, e])
          simp [Act.put, Array.getElem?_setIfInBounds_ne hne]
      · by_cases hji : j = i
        · subst hji
          obtain rfl : o1 = o := by rw [ho'] at hj; injection hj with hj; exact hj.symm
          rw [hpF, hd]
          have hlt : d < a'.tmps.size := by rw [hI.sz]; exact K.dn j o1 d hj hd
          have : (a'.put (some d) v).eval (.tmp d) = v := by simp [Act.put, Act.eval, hlt]
          rw [this]
          exact hpv
        · have hl' : listed.getD j false = true := by rwa [getD_set_ne false (Ne.symm hji)] at hl
          have h1 := (Fs.getD j Fct.any).st (hI.fs j o1 d hj hd hl') hb
          have : (a'.put o.dst v).eval (.tmp d) = a'.eval (.tmp d) := by
            cases hd' : o.dst with
            | none => rfl
            | some d' =>
              refine Act.eval_put fun x hx e => ?_
              injection hx with hx
              injection e with e
              exact hji (K.un j o1 i o d hj ho' hd (by rw [hd', hx, e]))
          rw [this]
          exact h1
    have hlisted : ∀ j o1 d, l[j]? = some o1 → o1.dst = some d → (∃ e ∈ o.after, Region.binds .any e = true ∧ e.on = j) → (Fs.getD j Fct.any).p (a'.eval (.tmp d)) w' := fun j o1 d hj hd ⟨e, he, hb, hej⟩ =>
      hI.fs j o1 d hj hd (by rw [← hej]; exact haf e he hb)
    unfold wpOp
    simp only [ho]
    obtain ⟨hgn, hgo⟩ := hst
    have hw : Region.wanted o (yielded (l ++ l2).toArray a'.tmps) = true := by
      unfold Region.wanted
      rw [hgn]
    simp only [hw, if_true]
    refine .inl (leaves_wp (hgo a' w' hI.bl hI.sz (lookF_of (l := l) (o := o) ds fun t s hts => ?_) hI.rr) fun v w'' ⟨hb, hpv, hRv⟩ => hnew v w'' hb hpv hRv)
    have h3 := K.lk i o ds t s ho' hds hts
    cases s with
    | none =>
      have := hI.ot t h3
      simp only [Act.eval, Array.getD_eq_getD_getElem?, this]
    | some j =>
      obtain ⟨o1, hj, hd, he⟩ := h3
      exact hlisted j o1 t hj hd he
  -- a later one is ready: all of the first part is listed
  have hallA : ∀ listed a' w' i, InvG R n Fs l l2 a w.drew listed a' w' → i ∈ Region.ready .any (l ++ l2).toArray listed → l.length ≤ i → ∀ j, j < l.length → listed.getD j false = true := fun listed a' w' i hI hi hge j hj => by
    obtain ⟨h0, o, ho, haf⟩ := mem_ready.1 hi
    have ho2 : l2[i - l.length]? = some o := by rw [← hop2 i hge]; exact ho
    rcases L.al _ o ho2 j hj with h1 | ⟨j', o', hj', h1, h2⟩
    · obtain ⟨e, he, hb, hon⟩ := waits_spec h1
      rw [← hon]; exact haf e he hb
    · obtain ⟨e, he, hb, hon⟩ := waits_spec h1
      obtain ⟨e2, he2, hb2, hon2⟩ := waits_spec h2
      have h3 := haf e he hb
      rw [hon] at h3
      rw [← hon2]; exact hI.cl j' o' hj' h3 e2 he2 hb2
  have hAH : ∀ listed a' w', InvG R n Fs l l2 a w.drew listed a' w' → (∀ j, j < l.length → listed.getD j false = true) → InvH P Q l l2 0 listed a' w' := fun listed a' w' hI hall =>
    ⟨hI.ls, Nat.zero_le _, fun i hi => hall i (by omega), fun i hi => hI.nl i (by omega), by rw [List.drop_zero]; exact hfinish listed a' w' hI hall⟩
  refine wp_region_any hm (wpAny_inv (fun listed a' w' => InvG R n Fs l l2 a w.drew listed a' w' ∨ ∃ j, InvH P Q l l2 j listed a' w') (fun _ _ _ hI => hI.elim (fun h => h.ls) fun ⟨_, h⟩ => h.ls) (fun listed a' w' i hI hi => ?_) (fun listed a' w' hI hr => ?_) (fun listed hs hc => ?_) _ _ a w.drew ?_ (.inl ⟨by simp, fun j hj => ?_, fun j o hj hl => ?_, Below.refl _ _, hn, rfl, fun _ _ => rfl, fun j o d hj hd hl => ?_, hR⟩))
  · rcases hI with hI | ⟨j, hI⟩
    · rcases Nat.lt_or_ge i l.length with hil | hge
      · exact wpOp_mono (fun _ _ h => .inl h) (hstepA listed a' w' i hI hi hil)
      · exact wpOp_mono (fun _ _ h => .inr h) (htail 0 listed a' w' i (hAH listed a' w' hI (hallA listed a' w' i hI hi hge)) hi)
    · exact wpOp_mono (fun _ _ h => .inr h) (htail j listed a' w' i hI hi)
  · have hH : ∃ j, InvH P Q l l2 j listed a' w' := by
      rcases hI with hI | h
      · refine ⟨0, hAH listed a' w' hI ?_⟩
        have hall : ∀ j o, l[j]? = some o → listed.getD j false = true := by
          intro j
          induction j using Nat.strongRecOn with
          | _ j ih =>
            intro o hj
            cases hl : listed.getD j false with
            | true => rfl
            | false =>
              have hjl := (List.getElem?_eq_some_iff.1 hj).1
              have : j ∈ Region.ready .any (l ++ l2).toArray listed := by
                refine mem_ready.2 ⟨?_, o, by rw [hop1 j hjl]; exact hj, fun e he hb => ?_⟩
                · have hlt : j < listed.size := by rw [hI.ls, htot]; omega
                  simpa [hlt] using hl
                · have h1 := K.ac j o hj e he hb
                  exact ih e.on h1 _ (List.getElem?_eq_getElem (by omega))
              rw [hr] at this
              cases this
        exact fun j hj => hall j _ (List.getElem?_eq_getElem hj)
      · exact h
    obtain ⟨j, hI⟩ := hH
    by_cases hjl : j < l2.length
    · exfalso
      have : l.length + j ∈ Region.ready .any (l ++ l2).toArray listed := by
        refine mem_ready.2 ⟨?_, l2[j], by rw [hop2 _ (by omega), show l.length + j - l.length = j by omega, List.getElem?_eq_getElem hjl], fun e he hb => ?_⟩
        · have hlt : l.length + j < listed.size := by rw [hI.ls, htot]; omega
          have := hI.no (l.length + j) (Nat.le_refl _)
          simpa [hlt] using this
        · exact hI.yes e.on (L.ac j _ (List.getElem?_eq_getElem hjl) e he hb)
      rw [hr] at this
      cases this
    · have hgo := hI.go
      rw [List.drop_eq_nil_of_le (by omega)] at hgo
      exact hgo
  · refine List.eq_nil_iff_forall_not_mem.2 fun i hi => ?_
    obtain ⟨h0, o, ho, _⟩ := mem_ready.1 hi
    have hlt : i < listed.size := by rw [hs]; exact (Array.getElem?_eq_some_iff.1 ho).1
    have hf' : listed.toList[i]'(by simpa using hlt) = false := by simpa [hlt] using h0
    have : 0 < listed.toList.count false := List.count_pos_iff.2 (by rw [← hf']; exact List.getElem_mem _)
    omega
  · simp
  · rw [Array.getD_eq_getD_getElem?, Array.getElem?_replicate]
    split <;> rfl
  · exfalso
    rw [Array.getD_eq_getD_getElem?, Array.getElem?_replicate] at hl
    split at hl <;> cases hl
  · exfalso
    rw [Array.getD_eq_getD_getElem?, Array.getElem?_replicate] at hl
    split at hl <;> cases hl

/-- Boxed, so that no tactic looks inside. -/
structure TailS (P : Program) (Q : Exit → Act → World → Prop) (l : List Oper) (a : Act) (w : World) : Prop where
  go : tailWp P Q l a w

structure FinS (Q : Act → World → Prop) (w : World) (l : List Oper) (pl : List Fct) (a : Act) : Prop where
  go : finF Q w l pl a

theorem finF_mono {Q Q' : Act → World → Prop} (h : ∀ a w, Q a w → Q' a w) {w : World} : ∀ (l : List Oper) (pl : List Fct) (a : Act), finF Q w l pl a → finF Q' w l pl a
  | [], pl, a, hf => by unfold finF at *; exact h _ _ hf
  | o :: l, [], a, hf => by unfold finF at *; exact h _ _ hf
  | o :: l, p :: pl, a, hf => by
    unfold finF at *
    cases hd : o.dst with
    | none => rw [hd] at hf; exact finF_mono h l pl a hf
    | some d => rw [hd] at hf; exact fun v hv => finF_mono h l pl _ (hf v hv)

/-- The same, parted at a place. -/
theorem wp_region_facts3 {id : Nat} {a : Act} {w : World} {L : List Oper} (k : Nat) (R : Act → World → Prop) (n : Nat) (dl : List (List (Nat × Option Nat))) (Fs : List Fct) (hm : P.follows .mixedOrders = true) (hk : kindF n (L.take k) dl = true) (hL : lateF (L.take k) (L.drop k) = true) (hn : a.tmps.size = n)
    (hR : R a w.drew) (h : stepsG P R n Fs a w.drew (L.take k) dl Fs) (hf : ∀ w', Below w.drew.heap.size w.drew w' → FinS (fun a' w'' => R a' w'' → TailS P Q (L.drop k) a' w'') w' (L.take k) Fs a) : (Code.region id L.toArray true).wp P Q a w := by
  have := wp_region_facts2 (id := id) R n dl Fs hm hk hL hn hR h (fun w' hb => finF_mono (fun _ _ h1 h2 => (h1 h2).go) _ _ _ (hf w' hb).go)
  rwa [List.take_append_drop] at this

end

theorem FinS.some {Q : Act → World → Prop} {w : World} {o : Oper} {l : List Oper} {p : Fct} {pl : List Fct} {a : Act} {d : Nat} (hd : o.dst = some d) (h : ∀ v, p.p v w → FinS Q w l pl (a.put (some d) v)) : FinS Q w (o :: l) (p :: pl) a :=
  ⟨by unfold finF; rw [hd]; exact fun v hv => (h v hv).go⟩

theorem FinS.nil {Q : Act → World → Prop} {w : World} {a : Act} (h : Q a w) : FinS Q w [] [] a :=
  ⟨by unfold finF; exact h⟩

end Go.Proofs.Ytbchignbndgigaa

/- The document's own: ranks, highest (of a row of numbers). -/

namespace Go.Proofs.Ytbchignbndgigaa

open Go.RowKit
set_option maxRecDepth 100000

/-- Is another one higher? -/
def overI (p : List Int) (i k : Nat) : Bool := decide (k ≠ i) && decide (p.getD i 0 < p.getD k 0)

def highB (p : List Int) (i : Nat) : Bool := (List.range p.length).all fun k => !overI p i k

theorem highB_no {p : List Int} {i k : Nat} (hk : k < p.length) (h : overI p i k = true) : highB p i = false := by
  unfold highB
  rw [List.all_eq_false]
  exact ⟨k, List.mem_range.2 hk, by rw [h]; decide⟩

theorem highB_yes {p : List Int} {i : Nat} (h : ∀ j, j < p.length → overI p i j = false) : highB p i = true := by
  unfold highB
  rw [List.all_eq_true]
  intro j hj
  rw [h j (List.mem_range.1 hj)]; rfl

theorem all_next {f : Nat → Bool} {k : Nat} (h : ∀ j, j < k → f j = false) (hk : f k = false) : ∀ j, j < k + 1 → f j = false := by
  intro j hj
  by_cases e : j = k
  · subst e; exact hk
  · exact h j (by omega)

theorem getD_of {p : List Int} {i : Nat} {x : Int} (h : p[i]? = some x) : p.getD i 0 = x := by rw [List.getD_eq_getElem?_getD, h]; rfl

theorem drewN_two (w : World) (a b : Nat) : (w.drewN a).drewN b = w.drewN (a + b) := by simp

set_option maxHeartbeats 1000000 in
theorem refHighest_any (p : List Int) (i : Nat) (hi : i < p.length) (A : Option Addr) (c : Nat) (w : World) (hA : Ints w w.heap.size A p) :
    Calls Try.prog 69 #[.slice A p.length c, .int .i64 (i : Int)] w fun e w' => e = .returned (.bool (highB p i)) ∧ Below w.heap.size w w' := by
  obtain ⟨y, hy⟩ : ∃ y, p[i]? = some y := ⟨_, List.getElem?_eq_getElem hi⟩
  obtain ⟨b, off, rfl, hb, hci⟩ := hA.get hy
  have HA := Lib.hid hA
  have Hy := Lib.hid hy
  have hlen := hA.len
  clear hA hy
  go_enter Try.func69, Try.ntmps69
  go_wp2
  go_loopw [5] (fun i' wr => ∃ k q : Nat, k ≤ p.length ∧ i' = .int .i64 (k : Int) ∧ wr = w.drewN q ∧ Hid (∀ j, j < k → overI p i j = false)) (fun i' _ => p.length - (intOf i').toNat)
  case atStart => exact ⟨0, 0, Nat.zero_le _, rfl, rfl, fun j h0 => absurd h0 (Nat.not_lt_zero _)⟩
  case round =>
    obtain ⟨k, q, hk, rfl, rfl, HB⟩ := hrel
    by_cases hlt : k < p.length
    · obtain ⟨x, hx⟩ : ∃ x, p[k]? = some x := ⟨_, List.getElem?_eq_getElem hlt⟩
      obtain ⟨b', off', hAA, _, hck⟩ := HA.out.get hx
      simp only [Option.some.injEq, Addr.mk.injEq, and_true] at hAA
      obtain ⟨hA1, hA2⟩ := hAA
      rw [← hA1, ← hA2] at hck
      have Hx := Lib.hid hx
      clear hx hA1 hA2
      by_cases hki : k = i
      · have hov := Lib.hid (show overI p i k = false by unfold overI; rw [hki]; simp)
        have Hki := Lib.hid hki
        have g1 : ((k : Int) != (i : Int)) = false := by rw [hki]; simp
        have g2 : (k != i) = false := by rw [hki]; simp
        clear hki
        go_wp2
        go_quiet (fail)
        go_wp2
        go_roundw
        case rel => exact ⟨k + 1, q + nq, by omega, by go_num, rfl, all_next HB.out hov.out⟩
        case measure => simp [intOf]; omega
      · have g1 : ((k : Int) != (i : Int)) = true := by simp; omega
        have g2 : (k != i) = true := by simpa using hki
        by_cases hgt : y < x
        · have hfin := Lib.hid (highB_no hlt (show overI p i k = true by unfold overI; rw [getD_of Hx.out, getD_of Hy.out]; simp [hki, hgt]))
          go_wp2
          go_quiet (fail)
          go_wp2
          go_ret
          exact ⟨ret_bool hfin.out.symm, bl_drewN (bl_drewN (Below.refl _ _) _) _⟩
        · have hov := Lib.hid (show overI p i k = false by unfold overI; rw [getD_of Hx.out, getD_of Hy.out]; simp [hgt])
          go_wp2
          go_quiet (fail)
          go_wp2
          go_roundw
          case rel => exact ⟨k + 1, q + nq, by omega, by go_num, rfl, all_next HB.out hov.out⟩
          case measure => simp [intOf]; omega
    · obtain rfl : k = p.length := by omega
      have hfin := Lib.hid (highB_yes HB.out)
      go_wp2
      go_ret
      exact ⟨ret_bool hfin.out.symm, bl_drewN (Below.refl _ _) _⟩

/-- Is something wrong with number i? -/
def badR (p : List Int) (i : Nat) : Bool := (decide (0 < i) && decide (p.getD i 0 ≤ p.getD 0 0)) || (List.range i).any fun k => decide (p.getD i 0 = p.getD k 0)

def rankB (p : List Int) (n : Nat) : Bool := decide (p.length = n) && (List.range n).all fun i => !badR p i

theorem rankB_no {p : List Int} {n i : Nat} (hi : i < n) (h : badR p i = true) : rankB p n = false := by
  unfold rankB
  rw [Bool.and_eq_false_iff]; right
  rw [List.all_eq_false]
  exact ⟨i, List.mem_range.2 hi, by rw [h]; decide⟩

theorem rankB_yes {p : List Int} {n : Nat} (hl : p.length = n) (h : ∀ j, j < n → badR p j = false) : rankB p n = true := by
  unfold rankB
  rw [Bool.and_eq_true, List.all_eq_true]
  exact ⟨decide_eq_true hl, fun j hj => by rw [h j (List.mem_range.1 hj)]; rfl⟩

theorem badR_same {p : List Int} {i k : Nat} (hk : k < i) (h : p.getD i 0 = p.getD k 0) : badR p i = true := by
  unfold badR
  rw [Bool.or_eq_true]; right
  rw [List.any_eq_true]
  exact ⟨k, List.mem_range.2 hk, decide_eq_true h⟩

theorem badR_first {p : List Int} {i : Nat} (hk : 0 < i) (h : p.getD i 0 ≤ p.getD 0 0) : badR p i = true := by
  unfold badR
  rw [Bool.or_eq_true]; left
  simp [hk]; simpa using h

theorem badR_no {p : List Int} {i : Nat} (h0 : ¬ (0 < i ∧ p.getD i 0 ≤ p.getD 0 0)) (h : ∀ j, j < i → decide (p.getD i 0 = p.getD j 0) = false) : badR p i = false := by
  unfold badR
  rw [Bool.or_eq_false_iff, List.any_eq_false]
  refine ⟨?_, fun j hj => by rw [h j (List.mem_range.1 hj)]; decide⟩
  rw [← Bool.decide_and]
  exact decide_eq_false h0

set_option maxHeartbeats 1000000 in
theorem refRanks_any (p : List Int) (n : Nat) (A : Option Addr) (c : Nat) (w : World) (hA : Ints w w.heap.size A p) :
    Calls Try.prog 68 #[.slice A p.length c, .int .i64 (n : Int)] w fun e w' => e = .returned (.bool (rankB p n)) ∧ Below w.heap.size w w' := by
  have hlen := hA.len
  by_cases hn : ¬ p.length = n
  · have g1 : ((p.length : Int) != (n : Int)) = true := by simp; omega
    have g2 : (p.length != n) = true := by simpa using hn
    have hfin := Lib.hid (show rankB p n = false by unfold rankB; rw [decide_eq_false hn]; rfl)
    clear hA
    go_enter Try.func68, Try.ntmps68
    go_wp2
    go_ret
    exact ⟨ret_bool hfin.out.symm, Below.refl _ _⟩
  · have hn := Decidable.not_not.1 hn
    subst hn
    have HA := Lib.hid hA
    clear hA
    go_enter Try.func68, Try.ntmps68
    go_wp2
    go_loopw [5] (fun i' wr => ∃ k q : Nat, k ≤ p.length ∧ i' = .int .i64 (k : Int) ∧ wr = w.drewN q ∧ Hid (∀ j, j < k → badR p j = false)) (fun i' _ => p.length - (intOf i').toNat)
    case atStart => exact ⟨0, 0, Nat.zero_le _, rfl, rfl, fun j h0 => absurd h0 (Nat.not_lt_zero _)⟩
    case round =>
      obtain ⟨k, q, hk, rfl, rfl, HB⟩ := hrel
      by_cases hlt : k < p.length
      · obtain ⟨x, hx⟩ : ∃ x, p[k]? = some x := ⟨_, List.getElem?_eq_getElem hlt⟩
        obtain ⟨z, hz⟩ : ∃ z, p[0]? = some z := ⟨_, List.getElem?_eq_getElem (by omega)⟩
        obtain ⟨b, off, rfl, _, hc⟩ := HA.out.ad (by omega)
        have hck := hc k x hx
        have hc0 := hc 0 z hz
        rw [Nat.add_zero] at hc0
        have Hc := Lib.hid hc
        have Hx := Lib.hid hx
        have Hz := Lib.hid hz
        clear hx hz hc
        by_cases hbad : 0 < k ∧ x ≤ z
        · obtain ⟨g0, g1⟩ := hbad
          have hfin := Lib.hid (rankB_no hlt (badR_first g0 (by rw [getD_of Hx.out, getD_of Hz.out]; exact g1)))
          go_wp2
          go_quiet (fail)
          go_wp2
          go_ret
          exact ⟨ret_bool hfin.out.symm, bl_drewN (bl_drewN (Below.refl _ _) _) _⟩
        · have Hbad : Hid (¬ (0 < k ∧ p.getD k 0 ≤ p.getD 0 0)) := Lib.hid (by rw [getD_of Hx.out, getD_of Hz.out]; exact hbad)
          by_cases hk0 : 0 < k
          · have hxz : ¬ x ≤ z := fun h => hbad ⟨hk0, h⟩
            clear hbad
            go_wp2
            go_quiet (fail)
            go_wp2
            go_loopw [6] (fun k' wx => ∃ m q2 : Nat, m ≤ k ∧ k' = .int .i64 (m : Int) ∧ wx = w.drewN q2 ∧ Hid (∀ j, j < m → decide (p.getD k 0 = p.getD j 0) = false)) (fun k' _ => k - (intOf k').toNat)
            case atStart => exact ⟨0, q + nq, Nat.zero_le _, rfl, drewN_two _ _ _, Lib.hid fun j h0 => absurd h0 (Nat.not_lt_zero _)⟩
            case round =>
              obtain ⟨m, q2, hm, rfl, rfl, HD⟩ := hrel
              by_cases hmk : m < k
              · obtain ⟨y, hy⟩ : ∃ y, p[m]? = some y := ⟨_, List.getElem?_eq_getElem (by omega)⟩
                have hcm := Hc.out m y hy
                have Hy := Lib.hid hy
                clear hy
                by_cases hxy : x = y
                · have hfin := Lib.hid (rankB_no hlt (badR_same hmk (by rw [getD_of Hx.out, getD_of Hy.out]; exact hxy)))
                  have g5 : (x == y) = true := by simpa using hxy
                  clear hxy
                  go_wp2
                  go_quiet (fail)
                  go_wp2
                  go_ret
                  exact ⟨ret_bool hfin.out.symm, bl_drewN (bl_drewN (Below.refl _ _) _) _⟩
                · have g5 : (x == y) = false := by simpa using hxy
                  have hfin := Lib.hid (show decide (p.getD k 0 = p.getD m 0) = false by rw [getD_of Hx.out, getD_of Hy.out]; simpa using hxy)
                  go_wp2
                  go_quiet (fail)
                  go_wp2
                  go_roundw
                  case rel => exact ⟨m + 1, q2 + nq, by omega, by go_num, rfl, Lib.hid (all_next HD.out hfin.out)⟩
                  case measure => simp [intOf]; omega
              · obtain rfl : m = k := by omega
                have hfin := Lib.hid (badR_no Hbad.out HD.out)
                go_wp2
                go_roundw
                case rel => exact ⟨m + 1, q2, by omega, by go_num, rfl, Lib.hid (all_next HB.out hfin.out)⟩
                case measure => simp [intOf]; omega
          · clear hbad
            go_wp2
            go_quiet (fail)
            go_wp2
            go_loopw [6] (fun k' wx => ∃ m q2 : Nat, m ≤ k ∧ k' = .int .i64 (m : Int) ∧ wx = w.drewN q2 ∧ Hid (∀ j, j < m → decide (p.getD k 0 = p.getD j 0) = false)) (fun k' _ => k - (intOf k').toNat)
            case atStart => exact ⟨0, q + nq, Nat.zero_le _, rfl, drewN_two _ _ _, Lib.hid fun j h0 => absurd h0 (Nat.not_lt_zero _)⟩
            case round =>
              obtain ⟨m, q2, hm, rfl, rfl, HD⟩ := hrel
              by_cases hmk : m < k
              · obtain ⟨y, hy⟩ : ∃ y, p[m]? = some y := ⟨_, List.getElem?_eq_getElem (by omega)⟩
                have hcm := Hc.out m y hy
                have Hy := Lib.hid hy
                clear hy
                by_cases hxy : x = y
                · have hfin := Lib.hid (rankB_no hlt (badR_same hmk (by rw [getD_of Hx.out, getD_of Hy.out]; exact hxy)))
                  have g5 : (x == y) = true := by simpa using hxy
                  clear hxy
                  go_wp2
                  go_quiet (fail)
                  go_wp2
                  go_ret
                  exact ⟨ret_bool hfin.out.symm, bl_drewN (bl_drewN (Below.refl _ _) _) _⟩
                · have g5 : (x == y) = false := by simpa using hxy
                  have hfin := Lib.hid (show decide (p.getD k 0 = p.getD m 0) = false by rw [getD_of Hx.out, getD_of Hy.out]; simpa using hxy)
                  go_wp2
                  go_quiet (fail)
                  go_wp2
                  go_roundw
                  case rel => exact ⟨m + 1, q2 + nq, by omega, by go_num, rfl, Lib.hid (all_next HD.out hfin.out)⟩
                  case measure => simp [intOf]; omega
              · obtain rfl : m = k := by omega
                have hfin := Lib.hid (badR_no Hbad.out HD.out)
                go_wp2
                go_roundw
                case rel => exact ⟨m + 1, q2, by omega, by go_num, rfl, Lib.hid (all_next HB.out hfin.out)⟩
                case measure => simp [intOf]; omega
      · obtain rfl : k = p.length := by omega
        have hfin := Lib.hid (rankB_yes rfl HB.out)
        go_wp2
        go_ret
        exact ⟨ret_bool hfin.out.symm, bl_drewN (Below.refl _ _) _⟩

end Go.Proofs.Ytbchignbndgigaa

/- The plain check of a signature. -/

namespace Go.Proofs.Ytbchignbndgigaa

open Go.RowKit

/-- What is wrong at place i (from 1 on): 0 if nothing. -/
def errAt (l : List Sm) (i : Nat) : Int :=
  match l[i]? with
  | none => 0
  | some x => if oneI x.name x.arity ≠ 0 then oneI x.name x.arity else if atI l x < i then 113 else 0

def scanI (l : List Sm) : Int := match (List.range l.length).find? (fun j => decide (1 ≤ j) && !decide (errAt l j = 0)) with
  | some j => errAt l j
  | none => 0

def checkI (l : List Sm) : Int := if 96 < l.length then 3 else if l[0]? ≠ some truthSm then 110 else scanI l

theorem scan_hit {l : List Sm} {k : Nat} (hk : 1 ≤ k) (hl : k < l.length) (hv : errAt l k ≠ 0) (h : ∀ j, 1 ≤ j → j < k → errAt l j = 0) : scanI l = errAt l k := by
  have : (List.range l.length).find? (fun j => decide (1 ≤ j) && !decide (errAt l j = 0)) = some k := by
    rw [List.find?_range_eq_some]
    refine ⟨by simp [hk, hv], List.mem_range.2 hl, fun j hj => ?_⟩
    by_cases h1 : 1 ≤ j
    · simp [h j h1 hj]
    · simp [h1]
  simp [scanI, this]

theorem scan_miss {l : List Sm} (h : ∀ j, 1 ≤ j → j < l.length → errAt l j = 0) : scanI l = 0 := by
  have : (List.range l.length).find? (fun j => decide (1 ≤ j) && !decide (errAt l j = 0)) = none := by
    rw [List.find?_eq_none]
    intro j hj
    by_cases h1 : 1 ≤ j
    · simp [h j h1 (List.mem_range.1 hj)]
    · simp [h1]
  simp [scanI, this]

theorem err_one {l : List Sm} {k : Nat} {y : Sm} (hy : l[k]? = some y) (h : oneI y.name y.arity ≠ 0) : errAt l k = oneI y.name y.arity := by simp [errAt, hy, h]

theorem err_same {l : List Sm} {k : Nat} {y : Sm} (hy : l[k]? = some y) (h : oneI y.name y.arity = 0) (ha : atI l y < k) : errAt l k = 113 := by simp [errAt, hy, h, ha]

theorem err_ok {l : List Sm} {k : Nat} {y : Sm} (hy : l[k]? = some y) (h : oneI y.name y.arity = 0) (ha : ¬ atI l y < k) : errAt l k = 0 := by simp [errAt, hy, h, ha]

theorem scan_at {l : List Sm} {k : Nat} {v : Int} (hk : 1 ≤ k) (h : ∀ j, 1 ≤ j → j < k → errAt l j = 0) (he : errAt l k = v) (hv : v ≠ 0) : scanI l = v := by
  refine (scan_hit hk ?_ (by rw [he]; exact hv) h).trans he
  rcases Nat.lt_or_ge k l.length with h1 | h1
  · exact h1
  · exact absurd (by simpa [errAt, List.getElem?_eq_none h1] using he.symm) hv

theorem err_before {l : List Sm} {k : Nat} (h : ∀ j, 1 ≤ j → j < k → errAt l j = 0) (hk : errAt l k = 0) : ∀ j, 1 ≤ j → j < k + 1 → errAt l j = 0 := by
  intro j h1 hlt
  by_cases e : j = k
  · subst e; exact hk
  · exact h j h1 (by omega)

set_option maxHeartbeats 400000 in
theorem refCheck_any (A : Option Addr) (n c : Nat) (l : List Sm) (w : World) (h : Syms w w.heap.size A n l) (hn : n * 32 ≤ 140737488351232) :
    Calls Try.prog 67 #[.agg #[.slice A n c]] w fun e w' => e = .returned (.int .i64 (checkI l)) ∧ Below w.heap.size w w' := by
  have hneq := run_neq_sym
  by_cases h96 : 96 < n
  · have hf := Lib.hid (show checkI l = 3 by simp only [checkI]; rw [if_pos (by rw [h.len]; exact h96)])
    go_enter Try.func67, Try.ntmps67
    go_wp2
    go_ret
    exact ⟨ret_int hf.out.symm, (Below.refl _ _).alloc (Nat.le_refl _) _⟩
  · rcases Nat.eq_zero_or_pos n with h0 | h0
    · have hf := Lib.hid (show checkI l = 110 by
        have : l = [] := List.eq_nil_of_length_eq_zero (h.len.trans h0)
        subst this; rfl)
      subst h0
      go_enter Try.func67, Try.ntmps67
      go_wp2
      go_quiet (fail)
      go_wp2
      go_ret
      exact ⟨ret_int hf.out.symm, bl_drewN ((Below.refl _ _).alloc (Nat.le_refl _) _) _⟩
    · have h0' : (((n : Nat) : Int) == 0) = false := beq_eq_false_iff_ne.2 (by omega)
      go_enter Try.func67, Try.ntmps67
      go_wp2
      obtain ⟨W, hW⟩ : ∃ W, w.alloc (.cells #[.slice A n c] 36) = W := ⟨_, rfl⟩
      have hWB : Below w.heap.size w W := by rw [← hW]; exact (Below.refl _ _).alloc (Nat.le_refl _) _
      have hz : w.heap.size + 1 = W.heap.size := by rw [← hW]; clear hW; simp
      have x1 : W.cell? ⟨w.heap.size, 0, none⟩ = some (.slice A n c) := by rw [← hW]; clear hW; go_simp
      rw [hW]
      have g := h.below hWB
      have hok := Lib.hid h.ok
      clear hW h
      have hlt0 : w.heap.size < W.heap.size := by omega
      clear hz
      obtain ⟨b, off, rfl, hb0, hc⟩ := g.ad h0
      have hb : b < W.heap.size := Nat.lt_trans hb0 hlt0
      obtain ⟨y, hy⟩ : ∃ y, l[0]? = some y := ⟨_, List.getElem?_eq_getElem (by rw [g.len]; exact h0)⟩
      obtain ⟨c1, c2, c3⟩ := hc 0 y hy
      simp only [Nat.zero_mul, Nat.add_zero] at c1 c2 c3
      have Hy := Lib.hid hy
      clear hy
      have Hc := Lib.hid hc
      clear hc
      by_cases hyt : y = truthSm
      · have hs := smB_true hyt
        have hf := Lib.hid (show checkI l = scanI l by
          simp only [checkI]; rw [if_neg (by rw [g.len]; exact h96), if_neg (by rw [Hy.out, hyt]; simp)])
        clear hyt
        go_region_held3 (fun w' => w'.cell? ⟨w.heap.size, 0, none⟩ = some (.slice (some ⟨b, off, none⟩) n c) ∧ w'.cell? ⟨b, off, none⟩ = some (.string y.name) ∧ w'.cell? ⟨b, off + 1, none⟩ = some (.int .i64 y.arity) ∧ w'.cell? ⟨b, off + 2, none⟩ = some (.bool y.pred) ∧ Below W.heap.size W w')
          (first | (go_keep; done) | exact ⟨x1, c1, c2, c3, (Below.refl _ _).drew⟩ | (have hB' : Below W.heap.size W w' := ⟨hbT.os, hbT.tape, hbT.output, hbT.size, hbT.block⟩; exact ⟨cell_on hB' hlt0 x1, cell_on hB' hb c1, cell_on hB' hb c2, cell_on hB' hb c3, hB'⟩))
          (first | (go_at_call 85; refine (Truth_any _).mono ?_; rintro e w' ⟨rfl, hbT⟩))
        have hB1 : Below W.heap.size W w' := ⟨hbT.os, hbT.tape, hbT.output, hbT.size, hbT.block⟩
        clear hs c1 c2 c3 Hy hbT
        go_wp2
        go_loopw [3] (fun i wr => ∃ k : Nat, 1 ≤ k ∧ k ≤ n ∧ i = .int .i64 k ∧ Below W.heap.size W wr ∧ Hid (∀ j, 1 ≤ j → j < k → errAt l j = 0)) (fun i _ => n - (intOf i).toNat)
        case atStart => exact ⟨1, Nat.le_refl _, h0, rfl, hB1, fun j h1 h2 => by omega⟩
        case round =>
          clear hB1
          obtain ⟨k, hk1, hk, rfl, hBr, HA⟩ := hrel
          have z1 := cell_on hBr hlt0 x1
          by_cases hlt : k < n
          · obtain ⟨y, hy⟩ : ∃ y, l[k]? = some y := ⟨_, List.getElem?_eq_getElem (by rw [g.len]; exact hlt)⟩
            obtain ⟨c1, c2, c3⟩ := Hc.out k y hy
            have d1 := cell_on hBr hb c1
            have d2 := cell_on hBr hb c2
            have d3 := cell_on hBr hb c3
            have hyok : y.Ok := hok.out y (List.mem_of_getElem? hy)
            have Hy := Lib.hid hy
            clear hy
            by_cases he : oneI y.name y.arity = 0
            · have he' : (oneI y.name y.arity != 0) = false := by simp [he]
              have He := Lib.hid he
              clear he
              go_wp2_with (first | (go_at_call 86; refine (One_any y _ hyok).mono ?_; rintro e w1 ⟨rfl, hb1⟩) | fail)
              have hB2 := hBr.trans (hb1.mono hBr.size)
              clear d1 d2 d3 z1
              have z1 := cell_on hB2 hlt0 x1
              have d1 := cell_on hB2 hb c1
              have d2 := cell_on hB2 hb c2
              have d3 := cell_on hB2 hb c3
              have hbw : b < w1.heap.size := Nat.lt_of_lt_of_le hb hB2.size
              have hlt1 : w.heap.size < w1.heap.size := Nat.lt_of_lt_of_le hlt0 hB2.size
              have g1 : Syms w1 w.heap.size (some ⟨b, off, none⟩) n l := g.below (hB2.mono (Nat.le_of_lt hlt0))
              have h64 : n ≤ 9223372036854775807 := by omega
              have G1 := Lib.hid (And.intro g1 h64)
              clear g1 h64
              by_cases ha : atI l y < k
              · go_region_held3 (fun w' => w'.cell? ⟨w.heap.size, 0, none⟩ = some (.slice (some ⟨b, off, none⟩) n c) ∧ w'.cell? ⟨b, off + k * 3, none⟩ = some (.string y.name) ∧ w'.cell? ⟨b, off + k * 3 + 1, none⟩ = some (.int .i64 y.arity) ∧ w'.cell? ⟨b, off + k * 3 + 2, none⟩ = some (.bool y.pred) ∧ Below w1.heap.size w1 w')
                  (first | (go_keep; done) | exact ⟨z1, d1, d2, d3, (Below.refl _ _).drew⟩ | (have hB' : Below w1.heap.size w1 w' := ⟨hbT.os, hbT.tape, hbT.output, hbT.size, hbT.block⟩; exact ⟨cell_on hB' hlt1 z1, cell_on hB' hbw d1, cell_on hB' hbw d2, cell_on hB' hbw d3, hB'⟩))
                  (first | (go_at_call 87; refine (At_any _ _ _ w.heap.size l y _ (G1.out.1.drewN 1) (Nat.le_of_lt hlt1) G1.out.2).mono ?_; rintro e w' ⟨rfl, hbT⟩))
                go_wp2
                go_ret
                exact ⟨ret_int (hf.out.trans (scan_at hk1 HA.out (err_same Hy.out He.out ha) (by decide))).symm, hWB.trans ((hB2.trans (Below.mono ⟨hbT.os, hbT.tape, hbT.output, hbT.size, hbT.block⟩ hB2.size)).mono (Nat.le_of_lt hlt0))⟩
              · go_region_held3 (fun w' => w'.cell? ⟨w.heap.size, 0, none⟩ = some (.slice (some ⟨b, off, none⟩) n c) ∧ w'.cell? ⟨b, off + k * 3, none⟩ = some (.string y.name) ∧ w'.cell? ⟨b, off + k * 3 + 1, none⟩ = some (.int .i64 y.arity) ∧ w'.cell? ⟨b, off + k * 3 + 2, none⟩ = some (.bool y.pred) ∧ Below w1.heap.size w1 w')
                  (first | (go_keep; done) | exact ⟨z1, d1, d2, d3, (Below.refl _ _).drew⟩ | (have hB' : Below w1.heap.size w1 w' := ⟨hbT.os, hbT.tape, hbT.output, hbT.size, hbT.block⟩; exact ⟨cell_on hB' hlt1 z1, cell_on hB' hbw d1, cell_on hB' hbw d2, cell_on hB' hbw d3, hB'⟩))
                  (first | (go_at_call 87; refine (At_any _ _ _ w.heap.size l y _ (G1.out.1.drewN 1) (Nat.le_of_lt hlt1) G1.out.2).mono ?_; rintro e w' ⟨rfl, hbT⟩))
                go_wp2
                go_roundw
                case rel => exact ⟨k + 1, by omega, by omega, by go_num, hB2.trans (Below.mono ⟨hbT.os, hbT.tape, hbT.output, hbT.size, hbT.block⟩ hB2.size), err_before HA.out (err_ok Hy.out He.out (Int.not_lt.2 ha))⟩
                case measure => simp [intOf]; omega
            · have he' : (oneI y.name y.arity != 0) = true := by simp [he]
              have He := Lib.hid he
              clear he
              go_wp2_with (first | (go_at_call 86; refine (One_any y _ hyok).mono ?_; rintro e w1 ⟨rfl, hb1⟩) | fail)
              go_ret
              exact ⟨ret_int (hf.out.trans (scan_at hk1 HA.out (err_one Hy.out He.out) He.out)).symm, hWB.trans ((hBr.trans (hb1.mono hBr.size)).mono (Nat.le_of_lt hlt0))⟩
          · have : k = n := by omega
            subst this
            go_wp2
            go_ret
            exact ⟨ret_int (hf.out.trans (scan_miss (fun j h1 h2 => HA.out j h1 (by rw [← g.len]; exact h2)))).symm, hWB.trans (hBr.mono (by omega))⟩
      · have hs := smB_false hyt
        have hf := Lib.hid (show checkI l = 110 by
          simp only [checkI]; rw [if_neg (by rw [g.len]; exact h96), if_pos (by rw [Hy.out]; simpa using hyt)])
        clear hyt
        go_region_held3 (fun w' => w'.cell? ⟨w.heap.size, 0, none⟩ = some (.slice (some ⟨b, off, none⟩) n c) ∧ w'.cell? ⟨b, off, none⟩ = some (.string y.name) ∧ w'.cell? ⟨b, off + 1, none⟩ = some (.int .i64 y.arity) ∧ w'.cell? ⟨b, off + 2, none⟩ = some (.bool y.pred) ∧ Below W.heap.size W w')
          (first | (go_keep; done) | exact ⟨x1, c1, c2, c3, (Below.refl _ _).drew⟩ | (have hB' : Below W.heap.size W w' := ⟨hbT.os, hbT.tape, hbT.output, hbT.size, hbT.block⟩; exact ⟨cell_on hB' hlt0 x1, cell_on hB' hb c1, cell_on hB' hb c2, cell_on hB' hb c3, hB'⟩))
          (first | (go_at_call 85; refine (Truth_any _).mono ?_; rintro e w' ⟨rfl, hbT⟩))
        have hB1 : Below W.heap.size W w' := ⟨hbT.os, hbT.tape, hbT.output, hbT.size, hbT.block⟩
        go_wp2
        go_ret
        exact ⟨ret_int hf.out.symm, hWB.trans (hB1.mono (Nat.le_of_lt hlt0))⟩

end Go.Proofs.Ytbchignbndgigaa

