import Derived.Test.YtbchignbndgigaaP17Z1
import Derived.Test.YtbchignbndgigaaP17Z8
import Derived.Test.YtbchignbndgigaaP17Z7
import Derived.ChangeSlices
import Derived.Test.YtbchignbndgigaaRows
import Derived.ProofKit
import Derived.Below
import Derived.Carry
/- A region that draws its order, whose operations make memory and call: what each leaves is said by a fact that stays as memory grows; each operation is looked at once, out of the facts of those that it waits for. -/

namespace Go.Proofs.Ytbchignbndgigaa

open Go Go.RowKit

/-- A fact on a value that stays as memory grows. -/
structure Fct where
  p : Value → World → Prop
  st : ∀ {v : Value} {w w' : World}, p v w → Below w.heap.size w w' → p v w'

def Fct.eq (v : Value) : Fct := ⟨fun x _ => x = v, fun h _ => h⟩

def Fct.any : Fct := ⟨fun _ _ => True, fun h _ => h⟩

/-- What is asked of what an operation comes to. -/
def leaves (P : Program) (K : Value → World → Prop) : Result Next → Prop
  | .ok (.value u) w' => K u w'
  | .ok .skip w' => K undef w'
  | .ok (.enter f args) w' => Calls P f args w' fun e w'' => ∃ v, e = .returned v ∧ K v w''
  | _ => False

/-- What is known of the slots that an operation looks at. -/
def lookF (Fs : List Fct) (a0 a : Act) (w : World) : List (Nat × Option Nat) → Prop
  | [] => True
  | (t, none) :: r => a.eval (.tmp t) = a0.eval (.tmp t) ∧ lookF Fs a0 a w r
  | (t, some j) :: r => (Fs.getD j Fct.any).p (a.eval (.tmp t)) w ∧ lookF Fs a0 a w r

/-- One operation: its guard lets it by, and it leaves what is said; or its guard does not. -/
def stepF (P : Program) (Fs : List Fct) (a0 : Act) (W : World) (o : Oper) (ds : List (Nat × Option Nat)) (p : Fct) : Prop :=
  ((∀ j want, o.guard = some (j, want) → ∀ v w, (Fs.getD j Fct.any).p v w → v = .bool want) ∧
    ∀ (a : Act) (w : World), Below W.heap.size W w → lookF Fs a0 a w ds → leaves P (fun v w' => Below w.heap.size w w' ∧ p.p v w') ((execOp a.eval o).run P w)) ∨
  ((∃ j want, o.guard = some (j, want) ∧ ∀ v w, (Fs.getD j Fct.any).p v w → v = .bool (!want)) ∧ ∀ w, p.p undef w)

def stepsF (P : Program) (Fs : List Fct) (a0 : Act) (W : World) : List Oper → List (List (Nat × Option Nat)) → List Fct → Prop
  | o :: l, ds :: dl, p :: pl => stepF P Fs a0 W o ds p ∧ stepsF P Fs a0 W l dl pl
  | [], [], [] => True
  | _, _, _ => False

/-- All have come up. -/
def finF (Q : Act → World → Prop) (w : World) : List Oper → List Fct → Act → Prop
  | o :: l, p :: pl, a => match o.dst with
    | some d => ∀ v, p.p v w → finF Q w l pl (a.put (some d) v)
    | none => finF Q w l pl a
  | _, _, a => Q a w

/-- The region is of the kind: each waits for those that write what it looks at; no two write the same slot. -/
def kindF (n : Nat) (l : List Oper) (dl : List (List (Nat × Option Nat))) : Bool :=
  (l.zipIdx.all fun (o, i) => o.after.all (fun e => !Region.binds .any e || decide (e.on < i)) &&
    (match o.guard with | none => true | some (j, _) => o.after.any (fun e => Region.binds .any e && e.on == j) && (match (l[j]?).bind (·.dst) with | none => false | some _ => true)) &&
    (match o.dst with | none => true | some d => decide (d < n) && l.zipIdx.all fun (o', i') => i' == i || o'.dst != some d)) &&
  ((l.zip dl).all fun (o, ds) => ds.all fun (t, s) => match s with
    | none => l.all fun o' => o'.dst != some t
    | some j => (match l[j]? with | some o' => o'.dst == some t | none => false) && o.after.any (fun e => Region.binds .any e && e.on == j)) &&
  l.length == dl.length

section

variable {P : Program} {Q : Exit → Act → World → Prop}

theorem wpAny_inv {ops : Array Oper} (I : Array Bool → Act → World → Prop) (hI : ∀ listed a w, I listed a w → listed.size = ops.size)
    (hstep : ∀ listed a w i, I listed a w → i ∈ Region.ready .any ops listed → wpOp P ops Q i (fun a' w' => I (listed.setIfInBounds i true) a' w') a w)
    (hdone : ∀ listed a w, I listed a w → Region.ready .any ops listed = [] → Q .normal a w) (hfull : ∀ listed, listed.size = ops.size → listed.toList.count false = 0 → Region.ready .any ops listed = []) :
    ∀ (fuel : Nat) (listed : Array Bool) (a : Act) (w : World), listed.toList.count false ≤ fuel → I listed a w → wpAny P .any ops Q fuel listed a w
  | 0, listed, a, w, hc, h => by
    have hr := hfull listed (hI _ _ _ h) (by omega)
    exact ⟨hr, hdone _ _ _ h hr⟩
  | fuel + 1, listed, a, w, hc, h => by
    refine ⟨fun hr => hdone _ _ _ h hr, fun i hi => wpOp_mono (fun a' w' h' => wpAny_inv I hI hstep hdone hfull fuel _ a' w' ?_ h') (hstep _ _ _ i h hi)⟩
    obtain ⟨h0, o, ho, _⟩ := mem_ready.1 hi
    have hlt : i < listed.size := by rw [hI _ _ _ h]; exact (Array.getElem?_eq_some_iff.1 ho).1
    have hf : listed.toList[i]'(by simpa using hlt) = false := by simpa [hlt] using h0
    rw [Array.toList_setIfInBounds, List.count_set (by simpa using hlt)]
    have : 0 < listed.toList.count false := List.count_pos_iff.2 (by rw [← hf]; exact List.getElem_mem _)
    rw [hf]
    show listed.toList.count false - 1 + 0 ≤ fuel
    omega

theorem leaves_wp {o : Oper} {a : Act} {w : World} {K : Value → World → Prop} {K' : Act → World → Prop} (h : leaves P K ((execOp a.eval o).run P w)) (hk : ∀ v w', K v w' → K' (a.put o.dst v) w') : o.wp P a w K' Q := by
  unfold Oper.wp
  generalize (execOp a.eval o).run P w = r at h
  cases r with
  | ok n w' =>
    cases n <;> simp only [leaves] at h <;> simp only [Oper.upon]
    case value u => exact hk _ _ h
    case skip => exact hk _ _ h
    case enter f args => exact Calls.mono h fun e w'' ⟨v, he, hK⟩ => by subst he; exact hk _ _ hK
  | halt x w' => simp only [leaves] at h

theorem stepsF_get {Fs : List Fct} {a0 : Act} {W : World} : ∀ {l : List Oper} {dl : List (List (Nat × Option Nat))} {pl : List Fct}, stepsF P Fs a0 W l dl pl → ∀ (i : Nat) (o : Oper), l[i]? = some o → ∃ ds p, dl[i]? = some ds ∧ pl[i]? = some p ∧ stepF P Fs a0 W o ds p
  | o :: l, ds :: dl, p :: pl, h, 0, o', ho => by
    simp at ho
    subst ho
    exact ⟨ds, p, rfl, rfl, h.1⟩
  | o :: l, ds :: dl, p :: pl, h, i + 1, o', ho => stepsF_get h.2 i o' (by simpa using ho)
  | [], [], [], _, i, o', ho => by simp at ho
  | [], [], _ :: _, h, _, _, _ => h.elim
  | [], _ :: _, _, h, _, _, _ => h.elim
  | _ :: _, [], _, h, _, _, _ => h.elim
  | _ :: _, _ :: _, [], h, _, _, _ => h.elim

theorem finF_of {Q : Act → World → Prop} {w : World} {Fs : List Fct} {a : Act} : ∀ (l : List Oper) (pl : List Fct) (b : Act), finF Q w l pl b → a.defers = b.defers → a.tmps.size = b.tmps.size → l.length = pl.length →
    (∀ t, (∀ o ∈ l, o.dst ≠ some t) → a.tmps[t]? = b.tmps[t]?) → (∀ (i : Nat) (o : Oper) (p : Fct) (d : Nat), l[i]? = some o → pl[i]? = some p → o.dst = some d → d < a.tmps.size ∧ p.p (a.eval (.tmp d)) w) → Q a w
  | [], pl, b, h, hd, hs, hl, ht, hp => by
    obtain rfl : pl = [] := List.eq_nil_of_length_eq_zero (by simpa using hl.symm)
    have : a = b := by
      obtain ⟨at', ad⟩ := a
      obtain ⟨bt, bd⟩ := b
      simp only [Act.mk.injEq]
      exact ⟨Array.ext_getElem? fun t => ht t (by simp), hd⟩
    rw [this]
    exact h
  | o :: l, [], b, h, hd, hs, hl, ht, hp => by simp at hl
  | o :: l, p :: pl, b, h, hd, hs, hl, ht, hp => by
    simp only [List.length_cons, Nat.add_right_cancel_iff] at hl
    unfold finF at h
    cases hdst : o.dst with
    | none =>
      rw [hdst] at h
      refine finF_of (Fs := Fs) l pl b h hd hs hl (fun t e => ht t fun o' ho' => ?_) (fun i o' p' d e1 e2 e3 => hp (i + 1) o' p' d (by simpa using e1) (by simpa using e2) e3)
      rcases List.mem_cons.1 ho' with rfl | ho'
      · rw [hdst]; simp
      · exact e o' ho'
    | some d =>
      rw [hdst] at h
      obtain ⟨hlt, hpd⟩ := hp 0 o p d rfl rfl hdst
      refine finF_of (Fs := Fs) l pl _ (h _ hpd) (by simpa [Act.put] using hd) (by simpa [Act.put] using hs) hl (fun t e => ?_) (fun i o' p' d e1 e2 e3 => hp (i + 1) o' p' d (by simpa using e1) (by simpa using e2) e3)
      by_cases htd : t = d
      · subst htd
        simp only [Act.put, Act.eval]
        rw [Array.getElem?_setIfInBounds]
        simp [hlt, ← hs]
      · simp only [Act.put]
        rw [Array.getElem?_setIfInBounds_ne (Ne.symm htd)]
        refine ht t fun o' ho' => ?_
        rcases List.mem_cons.1 ho' with rfl | ho'
        · rw [hdst]; intro e'; injection e' with e'; exact htd e'.symm
        · exact e o' ho'

theorem lookF_of {Fs : List Fct} {a0 a : Act} {w : World} {l : List Oper} {o : Oper} : ∀ (ds : List (Nat × Option Nat)),
    (∀ t s, (t, s) ∈ ds → match s with | none => a.eval (.tmp t) = a0.eval (.tmp t) | some j => (Fs.getD j Fct.any).p (a.eval (.tmp t)) w) → lookF Fs a0 a w ds
  | [], _ => trivial
  | (t, none) :: r, h => ⟨h t none (by simp), lookF_of (l := l) (o := o) r fun t s e => h t s (by simp [e])⟩
  | (t, some j) :: r, h => ⟨h t (some j) (by simp), lookF_of (l := l) (o := o) r fun t s e => h t s (by simp [e])⟩

/-- What the Bool says. -/
structure KindF (n : Nat) (l : List Oper) (dl : List (List (Nat × Option Nat))) : Prop where
  ac : ∀ (i : Nat) (o : Oper), l[i]? = some o → ∀ e ∈ o.after, Region.binds .any e = true → e.on < i
  gd : ∀ (i : Nat) (o : Oper) (j : Nat) (want : Bool), l[i]? = some o → o.guard = some (j, want) → ∃ e ∈ o.after, Region.binds .any e = true ∧ e.on = j ∧ ∃ (o' : Oper) (d : Nat), l[j]? = some o' ∧ o'.dst = some d
  dn : ∀ (i : Nat) (o : Oper) (d : Nat), l[i]? = some o → o.dst = some d → d < n
  un : ∀ (i : Nat) (o : Oper) (i' : Nat) (o' : Oper) (d : Nat), l[i]? = some o → l[i']? = some o' → o.dst = some d → o'.dst = some d → i = i'
  lk : ∀ (i : Nat) (o : Oper) (ds : List (Nat × Option Nat)) (t : Nat) (s : Option Nat), l[i]? = some o → dl[i]? = some ds → (t, s) ∈ ds → match s with
    | none => ∀ o' ∈ l, o'.dst ≠ some t
    | some j => ∃ o' : Oper, l[j]? = some o' ∧ o'.dst = some t ∧ ∃ e ∈ o.after, Region.binds .any e = true ∧ e.on = j

theorem kindF_spec {n : Nat} {l : List Oper} {dl : List (List (Nat × Option Nat))} (h : kindF n l dl = true) : KindF n l dl := by
  unfold kindF at h
  simp only [Bool.and_eq_true, List.all_eq_true, beq_iff_eq] at h
  obtain ⟨⟨h1, h2⟩, h3⟩ := h
  have hz : ∀ i o, l[i]? = some o → (o, i) ∈ l.zipIdx := fun i o e => by
    rw [List.mem_zipIdx_iff_getElem?]; exact e
  refine ⟨fun i o e x hx hb => ?_, fun i o j want e hg => ?_, fun i o d e hd => ?_, fun i o i' o' d e e' hd hd' => ?_, fun i o ds t s e ed hm => ?_⟩
  · have := (h1 _ (hz i o e)).1.1
    have := Array.all_eq_true_iff_forall_mem.1 this x hx
    simpa [hb] using this
  · have := (h1 _ (hz i o e)).1.2
    simp only [hg, Bool.and_eq_true] at this
    obtain ⟨x, hx, hb⟩ := Array.any_eq_true'.1 this.1
    simp only [Bool.and_eq_true, beq_iff_eq] at hb
    have h4 := this.2
    cases hj : (l[j]?).bind (·.dst) with
    | none => rw [hj] at h4; simp at h4
    | some d =>
      obtain ⟨o', ho', hd⟩ := Option.bind_eq_some_iff.1 hj
      exact ⟨x, hx, hb.1, hb.2, o', d, ho', hd⟩
  · have := (h1 _ (hz i o e)).2
    simp only [hd, Bool.and_eq_true, decide_eq_true_eq] at this
    exact this.1
  · have := (h1 _ (hz i o e)).2
    simp only [hd, Bool.and_eq_true, List.all_eq_true] at this
    have := this.2 _ (hz i' o' e')
    simp only [hd', Bool.or_eq_true, beq_iff_eq, bne_self_eq_false, Bool.false_eq_true, or_false] at this
    exact this.symm
  · have hmem : (o, ds) ∈ l.zip dl := by
      refine List.mem_of_getElem? (i := i) ?_
      rw [List.getElem?_zip_eq_some]
      exact ⟨e, ed⟩
    have := h2 _ hmem (t, s) hm
    cases s with
    | none =>
      intro o' ho' hd
      have := List.all_eq_true.1 this o' ho'
      rw [hd] at this
      simp at this
    | some j =>
      simp only [Bool.and_eq_true] at this
      obtain ⟨h5, h6⟩ := this
      obtain ⟨x, hx, hb⟩ := Array.any_eq_true'.1 h6
      simp only [Bool.and_eq_true, beq_iff_eq] at hb
      cases hj : l[j]? with
      | none => rw [hj] at h5; simp at h5
      | some o' =>
        rw [hj] at h5
        exact ⟨o', hj, by simpa using h5, x, hx, hb.1, hb.2⟩

/-- What holds however far the region is. -/
structure InvF (n : Nat) (Fs : List Fct) (l : List Oper) (a0 : Act) (W : World) (listed : Array Bool) (a : Act) (w : World) : Prop where
  ls : listed.size = l.toArray.size
  bl : Below W.heap.size W w
  sz : a.tmps.size = n
  df : a.defers = a0.defers
  ot : ∀ t, (∀ o ∈ l, o.dst ≠ some t) → a.tmps[t]? = a0.tmps[t]?
  fs : ∀ j o d, l[j]? = some o → o.dst = some d → listed.getD j false = true → (Fs.getD j Fct.any).p (a.eval (.tmp d)) w

theorem wp_region_facts {id : Nat} {a : Act} {w : World} {l : List Oper} (n : Nat) (dl : List (List (Nat × Option Nat))) (Fs : List Fct) (hm : P.follows .mixedOrders = true) (hk : kindF n l dl = true) (hn : a.tmps.size = n)
    (h : stepsF P Fs a w.drew l dl Fs) (hf : ∀ w', Below w.drew.heap.size w.drew w' → finF (fun a' w'' => Q .normal a' w'') w' l Fs a) : (Code.region id l.toArray true).wp P Q a w := by
  have K := kindF_spec hk
  have hlen : l.length = Fs.length := by
    clear hf hk K hn
    revert h
    generalize hF : Fs = Gs
    have : ∀ (l : List Oper) (dl : List (List (Nat × Option Nat))) (pl : List Fct), stepsF P Gs a w.drew l dl pl → l.length = pl.length := by
      intro l
      induction l with
      | nil =>
        intro dl pl h
        match dl, pl, h with
        | [], [], _ => rfl
        | [], _ :: _, h => exact h.elim
        | _ :: _, _, h => exact h.elim
      | cons o l ih =>
        intro dl pl h
        match dl, pl, h with
        | ds :: dl, p :: pl, h => simp only [List.length_cons]; rw [ih dl pl h.2]
        | [], _, h => exact h.elim
        | _ :: _, [], h => exact h.elim
    exact fun h => this l dl _ h
  have hstep : ∀ listed a' w' i, InvF n Fs l a w.drew listed a' w' → i ∈ Region.ready .any l.toArray listed → wpOp P l.toArray Q i (fun a'' w'' => InvF n Fs l a w.drew (listed.setIfInBounds i true) a'' w'') a' w' := by
    intro listed a' w' i hI hi
    obtain ⟨h0, o, ho, haf⟩ := mem_ready.1 hi
    have ho' : l[i]? = some o := by simpa using ho
    obtain ⟨ds, p, hds, hp, hst⟩ := stepsF_get h i o ho'
    have hpF : Fs.getD i Fct.any = p := by simp [hp]
    have hnew : ∀ v w'', Below w'.heap.size w' w'' → p.p v w'' → InvF n Fs l a w.drew (listed.setIfInBounds i true) (a'.put o.dst v) w'' := fun v w'' hb hpv => by
      refine ⟨by simpa using hI.ls, hI.bl.trans (hb.mono hI.bl.size), ?_, ?_, fun t ht => ?_, fun j o1 d hj hd hl => ?_⟩
      · rw [← hI.sz]; cases o.dst <;> simp [Act.put]
      · rw [← hI.df]; cases o.dst <;> simp [Act.put]
      · rw [← hI.ot t ht]
        cases hd : o.dst with
        | none => rfl
        | some d =>
          have hne : d ≠ t := fun e => ht o (List.mem_of_getElem? ho') (by rw [hd, e])
          simp [Act.put, Array.getElem?_setIfInBounds_ne hne]
      · by_cases hji : j = i
        · subst hji
          obtain rfl : o1 = o := by rw [ho'] at hj; injection hj with hj; exact hj.symm
          rw [hpF, hd]
          have hlt : d < a'.tmps.size := by rw [hI.sz]; exact K.dn j o1 d hj hd
          have : (a'.put (some d) v).eval (.tmp d) = v := by simp [Act.put, Act.eval, hlt]
          rw [this]
          exact hpv
        · have hl' : listed.getD j false = true := by rwa [getD_set_ne false (Ne.symm hji)] at hl
          have h1 := (Fs.getD j Fct.any).st (hI.fs j o1 d hj hd hl') hb
          have : (a'.put o.dst v).eval (.tmp d) = a'.eval (.tmp d) := by
            cases hd' : o.dst with
            | none => rfl
            | some d' =>
              refine Act.eval_put fun x hx e => ?_
              injection hx with hx
              injection e with e
              exact hji (K.un j o1 i o d hj ho' hd (by rw [hd', hx, e]))
          rw [this]
          exact h1
    have hlisted : ∀ j o1 d, l[j]? = some o1 → o1.dst = some d → (∃ e ∈ o.after, Region.binds .any e = true ∧ e.on = j) → (Fs.getD j Fct.any).p (a'.eval (.tmp d)) w' := fun j o1 d hj hd ⟨e, he, hb, hej⟩ =>
      hI.fs j o1 d hj hd (by rw [← hej]; exact haf e he hb)
    unfold wpOp
    simp only [ho]
    have hguard : ∀ j want b, o.guard = some (j, want) → (∀ v w, (Fs.getD j Fct.any).p v w → v = .bool b) → yielded l.toArray a'.tmps j = some b := fun j want b hg hb => by
      obtain ⟨e, he, hbd, hej, o1, d, hj, hd⟩ := K.gd i o j want ho' hg
      have h1 := hb _ _ (hlisted j o1 d hj hd ⟨e, he, hbd, hej⟩)
      have hlt : d < a'.tmps.size := by rw [hI.sz]; exact K.dn j o1 d hj hd
      unfold yielded
      have h2 : a'.tmps[d]? = some (.bool b) := by
        simp only [Act.eval, Array.getD_eq_getD_getElem?, Array.getElem?_eq_getElem hlt, Option.getD_some] at h1
        rw [Array.getElem?_eq_getElem hlt, h1]
      simp [hj, hd, h2]
    rcases hst with ⟨hg, hgo⟩ | ⟨⟨j, want, hg, hgb⟩, hundef⟩
    · have hw : Region.wanted o (yielded l.toArray a'.tmps) = true := by
        unfold Region.wanted
        cases hgd : o.guard with
        | none => rfl
        | some gw =>
          obtain ⟨j, want⟩ := gw
          simp only [hguard j want want hgd (hg j want hgd), beq_self_eq_true]
      simp only [hw, if_true]
      refine .inl (leaves_wp (hgo a' w' hI.bl (lookF_of (l := l) (o := o) ds fun t s hts => ?_)) fun v w'' ⟨hb, hpv⟩ => hnew v w'' hb hpv)
      have h3 := K.lk i o ds t s ho' hds hts
      cases s with
      | none =>
        have := hI.ot t h3
        simp only [Act.eval, Array.getD_eq_getD_getElem?, this]
      | some j =>
        obtain ⟨o1, hj, hd, he⟩ := h3
        exact hlisted j o1 t hj hd he
    · have hw : Region.wanted o (yielded l.toArray a'.tmps) = false := by
        unfold Region.wanted
        rw [hg]
        simp only [hguard j want (!want) hg hgb]
        cases want <;> rfl
      simp only [hw, Bool.false_eq_true, if_false]
      exact hnew undef w' (Below.refl _ _) (hundef w')
  refine wp_region_any hm (wpAny_inv (InvF n Fs l a w.drew) (fun _ _ _ hI => hI.ls) hstep (fun listed a' w' hI hr => ?_) (fun listed hs hc => ?_) _ _ a w.drew ?_ ⟨by simp, Below.refl _ _, hn, rfl, fun _ _ => rfl, fun j o d hj hd hl => ?_⟩)
  · have hall : ∀ j o, l[j]? = some o → listed.getD j false = true := by
      intro j
      induction j using Nat.strongRecOn with
      | _ j ih =>
        intro o hj
        cases hl : listed.getD j false with
        | true => rfl
        | false =>
          have : j ∈ Region.ready .any l.toArray listed := by
            refine mem_ready.2 ⟨?_, o, by simpa using hj, fun e he hb => ?_⟩
            · have hlt : j < listed.size := by rw [hI.ls]; simpa using (List.getElem?_eq_some_iff.1 hj).1
              simpa [hlt] using hl
            · have h1 := K.ac j o hj e he hb
              have h2 : e.on < l.length := Nat.lt_trans h1 (List.getElem?_eq_some_iff.1 hj).1
              exact ih e.on h1 _ (List.getElem?_eq_getElem h2)
          rw [hr] at this
          cases this
    refine finF_of (Fs := Fs) (Q := fun a' w'' => Q .normal a' w'') l Fs a (hf w' hI.bl) hI.df (by rw [hI.sz, hn]) hlen hI.ot fun i o p d e1 e2 e3 => ⟨by rw [hI.sz]; exact K.dn i o d e1 e3, ?_⟩
    have := hI.fs i o d e1 e3 (hall i o e1)
    simpa [e2] using this
  · refine List.eq_nil_iff_forall_not_mem.2 fun i hi => ?_
    obtain ⟨h0, o, ho, _⟩ := mem_ready.1 hi
    have hlt : i < listed.size := by rw [hs]; exact (Array.getElem?_eq_some_iff.1 ho).1
    have hf' : listed.toList[i]'(by simpa using hlt) = false := by simpa [hlt] using h0
    have : 0 < listed.toList.count false := List.count_pos_iff.2 (by rw [← hf']; exact List.getElem_mem _)
    omega
  · simp
  · exfalso
    rw [Array.getD_eq_getD_getElem?, Array.getElem?_replicate] at hl
    by_cases hj' : j < l.toArray.size
    · rw [if_pos hj'] at hl; cases hl
    · rw [if_neg hj'] at hl; cases hl

end

end Go.Proofs.Ytbchignbndgigaa

/- What single operations leave, where a law builds terms and asks an order of them in one statement: for RX's regions. -/

namespace Go.Proofs.Ytbchignbndgigaa

open Go Go.RowKit Go.Shelf Go.Maps
set_option maxRecDepth 100000

theorem ArgsK.on {w w' : World} {A : Option Addr} {c : Nat} {xs : List Tm} (h : ArgsK w (· < w.heap.size) A c xs) (hb : Below w.heap.size w w') : ArgsK w' (· < w'.heap.size) A c xs :=
  (h.keep fun g e => hb.block g e).wide fun _ e => Nat.lt_of_lt_of_le e hb.size

/-- The value is the term; the value is a slice that holds the terms. -/
def tmF (t : Tm) : Fct := ⟨fun v w => I64 t.fn ∧ ∃ A c, v = .agg #[.int .i64 t.fn, .slice A t.args.length c] ∧ ArgsK w (· < w.heap.size) A c t.args, fun ⟨h0, A, c, hv, hA⟩ hb => ⟨h0, A, c, hv, hA.on hb⟩⟩

def slF (ts : List Tm) : Fct := ⟨fun v w => ∃ A, v = .slice A ts.length ts.length ∧ ArgsK w (· < w.heap.size) A ts.length ts, fun ⟨A, hv, hA⟩ hb => ⟨A, hv, hA.on hb⟩⟩

section

variable {Fs : List Fct} {a0 : Act} {W : World} {dst : Option Tmp} {ty : TypeId} {pos : String} {after : Array Edge} {guard : Option (Nat × Bool)}

theorem gd_none : ∀ j want, (none : Option (Nat × Bool)) = some (j, want) → ∀ v w, (Fs.getD j Fct.any).p v w → v = .bool want := by intro _ _ h; cases h

theorem gd_true {k : Nat} (h : Fs.getD k Fct.any = Fct.eq (.bool true)) : ∀ j want, some (k, true) = some (j, want) → ∀ v w, (Fs.getD j Fct.any).p v w → v = .bool want := by
  rintro j want e v w hp
  cases e
  rw [h] at hp
  exact hp

theorem ev_get {a : Act} {s : Nat} {v : Value} (h : a.eval (.tmp s) = v) : a.tmps[s]?.getD undef = v := by rw [← h]; simp [Act.eval]

theorem st_load4 {s b : Nat} {x y z u : Value} (hg : ∀ j want, guard = some (j, want) → ∀ v w, (Fs.getD j Fct.any).p v w → v = .bool want) (hs : a0.eval (.tmp s) = .pointer (some ⟨b, 0, none⟩)) (hW : W.heap[b]? = some (.cells #[x, y, z, u] 24)) :
    stepF Try.prog Fs a0 W ⟨dst, .load 24 (.tmp s), ty, pos, after, guard⟩ [(s, none)] (Fct.eq (.agg #[x, y, z, u])) := by
  refine .inl ⟨hg, fun a w hb hl => ?_⟩
  have h1 := ev_get (hl.1.trans hs)
  obtain ⟨c0, c1, c2, c3⟩ := cells_four ((hb.block b (Array.getElem?_eq_some_iff.1 hW).1).trans hW)
  simp [go_sem, leaves, h1, c0, c1, c2, c3]
  exact ⟨Below.refl _ _, rfl⟩

theorem st_term {s b : Nat} {t : Tm} {A : Option Addr} {c : Nat} (hg : ∀ j want, guard = some (j, want) → ∀ v w, (Fs.getD j Fct.any).p v w → v = .bool want) (hs : a0.eval (.tmp s) = .pointer (some ⟨b, 0, none⟩)) (hW : W.heap[b]? = some (.cells #[.int .i64 t.fn, .slice A t.args.length c] 27)) (h64 : I64 t.fn) (hA : ArgsK W (· < W.heap.size) A c t.args) :
    stepF Try.prog Fs a0 W ⟨dst, .load 27 (.tmp s), ty, pos, after, guard⟩ [(s, none)] (tmF t) := by
  refine .inl ⟨hg, fun a w hb hl => ?_⟩
  have h1 := ev_get (hl.1.trans hs)
  obtain ⟨c0, c1, _, _⟩ := cells_two ((hb.block b (Array.getElem?_eq_some_iff.1 hW).1).trans hW)
  simp [go_sem, leaves, h1, c0, c1]
  exact ⟨Below.refl _ _, h64, A, c, rfl, hA.on hb⟩

theorem st_bs1 {s j : Nat} {t : Tm} (hg : ∀ j want, guard = some (j, want) → ∀ v w, (Fs.getD j Fct.any).p v w → v = .bool want) (hF : Fs.getD j Fct.any = tmF t) :
    stepF Try.prog Fs a0 W ⟨dst, .buildSlice 25 1 #[(0, .tmp s)], ty, pos, after, guard⟩ [(s, some j)] (slF [t]) := by
  refine .inl ⟨hg, fun a w hb hl => ?_⟩
  have h0 := hl.1
  rw [hF] at h0
  obtain ⟨h64, A, c, hv, hA⟩ := h0
  have h1 := ev_get hv
  simp [go_sem, leaves, h1]
  have hbl : Below w.heap.size w (w.alloc (.cells #[.int .i64 t.fn, .slice A t.args.length c] 27)) := (Below.refl _ _).alloc (Nat.le_refl _) _
  exact ⟨hbl, _, rfl, argsK_one (heap_alloc_new w _) (by simp) h64 (hA.on hbl)⟩

theorem st_bs2 {s s' j j' : Nat} {t u : Tm} (hg : ∀ j want, guard = some (j, want) → ∀ v w, (Fs.getD j Fct.any).p v w → v = .bool want) (hF : Fs.getD j Fct.any = tmF t) (hF' : Fs.getD j' Fct.any = tmF u) :
    stepF Try.prog Fs a0 W ⟨dst, .buildSlice 25 2 #[(0, .tmp s), (1, .tmp s')], ty, pos, after, guard⟩ [(s, some j), (s', some j')] (slF [t, u]) := by
  refine .inl ⟨hg, fun a w hb hl => ?_⟩
  have h0 := hl.1
  have h0' := hl.2.1
  rw [hF] at h0
  rw [hF'] at h0'
  obtain ⟨h64, A, c, hv, hA⟩ := h0
  obtain ⟨g64, A2, c2, hv2, hA2⟩ := h0'
  have h1 := ev_get hv
  have h2 := ev_get hv2
  simp [go_sem, leaves, h1, h2]
  have hbl : Below w.heap.size w (w.alloc (.cells #[.int .i64 t.fn, .slice A t.args.length c, .int .i64 u.fn, .slice A2 u.args.length c2] 27)) := (Below.refl _ _).alloc (Nat.le_refl _) _
  exact ⟨hbl, _, rfl, argsK_two (heap_alloc_new w _) (by simp) h64 g64 (hA.on hbl) (hA2.on hbl)⟩

theorem st_eq {s j : Nat} {k : Int} (hg : ∀ j want, guard = some (j, want) → ∀ v w, (Fs.getD j Fct.any).p v w → v = .bool want) (hF : Fs.getD j Fct.any = Fct.eq (.int .i64 k)) :
    stepF Try.prog Fs a0 W ⟨dst, .binOp .eql 30 (.tmp s) (.const (.int .i64 k)) 30, ty, pos, after, guard⟩ [(s, some j)] (Fct.eq (.bool true)) := by
  refine .inl ⟨hg, fun a w hb hl => ?_⟩
  have h0 := hl.1
  rw [hF] at h0
  have h1 := ev_get h0
  simp [go_sem, leaves, h1]
  exact ⟨Below.refl _ _, rfl⟩

theorem st_eqi {s j : Nat} {k : Int} (hg : ∀ j want, guard = some (j, want) → ∀ v w, (Fs.getD j Fct.any).p v w → v = .bool want) (hF : Fs.getD j Fct.any = Fct.eq (.int .i64 k)) :
    stepF Try.prog Fs a0 W ⟨dst, .binOp .eql 3 (.tmp s) (.const (.int .i64 k)) 3, ty, pos, after, guard⟩ [(s, some j)] (Fct.eq (.bool true)) := by
  refine .inl ⟨hg, fun a w hb hl => ?_⟩
  have h0 := hl.1
  rw [hF] at h0
  have h1 := ev_get h0
  simp [go_sem, leaves, h1]
  exact ⟨Below.refl _ _, rfl⟩

theorem st_move {s j : Nat} {v : Value} (hg : ∀ j want, guard = some (j, want) → ∀ v w, (Fs.getD j Fct.any).p v w → v = .bool want) (hF : Fs.getD j Fct.any = Fct.eq v) :
    stepF Try.prog Fs a0 W ⟨dst, .move (.tmp s), ty, pos, after, guard⟩ [(s, some j)] (Fct.eq v) := by
  refine .inl ⟨hg, fun a w hb hl => ?_⟩
  have h0 := hl.1
  rw [hF] at h0
  have h1 := ev_get h0
  simp [go_sem, leaves, h1]
  exact ⟨Below.refl _ _, rfl⟩

theorem st_assign {s j : Nat} {v : Value} (hg : ∀ j want, guard = some (j, want) → ∀ v w, (Fs.getD j Fct.any).p v w → v = .bool want) (hF : Fs.getD j Fct.any = Fct.eq v) :
    stepF Try.prog Fs a0 W ⟨dst, .assign (.tmp s), ty, pos, after, guard⟩ [(s, some j)] (Fct.eq v) := by
  refine .inl ⟨hg, fun a w hb hl => ?_⟩
  have h0 := hl.1
  rw [hF] at h0
  have h1 := ev_get h0
  simp [go_sem, leaves, h1]
  exact ⟨Below.refl _ _, rfl⟩

theorem st_pick {s s' j j' : Nat} {x : Value} (hg : ∀ j want, guard = some (j, want) → ∀ v w, (Fs.getD j Fct.any).p v w → v = .bool want) (hF : Fs.getD j Fct.any = Fct.eq (.bool true)) (hF' : Fs.getD j' Fct.any = Fct.eq (.bool true)) :
    stepF Try.prog Fs a0 W ⟨dst, .pick (.tmp s) (.tmp s') (.const x), ty, pos, after, guard⟩ [(s, some j), (s', some j')] (Fct.eq (.bool true)) := by
  refine .inl ⟨hg, fun a w hb hl => ?_⟩
  have h0 := hl.1
  have h0' := hl.2.1
  rw [hF] at h0
  rw [hF'] at h0'
  have h1 := ev_get h0
  have h2 := ev_get h0'
  simp [go_sem, leaves, h1, h2]
  exact ⟨Below.refl _ _, rfl⟩

theorem st_of {f : Int} {s j : Nat} {ts : List Tm} (hg : ∀ j want, guard = some (j, want) → ∀ v w, (Fs.getD j Fct.any).p v w → v = .bool want) (h64 : I64 f) (hF : Fs.getD j Fct.any = slF ts) :
    stepF Try.prog Fs a0 W ⟨dst, .call ⟨.value (.func 37), #[.const (.int .i64 f), .tmp s], #[3, 25]⟩, ty, pos, after, guard⟩ [(s, some j)] (tmF (.node f ts)) := by
  refine .inl ⟨hg, fun a w hb hl => ?_⟩
  have h0 := hl.1
  rw [hF] at h0
  obtain ⟨A, hv, hA⟩ := h0
  have h1 := ev_get hv
  simp [go_sem, leaves, h1]
  refine (kboOf_eq f ts.length ts.length A w).mono fun e w' h => ?_
  obtain ⟨he, hw⟩ := h
  subst hw
  have hbl : Below w.heap.size w (w.alloc (.cells #[.int .i64 f, .slice A ts.length ts.length] 27)) := (Below.refl _ _).alloc (Nat.le_refl _) _
  exact ⟨_, he, hbl, h64, A, _, rfl, hA.on hbl⟩

theorem st_cmp {o : Odr} {P Q : Option Addr} {pc qc : Nat} {s0 s1 s2 j0 j1 j2 : Nat} {t u : Tm} {k : Int} (hg : ∀ j want, guard = some (j, want) → ∀ v w, (Fs.getD j Fct.any).p v w → v = .bool want) (hM : OdrM W W.heap.size o P Q) (hn : t.size + u.size ≤ 1073741824) (hk : cmpO o t u = k)
    (hF0 : Fs.getD j0 Fct.any = Fct.eq (.agg #[.bool o.lpo, .slice P o.prec.length pc, .slice Q o.wts.length qc, .int .i64 o.var])) (hF1 : Fs.getD j1 Fct.any = tmF t) (hF2 : Fs.getD j2 Fct.any = tmF u) :
    stepF Try.prog Fs a0 W ⟨dst, .call ⟨.value (.func 16), #[.tmp s0, .tmp s1, .tmp s2], #[24, 27, 27]⟩, ty, pos, after, guard⟩ [(s0, some j0), (s1, some j1), (s2, some j2)] (Fct.eq (.int .i64 k)) := by
  refine .inl ⟨hg, fun a w hb hl => ?_⟩
  obtain ⟨h0, h1, h2, _⟩ := hl
  rw [hF0] at h0
  rw [hF1] at h1
  rw [hF2] at h2
  obtain ⟨h64, A, c, hv, hA⟩ := h1
  obtain ⟨g64, A2, c2, hv2, hA2⟩ := h2
  have e0 := ev_get h0
  have e1 := ev_get hv
  have e2 := ev_get hv2
  simp [go_sem, leaves, e0, e1, e2]
  refine (kboCmp_any o t u P Q A A2 pc qc c c2 w (hM.on hb) h64 g64 hn hA hA2).mono fun e w' h => ?_
  exact ⟨_, h.1, h.2, by rw [hk]; rfl⟩

theorem st_weight {o : Odr} {P Q : Option Addr} {pc qc : Nat} {s0 s1 j0 j1 : Nat} {t : Tm} {k : Int} (hg : ∀ j want, guard = some (j, want) → ∀ v w, (Fs.getD j Fct.any).p v w → v = .bool want) (hM : OdrM W W.heap.size o P Q) (hn : t.size ≤ 1073741824) (hk : wgtO o t = k)
    (hF0 : Fs.getD j0 Fct.any = Fct.eq (.agg #[.bool o.lpo, .slice P o.prec.length pc, .slice Q o.wts.length qc, .int .i64 o.var])) (hF1 : Fs.getD j1 Fct.any = tmF t) :
    stepF Try.prog Fs a0 W ⟨dst, .call ⟨.value (.func 18), #[.tmp s0, .tmp s1], #[24, 27]⟩, ty, pos, after, guard⟩ [(s0, some j0), (s1, some j1)] (Fct.eq (.int .i64 k)) := by
  refine .inl ⟨hg, fun a w hb hl => ?_⟩
  obtain ⟨h0, h1, _⟩ := hl
  rw [hF0] at h0
  rw [hF1] at h1
  obtain ⟨h64, A, c, hv, hA⟩ := h1
  have e0 := ev_get h0
  have e1 := ev_get hv
  simp [go_sem, leaves, e0, e1]
  refine (kboWeight_any o t P Q A pc qc c w (hM.on hb) h64 hn hA.toA).mono fun e w' h => ?_
  exact ⟨_, h.1, h.2, by rw [hk]; rfl⟩

end

end Go.Proofs.Ytbchignbndgigaa

/- kbo: wakes. -/

namespace Go.Proofs.Ytbchignbndgigaa

open Go.RowKit Go.Shelf Go.Maps
set_option maxRecDepth 100000

theorem kboLeast5 (w : World) : Calls Try.prog 36 #[.int .i64 5] w fun e w' => ∃ P pc Q qc, e = .returned (.agg #[.bool false, .slice P 5 pc, .slice Q 5 qc, .int .i64 1]) ∧ IntsR w' w.heap.size (.slice P 5 pc) [0, 1, 2, 3, 4] ∧ IntsR w' w.heap.size (.slice Q 5 qc) [1, 1, 1, 1, 1] ∧ (∀ g, (Value.slice P 5 pc).ownBlock = some g → (Value.slice Q 5 qc).ownBlock ≠ some g) ∧ Below w.heap.size w w' := by
  refine (kboLeast_any 5 (by omega) w).mono ?_
  rintro e w1 ⟨vP, vQ, rfl, hP, hQ, hne, hb1⟩
  obtain ⟨P, pc, rfl⟩ := row_slice hP.row
  obtain ⟨Q, qc, rfl⟩ := row_slice hQ.row
  exact ⟨P, pc, Q, qc, rfl, hP, hQ, hne, hb1⟩

theorem IntsR.ints {w : World} {base : Nat} {A : Option Addr} {n c : Nat} {l : List Int} (h : IntsR w base (.slice A n c) l) (hl : l.length ≤ 9223372036854775807) : Ints w w.heap.size A l := by
  refine ⟨hl, h.i64, fun hn => ?_⟩
  obtain ⟨x, hx⟩ : ∃ x, l[0]? = some x := ⟨_, List.getElem?_eq_getElem hn⟩
  obtain ⟨g, c', hv, hg, _⟩ := h.get hx
  injection hv with hA
  refine ⟨g, 0, hA, hg, fun i y hy => ?_⟩
  obtain ⟨g2, c2, hv2, _, hc⟩ := h.get hy
  injection hv2 with hA2
  rw [hA] at hA2
  injection hA2 with hA2
  injection hA2 with hA2
  rw [hA2, Nat.zero_add]
  exact hc

/-- The facts' ends: what the last operation leaves is all that is wanted. -/
theorem finF_last {P : Program} {Q : Act → World → Prop} {w : World} {d : Nat} {v : Value} : ∀ (l : List Oper) (pl : List Fct) (a : Act), l.length = pl.length → d < a.tmps.size → (∃ o, l.getLast? = some o ∧ o.dst = some d) → pl.getLast? = some (Fct.eq v) → (∀ a' : Act, a'.defers = a.defers → a'.tmps.size = a.tmps.size → a'.eval (.tmp d) = v → Q a' w) → finF Q w l pl a
  | [], _, _, _, _, ⟨_, h, _⟩, _, _ => by simp at h
  | _ :: _, [], _, h, _, _, _, _ => by simp at h
  | [o], [p], a, _, hd, ⟨o', h1, h2⟩, h3, h => by
    simp at h1 h3
    subst h1 h3
    unfold finF
    rw [h2]
    intro u hu
    have hu : u = v := hu
    subst hu
    unfold finF
    exact h _ rfl (by simp [Act.put]) (by simp [Act.put, Act.eval, hd])
  | [o], _ :: _ :: _, a, h0, _, _, _, _ => by simp at h0
  | _ :: _ :: _, [_], a, h0, _, _, _, _ => by simp at h0
  | o :: o2 :: l, p :: p2 :: pl, a, h0, hd, h1, h3, h => by
    have hg : ∀ a' : Act, a'.defers = a.defers → a'.tmps.size = a.tmps.size → finF Q w (o2 :: l) (p2 :: pl) a' := fun a' e1 e2 =>
      finF_last (P := P) (o2 :: l) (p2 :: pl) a' (by simpa using h0) (by rw [e2]; exact hd) (by simpa using h1) (by simpa using h3) fun a2 e3 e4 => h a2 (e3.trans e1) (e4.trans e2)
    unfold finF
    cases o.dst with
    | none => exact hg a rfl rfl
    | some d' => intro u _; exact hg _ rfl (by simp [Act.put])

/-- An order that lies in memory, as a value. -/
def ordF (o : Odr) (P : Option Addr) (pc : Nat) (Q : Option Addr) (qc : Nat) : Fct := Fct.eq (.agg #[.bool o.lpo, .slice P o.prec.length pc, .slice Q o.wts.length qc, .int .i64 o.var])

theorem i64s (n : Int) (h1 : -100 ≤ n) (h2 : n ≤ 100) : I64 n := ⟨by omega, by omega⟩

theorem heap7 (w : World) (o0 o1 o2 o3 o4 o5 o6 : Obj) : (((((((w.alloc o0).alloc o1).alloc o2).alloc o3).alloc o4).alloc o5).alloc o6).heap[w.heap.size]? = some o0 ∧ (((((((w.alloc o0).alloc o1).alloc o2).alloc o3).alloc o4).alloc o5).alloc o6).heap[w.heap.size + 4]? = some o4 ∧
    (((((((w.alloc o0).alloc o1).alloc o2).alloc o3).alloc o4).alloc o5).alloc o6).heap[w.heap.size + 5]? = some o5 ∧ (((((((w.alloc o0).alloc o1).alloc o2).alloc o3).alloc o4).alloc o5).alloc o6).heap[w.heap.size + 6]? = some o6 := by
  have e0 := heap_alloc_new w o0
  have e4 := heap_alloc_new ((((w.alloc o0).alloc o1).alloc o2).alloc o3) o4
  have e5 := heap_alloc_new (((((w.alloc o0).alloc o1).alloc o2).alloc o3).alloc o4) o5
  have e6 := heap_alloc_new ((((((w.alloc o0).alloc o1).alloc o2).alloc o3).alloc o4).alloc o5) o6
  have s : ∀ (v : World) (o : Obj), (v.alloc o).heap.size = v.heap.size + 1 := fun v o => by simp
  rw [s, s, s, s] at e4
  rw [s, s, s, s, s] at e5
  rw [s, s, s, s, s, s] at e6
  refine ⟨?_, ?_, ?_, e6⟩
  · rw [Below.heap_alloc _ _ _ (by simp only [s]; omega), Below.heap_alloc _ _ _ (by simp only [s]; omega), Below.heap_alloc _ _ _ (by simp only [s]; omega), Below.heap_alloc _ _ _ (by simp only [s]; omega), Below.heap_alloc _ _ _ (by simp only [s]; omega), Below.heap_alloc _ _ _ (by simp only [s]; omega)]
    exact e0
  · rw [Below.heap_alloc _ _ _ (by simp only [s]; omega), Below.heap_alloc _ _ _ (by simp only [s]; omega)]
    exact e4
  · rw [Below.heap_alloc _ _ _ (by simp only [s]; omega)]
    exact e5

set_option maxHeartbeats 4000000 in
theorem kboWakes_any (w : World) : Calls Try.prog 14 #[] w fun e w' => e = .returned (.bool true) ∧ Below w.heap.size w w' := by
  have HL1 := Lib.hid kboLeast5
  have HL2 := Lib.hid kboLeast5
  go_enter Try.func14, Try.ntmps14
  go_upto_region 3 with (first
    | (go_at_call 36; (with_reducible refine (HL1.out _).mono ?_); go_must (rintro e w1 ⟨P, pc, Q, qc, rfl, hP, hQ, hne, hb1⟩; clear HL1))
    | (go_at_call 37; (with_reducible refine (kboOf_eq _ _ _ _ _).mono ?_); go_must (rintro e _ ⟨rfl, rfl⟩))
    | fail)
  obtain ⟨W1, hW1⟩ : ∃ W1, (((((((w1.alloc (.cells #[.bool false, .slice P 5 pc, .slice Q 5 qc, .int .i64 1] 24)).alloc (.cells #[.int .i64 (-1), .slice none 0 0] 27)).alloc (.cells #[.int .i64 1, .slice none 0 0] 27)).alloc (.cells #[.int .i64 2, .slice none 0 0] 27)).alloc (.cells #[.int .i64 (-1), .slice none 0 0] 27)).alloc (.cells #[.int .i64 1, .slice none 0 0] 27)).alloc (.cells #[.int .i64 2, .slice none 0 0] 27)) = W1 := ⟨_, rfl⟩
  have hB1 : Below w1.heap.size w1 W1 := by rw [← hW1]; exact (((((((Below.refl _ _).alloc (Nat.le_refl _) _).alloc (by simp) _).alloc (by simp; omega) _).alloc (by simp; omega) _).alloc (by simp; omega) _).alloc (by simp; omega) _).alloc (by simp; omega) _
  obtain ⟨k1, k2, k3, k4⟩ := heap7 w1 (.cells #[.bool false, .slice P 5 pc, .slice Q 5 qc, .int .i64 1] 24) (.cells #[.int .i64 (-1), .slice none 0 0] 27) (.cells #[.int .i64 1, .slice none 0 0] 27) (.cells #[.int .i64 2, .slice none 0 0] 27) (.cells #[.int .i64 (-1), .slice none 0 0] 27) (.cells #[.int .i64 1, .slice none 0 0] 27) (.cells #[.int .i64 2, .slice none 0 0] 27)
  rw [hW1] at k1 k2 k3 k4
  rw [hW1]
  have hsz : w1.heap.size + 7 = W1.heap.size := by rw [← hW1]; simp
  have HPQ := Lib.hid (show IntsR W1 w.heap.size (.slice P 5 pc) [0, 1, 2, 3, 4] ∧ IntsR W1 w.heap.size (.slice Q 5 qc) [1, 1, 1, 1, 1] ∧ Below w.heap.size w W1 from ⟨hP.on hB1, hQ.on hB1, hb1.trans (hB1.mono hb1.size)⟩)
  have Hsz := Lib.hid hsz
  have HK := Lib.hid (And.intro k1 (And.intro k2 (And.intro k3 k4)))
  clear hW1 hP hQ hB1 hb1 hne k1 k2 k3 k4 hsz
  go_upto_region 4 with (first
    | (go_at_call 36; (with_reducible refine (HL2.out _).mono ?_); go_must (rintro e w2 ⟨P2, pc2, Q2, qc2, rfl, hP2, hQ2, hne2, hb2⟩; clear HL2))
    | fail)
  obtain ⟨g, c, hv, hg, hc4⟩ := hQ2.get (i := 4) (x := 1) rfl
  injection hv with hA _ hcc
  subst hA hcc
  obtain ⟨W2, hW2⟩ : ∃ W2, w2.alloc (.cells #[.bool false, .slice P2 5 pc2, .slice (some ⟨g, 0, none⟩) 5 qc2, .int .i64 1] 24) = W2 := ⟨_, rfl⟩
  have hB2 : Below w2.heap.size w2 W2 := by rw [← hW2]; exact (Below.refl _ _).alloc (Nat.le_refl _) _
  have k5 : W2.heap[w2.heap.size]? = some (.cells #[.bool false, .slice P2 5 pc2, .slice (some ⟨g, 0, none⟩) 5 qc2, .int .i64 1] 24) := by rw [← hW2]; exact heap_alloc_new _ _
  have hst := ((hQ2.on hB2).row.stored 4 (.int .i64 0)).1
  have hf4 : W2.frozen? ⟨g, 4, none⟩ = false := (hQ2.on hB2).row.frozenAt 4
  have hc4' := cell_on hB2 hg hc4
  have hP3 := hP2.on hB2
  obtain ⟨z0, z1, z2, z3⟩ := cells_four k5
  have hgl := (row_lt hQ2.row g rfl).1
  obtain ⟨W3, hW3⟩ : ∃ W3, W2.setCell ⟨g, 4, none⟩ (.int .i64 0) = W3 := ⟨_, rfl⟩
  have hsz2 := hb2.size
  have hB3 : Below W1.heap.size W1 W3 := by rw [← hW3]; exact (hb2.trans (hB2.mono hsz2)).setCell (by show _ ≤ g; exact hgl) _
  have hsz := Hsz.out
  obtain ⟨k1, k2, k3, k4⟩ := HK.out
  have h1 := (hB3.block _ (by omega)).trans k1
  have h2 := (hB3.block _ (by omega)).trans k2
  have h3 := (hB3.block _ (by omega)).trans k3
  have h4 := (hB3.block _ (by omega)).trans k4
  have hgs : g ≠ w2.heap.size := by omega
  have h5 : W3.heap[w2.heap.size]? = some (.cells #[.bool false, .slice P2 5 pc2, .slice (some ⟨g, 0, none⟩) 5 qc2, .int .i64 1] 24) := by rw [← hW3]; exact (heap_setCell_other _ _ _ _ (fun e => hgs e.symm)).trans k5
  have hBf : Below w.heap.size w W3 := HPQ.out.2.2.trans (hB3.mono HPQ.out.2.2.size)
  have hM : OdrM W3 W3.heap.size ord5 P Q := ⟨(HPQ.out.1.on hB3).ints (by decide), (HPQ.out.2.1.on hB3).ints (by decide), i64s _ (by decide) (by decide)⟩
  have hP4 : IntsR W3 W1.heap.size (.slice P2 5 pc2) [0, 1, 2, 3, 4] := ⟨row_keep hP3.row fun g' e => by rw [← hW3]; exact heap_setCell_other _ _ _ _ (fun e' => hne2 g' e (by rw [e']; rfl)), hP3.i64⟩
  have hQ4 : IntsR W3 W1.heap.size (.slice (some ⟨g, 0, none⟩) 5 qc2) [1, 1, 1, 1, 0] := ⟨by rw [← hW3]; exact hst, by intro x hx; simp at hx; rcases hx with rfl | rfl <;> exact i64s _ (by decide) (by decide)⟩
  have hMl : OdrM W3 W3.heap.size ord5l P2 (some ⟨g, 0, none⟩) := ⟨hP4.ints (by decide), hQ4.ints (by decide), i64s _ (by decide) (by decide)⟩
  have HF := Lib.hid (And.intro h1 (And.intro h2 (And.intro h3 (And.intro h4 (And.intro h5 (And.intro hM hMl))))))
  clear hM hMl h1 h2 h3 h4 h5 hP4 hQ4 hgs hst hP3 hP2 hQ2 hne2 HPQ HK Hsz k1 k2 k3 k4 hsz hB3 hsz2
  rw [hW2]
  go_upto_region 5 with fail
  obtain ⟨h1, h2, h3, h4, h5, hM0, hMl0⟩ := HF.out
  have hM := hM0.on (Below.refl _ _).drew
  have hMl := hMl0.on (Below.refl _ _).drew
  refine wp_region_facts 90 [[(1, none)], [(2, none)], [(3, none)], [(15, some 1), (16, some 2)], [(17, some 3)], [(2, none)], [(19, some 5)], [(20, some 6)], [(14, some 0), (18, some 4), (21, some 7)], [(22, some 8)], [(23, some 9)], [(1, none)], [(3, none)], [(26, some 12)], [(27, some 13)], [(2, none)], [(2, none)], [(29, some 15), (30, some 16)], [(31, some 17)], [(25, some 11), (28, some 14), (32, some 18)], [(33, some 19)], [(24, some 10), (34, some 20)], [(35, some 21)], [(1, none)], [(2, none)], [(38, some 24)], [(39, some 25)], [(3, none)], [(4, none)], [(41, some 27), (42, some 28)], [(43, some 29)], [(37, some 23), (40, some 26), (44, some 30)], [(45, some 31)], [(36, some 22), (46, some 32)], [(47, some 33)], [(1, none)], [(3, none)], [(4, none)], [(50, some 36), (51, some 37)], [(52, some 38)], [(4, none)], [(3, none)], [(54, some 40), (55, some 41)], [(56, some 42)], [(49, some 35), (53, some 39), (57, some 43)], [(58, some 44)], [(48, some 34), (59, some 45)], [(60, some 46)], [(5, none)], [(2, none)], [(63, some 49)], [(64, some 50)], [(65, some 51)], [(66, some 52)], [(2, none)], [(62, some 48), (67, some 53), (68, some 54)], [(69, some 55)], [(61, some 47), (70, some 56)], [(71, some 57)], [(5, none)], [(3, none)], [(74, some 60)], [(75, some 61)], [(4, none)], [(73, some 59), (76, some 62), (77, some 63)], [(78, some 64)], [(72, some 58), (79, some 65)], [(80, some 66)], [(1, none)], [(2, none)], [(3, none)], [(83, some 69), (84, some 70)], [(85, some 71)], [(82, some 68), (86, some 72)], [(87, some 73)], [(81, some 67), (88, some 74)], [(89, some 75)]] [ordF ord5 P pc Q qc, tmF tX, tmF tA, slF [tX, tA], tmF (.node 3 [tX, tA]), tmF tX, slF [tX], tmF (.node 4 [tX]), Fct.eq (.int .i64 3), Fct.eq (.bool true), Fct.eq (.bool true), ordF ord5 P pc Q qc, tmF tA, slF [tA], tmF (.node 4 [tA]), tmF tX, tmF tX, slF [tX, tX], tmF (.node 3 [tX, tX]), Fct.eq (.int .i64 1), Fct.eq (.bool true), Fct.eq (.bool true), Fct.eq (.bool true), ordF ord5 P pc Q qc, tmF tX, slF [tX], tmF (.node 4 [tX]), tmF tA, tmF tB, slF [tA, tB], tmF (.node 3 [tA, tB]), Fct.eq (.int .i64 0), Fct.eq (.bool true), Fct.eq (.bool true), Fct.eq (.bool true), ordF ord5 P pc Q qc, tmF tA, tmF tB, slF [tA, tB], tmF (.node 3 [tA, tB]), tmF tB, tmF tA, slF [tB, tA], tmF (.node 3 [tB, tA]), Fct.eq (.int .i64 1), Fct.eq (.bool true), Fct.eq (.bool true), Fct.eq (.bool true), ordF ord5l P2 pc2 (some ⟨g, 0, none⟩) qc2, tmF tX, slF [tX], tmF (.node 4 [tX]), slF [(.node 4 [tX])], tmF (.node 4 [(.node 4 [tX])]), tmF tX, Fct.eq (.int .i64 3), Fct.eq (.bool true), Fct.eq (.bool true), Fct.eq (.bool true), ordF ord5l P2 pc2 (some ⟨g, 0, none⟩) qc2, tmF tA, slF [tA], tmF (.node 4 [tA]), tmF tB, Fct.eq (.int .i64 3), Fct.eq (.bool true), Fct.eq (.bool true), Fct.eq (.bool true), ordF ord5 P pc Q qc, tmF tX, tmF tA, slF [tX, tA], tmF (.node 3 [tX, tA]), Fct.eq (.int .i64 3), Fct.eq (.bool true), Fct.eq (.bool true), Fct.eq (.bool true)] (by kernel_rfl) (by decide +kernel) (by kernel_rfl) ?_ ?_
  · exact ⟨st_load4 gd_none rfl h1, st_term gd_none rfl h2 (i64s _ (by decide) (by decide)) (.nil _ _), st_term gd_none rfl h3 (i64s _ (by decide) (by decide)) (.nil _ _), st_bs2 gd_none rfl rfl, st_of gd_none (i64s _ (by decide) (by decide)) rfl, st_term gd_none rfl h2 (i64s _ (by decide) (by decide)) (.nil _ _), st_bs1 gd_none rfl, st_of gd_none (i64s _ (by decide) (by decide)) rfl, st_cmp gd_none hM (by decide +kernel) wake1 rfl rfl rfl, st_eq gd_none rfl, st_move gd_none rfl, st_load4 (gd_true rfl) rfl h1, st_term (gd_true rfl) rfl h3 (i64s _ (by decide) (by decide)) (.nil _ _), st_bs1 (gd_true rfl) rfl, st_of (gd_true rfl) (i64s _ (by decide) (by decide)) rfl, st_term (gd_true rfl) rfl h2 (i64s _ (by decide) (by decide)) (.nil _ _), st_term (gd_true rfl) rfl h2 (i64s _ (by decide) (by decide)) (.nil _ _), st_bs2 (gd_true rfl) rfl rfl, st_of (gd_true rfl) (i64s _ (by decide) (by decide)) rfl, st_cmp (gd_true rfl) hM (by decide +kernel) wake2 rfl rfl rfl, st_eq (gd_true rfl) rfl, st_pick gd_none rfl rfl, st_move gd_none rfl, st_load4 (gd_true rfl) rfl h1, st_term (gd_true rfl) rfl h2 (i64s _ (by decide) (by decide)) (.nil _ _), st_bs1 (gd_true rfl) rfl, st_of (gd_true rfl) (i64s _ (by decide) (by decide)) rfl, st_term (gd_true rfl) rfl h3 (i64s _ (by decide) (by decide)) (.nil _ _), st_term (gd_true rfl) rfl h4 (i64s _ (by decide) (by decide)) (.nil _ _), st_bs2 (gd_true rfl) rfl rfl, st_of (gd_true rfl) (i64s _ (by decide) (by decide)) rfl, st_cmp (gd_true rfl) hM (by decide +kernel) wake3 rfl rfl rfl, st_eq (gd_true rfl) rfl, st_pick gd_none rfl rfl, st_move gd_none rfl, st_load4 (gd_true rfl) rfl h1, st_term (gd_true rfl) rfl h3 (i64s _ (by decide) (by decide)) (.nil _ _), st_term (gd_true rfl) rfl h4 (i64s _ (by decide) (by decide)) (.nil _ _), st_bs2 (gd_true rfl) rfl rfl, st_of (gd_true rfl) (i64s _ (by decide) (by decide)) rfl, st_term (gd_true rfl) rfl h4 (i64s _ (by decide) (by decide)) (.nil _ _), st_term (gd_true rfl) rfl h3 (i64s _ (by decide) (by decide)) (.nil _ _), st_bs2 (gd_true rfl) rfl rfl, st_of (gd_true rfl) (i64s _ (by decide) (by decide)) rfl, st_cmp (gd_true rfl) hM (by decide +kernel) wake4 rfl rfl rfl, st_eq (gd_true rfl) rfl, st_pick gd_none rfl rfl, st_move gd_none rfl, st_load4 (gd_true rfl) rfl h5, st_term (gd_true rfl) rfl h2 (i64s _ (by decide) (by decide)) (.nil _ _), st_bs1 (gd_true rfl) rfl, st_of (gd_true rfl) (i64s _ (by decide) (by decide)) rfl, st_bs1 (gd_true rfl) rfl, st_of (gd_true rfl) (i64s _ (by decide) (by decide)) rfl, st_term (gd_true rfl) rfl h2 (i64s _ (by decide) (by decide)) (.nil _ _), st_cmp (gd_true rfl) hMl (by decide +kernel) wake5 rfl rfl rfl, st_eq (gd_true rfl) rfl, st_pick gd_none rfl rfl, st_move gd_none rfl, st_load4 (gd_true rfl) rfl h5, st_term (gd_true rfl) rfl h3 (i64s _ (by decide) (by decide)) (.nil _ _), st_bs1 (gd_true rfl) rfl, st_of (gd_true rfl) (i64s _ (by decide) (by decide)) rfl, st_term (gd_true rfl) rfl h4 (i64s _ (by decide) (by decide)) (.nil _ _), st_cmp (gd_true rfl) hMl (by decide +kernel) wake6 rfl rfl rfl, st_eq (gd_true rfl) rfl, st_pick gd_none rfl rfl, st_move gd_none rfl, st_load4 (gd_true rfl) rfl h1, st_term (gd_true rfl) rfl h2 (i64s _ (by decide) (by decide)) (.nil _ _), st_term (gd_true rfl) rfl h3 (i64s _ (by decide) (by decide)) (.nil _ _), st_bs2 (gd_true rfl) rfl rfl, st_of (gd_true rfl) (i64s _ (by decide) (by decide)) rfl, st_weight (gd_true rfl) hM (by decide +kernel) wake7 rfl rfl, st_eqi (gd_true rfl) rfl, st_pick gd_none rfl rfl, st_assign gd_none rfl, trivial⟩
  · intro w' hb'
    refine finF_last (P := Try.prog) (d := 0) (v := .bool true) _ _ _ (by kernel_rfl) (Nat.lt_of_lt_of_eq (show 0 < 90 by decide) (by kernel_rfl)) ⟨_, rfl, rfl⟩ rfl ?_
    intro a' hd ha he
    have HFw := Lib.hid (hBf.trans (((Below.refl _ _).drew.trans (hb'.mono (Nat.le_refl _))).mono hBf.size))
    have hd2 : a'.defers = [] := hd
    clear hd ha hb' hBf h1 h2 h3 h4 h5 hM hMl hM0 hMl0 HF
    go_wp2
    have he2 := ev_get he
    exact bodyPost_ret (v := .bool true) (by simp [results, Try.results14, go_sem, he2]) hd2 ⟨rfl, HFw.out⟩

end Go.Proofs.Ytbchignbndgigaa

/- An order, and terms whose rows have room for what they hold, that are arguments. -/

namespace Go.Proofs.Ytbchignbndgigaa

open Go.ChangeShapes Go.WideShapes Go.ChangeAt Go.RowKit
set_option maxRecDepth 20000

section

variable {H : Type} {enc : TypeId × Value → H} {W : World} {base : Nat} {held : Bool}

theorem trodk_term : ∀ (n : Nat) (cs : List Value) (x : DataW H × List MemPlace), DataW.trod enc Try.prog W base (fun _ => true) held n 27 cs = some x →
    ∃ (t : Tm) (A : Option Addr) (c : Nat), cs = [.int .i64 t.fn, .slice A t.args.length c] ∧ I64 t.fn ∧ ArgsK W (· < W.heap.size) A c t.args ∧ t.size ≤ Rows.uptoBulk x.1 := by
  intro n
  induction n using Nat.strongRecOn with
  | ind n ih =>
    intro cs x h
    obtain ⟨xs, n', rfl, hx, hlen, hxs, hf⟩ := DataW.trod_struct Try.underlying27 h
    rw [cellsTerm] at hlen
    match cs, hlen with
    | [c0, c1], _ =>
      have hx2 : xs.length = 2 := by rw [hxs]; rfl
      match xs, hx2 with
      | [x0, x1], _ =>
        have g0 := hf 0 _ rfl
        have g1 := hf 1 _ rfl
        simp [cellsInt] at g0
        simp [cellsTerms] at g1
        obtain ⟨f, hfv, ef, hw⟩ := DataW.trod_int Try.underlying3 g0
        injection hfv with hfv
        subst hfv
        have hf64 : I64 f := by
          have := hw
          simp [Lit.wf, IntKind.min, IntKind.max, IntKind.signed, IntKind.bits] at this
          exact this
        rcases DataW.trod_slice Try.underlying25 g1 with ⟨hv, e1⟩ | ⟨a, len, cap, elems, rest, m, hm, hv, e1, _, hl, hmax, hlenE, hel, _, _⟩
        · injection hv with hv
          subst hv
          refine ⟨.node f [], none, 0, rfl, hf64, .nil none 0, ?_⟩
          subst hx
          simp [ef, e1, Tm.size, sizes, Rows.uptoBulk, Rows.uptoBulkAll]
        · injection hv with hv
          subst hv
          have each : ∀ i, i < len → ∃ q : Tm × Option Addr × Nat × DataW H, I64 q.1.fn ∧ W.cell? (a.add (i * 2)) = some (.int .i64 q.1.fn) ∧ W.cell? ((a.add (i * 2)).add 1) = some (.slice q.2.1 q.1.args.length q.2.2.1) ∧ ArgsK W (· < W.heap.size) q.2.1 q.2.2.1 q.1.args ∧ q.1.size ≤ Rows.uptoBulk q.2.2.2 ∧ (elems.map (·.1))[i]? = some q.2.2.2 := by
            intro i hi
            have h1 := hel i hi
            rw [cellsTerm] at h1
            rw [List.getElem?_eq_getElem (by omega)] at h1
            cases hc : W.cells? base (a.add (i * 2)) 2 with
            | none => rw [hc] at h1; cases h1
            | some cs' =>
              rw [hc] at h1
              simp only [Option.bind_some] at h1
              obtain ⟨t, A, c, rfl, ht64, hA, hb⟩ := ih m (by omega) cs' _ h1
              obtain ⟨_, _, hat⟩ := World.cells?_some hc
              refine ⟨(t, A, c, (elems[i]'(by omega)).1), ht64, ?_, hat 1 (by omega), hA, hb, by rw [List.getElem?_map, List.getElem?_eq_getElem (show i < elems.length by omega)]; rfl⟩
              have := hat 0 (by omega)
              simpa [Addr.add] using this
          haveI : Inhabited (Tm × Option Addr × Nat × DataW H) := ⟨(.node 0 [], none, 0, .nil)⟩
          obtain ⟨q, hq⟩ := Go.Deep.choose_lt each
          have hget : ∀ (i : Nat) (t : Tm), ((List.range len).map fun i => (q i).1)[i]? = some t → i < len ∧ t = (q i).1 := by
            intro i t e
            have hi : i < len := by have := (List.getElem?_eq_some_iff.1 e).1; simpa using this
            rw [List.getElem?_map, List.getElem?_range hi] at e
            simp at e
            exact ⟨hi, e.symm⟩
          refine ⟨.node f ((List.range len).map fun i => (q i).1), some a, cap, by simp [Tm.fn, Tm.args], hf64, ?_, ?_⟩
          · rcases Nat.eq_zero_or_pos len with h0 | h0
            · subst h0; exact .nil _ _
            · have c00 := (hq 0 h0).2.1
              simp only [Nat.zero_mul, Addr.add, if_true] at c00
              obtain ⟨blk, off, spot⟩ := a
              obtain rfl : spot = none := cell_spot c00
              have hblk : blk < W.heap.size := by
                unfold World.cell? at c00
                rcases Nat.lt_or_ge blk W.heap.size with h1 | h1
                · exact h1
                · simp [Array.getElem?_eq_none h1] at c00
              simp only [Tm.args]
              refine .row blk off cap _ (fun i => (q i).2.1) (fun i => (q i).2.2.1) (by simpa using hl) hblk (by unfold maxLen at hmax; simp; omega) (fun i t e => ?_) (fun i t e => ?_) (fun i t e => ?_) (fun i t e => ?_)
              · obtain ⟨hi, rfl⟩ := hget i t e
                exact (hq i hi).1
              · obtain ⟨hi, rfl⟩ := hget i t e
                have := (hq i hi).2.1
                rwa [Addr.add_lit] at this
              · obtain ⟨hi, rfl⟩ := hget i t e
                have := (hq i hi).2.2.1
                rwa [Addr.add_lit, Addr.add_lit] at this
              · obtain ⟨hi, rfl⟩ := hget i t e
                exact (hq i hi).2.2.2.1
          · subst hx
            have hb : sizes ((List.range len).map fun i => (q i).1) ≤ Rows.uptoBulkAll (elems.map (·.1)) := by
              refine bulk_all _ _ (by simp [hlenE]) fun i t d e1 e2 => ?_
              obtain ⟨hi, rfl⟩ := hget i t e1
              have h5 := (hq i hi).2.2.2.2
              rw [h5.2] at e2
              cases e2
              exact h5.1
            simp only [ef, e1, Tm.size, List.map_cons, List.map_nil, Rows.uptoBulk, Rows.uptoBulkAll]
            omega

/-- A term that is an argument. -/
theorem openk_term {r : Reach} {b0 : Nat} {v : Value} {d : DataW H} {ps : List MemPlace} (hv : Value.okWide Try.prog W r b0 27 v) (h : DataW.Trod enc Try.prog W base (fun _ => true) held 27 v d ps) :
    ∃ (t : Tm) (A : Option Addr) (c : Nat), v = .agg #[.int .i64 t.fn, .slice A t.args.length c] ∧ I64 t.fn ∧ ArgsK W (· < W.heap.size) A c t.args ∧ t.size ≤ Rows.uptoBulk d := by
  obtain ⟨cs, rfl, _⟩ := okWide_struct Try.underlying27 hv
  obtain ⟨fuel, hf⟩ := h
  obtain ⟨t, A, c, hcs, h1, h2, h3⟩ := trodk_term _ _ _ hf
  refine ⟨t, A, c, ?_, h1, h2, h3⟩
  have hcs' : cs.toList = [.int .i64 t.fn, .slice A t.args.length c] := hcs
  rw [show cs = #[.int .i64 t.fn, .slice A t.args.length c] from Array.toList_inj.1 (by rw [hcs'])]

theorem cellsInts1 : Try.prog.cellsOf 22 = 1 := by kernel_rfl

theorem cellsBool2 : Try.prog.cellsOf 4 = 1 := by kernel_rfl

theorem cellsOrder : Try.prog.cellsOf 24 = 4 := by kernel_rfl

theorem trod_ints1 {n : Nat} {c0 : Value} {x : DataW H × List MemPlace} (hf : DataW.trod enc Try.prog W base (fun _ => true) held n 22 [c0] = some x) :
    ∃ (p : List Int) (A : Option Addr) (c : Nat), c0 = .slice A p.length c ∧ p.length ≤ c ∧ Ints W W.heap.size A p := by
  rcases open_ints Try.underlying22 Try.underlying3 cellsInt hf with ⟨hcs, _⟩ | ⟨ad, len, cap, zs, hcs, _, hn, hmax, hzl, _, hcell, hwf⟩
  · injection hcs with hcs _
    exact ⟨[], none, 0, hcs, Nat.le_refl _, ⟨by simp, by simp, fun h => by simp at h⟩⟩
  · injection hcs with hcs _
    subst hcs
    simp only [if_true] at hzl
    have hl : (zs.take len).length = len := by rw [List.length_take]; omega
    refine ⟨zs.take len, some ad, cap, by rw [hl], by omega, ⟨by unfold maxLen at hmax; omega, fun x hx => ?_, fun hpos => ?_⟩⟩
    · have := hwf x (List.mem_of_mem_take hx)
      simp [Lit.wf, IntKind.min, IntKind.max, IntKind.signed, IntKind.bits] at this
      exact this
    · have c0 := hcell 0 (by omega)
      obtain ⟨blk, off, spot⟩ := ad
      simp only [Addr.add, if_true] at c0
      obtain rfl : spot = none := cell_spot c0
      refine ⟨blk, off, rfl, World.block_lt_of_cell? W _ c0, fun i x hi => ?_⟩
      have hil := (List.getElem?_eq_some_iff.1 hi).1
      have h1 := hcell i (by omega)
      rw [Addr.add_lit] at h1
      rw [h1]
      rw [List.getElem?_take] at hi
      split at hi
      · rw [List.getD_eq_getElem?_getD, hi]; rfl
      · cases hi

theorem open_order {r : Reach} {b0 : Nat} {v : Value} {d : DataW H} {ps : List MemPlace} (hv : Value.okWide Try.prog W r b0 24 v) (h : DataW.Trod enc Try.prog W base (fun _ => true) held 24 v d ps) :
    ∃ (o : Odr) (P Q : Option Addr) (pc qc : Nat), v = .agg #[.bool o.lpo, .slice P o.prec.length pc, .slice Q o.wts.length qc, .int .i64 o.var] ∧ OdrM W W.heap.size o P Q ∧ o.prec.length ≤ pc ∧ o.wts.length ≤ qc := by
  obtain ⟨cs, rfl, _⟩ := okWide_struct Try.underlying24 hv
  obtain ⟨fuel, hf⟩ := h
  have hf' : DataW.trod enc Try.prog W base (fun _ => true) held fuel 24 cs.toList = some (d, ps) := hf
  obtain ⟨xs, n', _, hx, hlen, hxs, hg⟩ := DataW.trod_struct Try.underlying24 hf'
  rw [cellsOrder] at hlen
  obtain ⟨l, hl⟩ : ∃ l, cs.toList = l := ⟨_, rfl⟩
  rw [hl] at hlen hg
  match l, hlen, hl with
  | [c0, c1, c2, c3], _, hl =>
    have hx2 : xs.length = 4 := by rw [hxs]; rfl
    match xs, hx2 with
    | [x0, x1, x2, x3], _ =>
      have g0 := hg 0 _ rfl
      have g1 := hg 1 _ rfl
      have g2 := hg 2 _ rfl
      have g3 := hg 3 _ rfl
      simp [cellsBool2] at g0
      simp [cellsInts1] at g1
      simp [cellsInts1] at g2
      simp [cellsInt] at g3
      obtain ⟨b, hbv, _⟩ := DataW.trod_bool Try.underlying4 g0
      injection hbv with hbv
      subst hbv
      obtain ⟨p, P, pc, rfl, h1, h2⟩ := trod_ints1 g1
      obtain ⟨q, Q, qc, rfl, h3, h4⟩ := trod_ints1 g2
      obtain ⟨f, hfv, _, hw⟩ := DataW.trod_int Try.underlying3 g3
      injection hfv with hfv
      subst hfv
      have hf64 : I64 f := by
        have := hw
        simp [Lit.wf, IntKind.min, IntKind.max, IntKind.signed, IntKind.bits] at this
        exact this
      refine ⟨⟨b, p, q, f⟩, P, Q, pc, qc, ?_, ⟨h2, h4, hf64⟩, h1, h3⟩
      rw [show cs = #[.bool b, .slice P p.length pc, .slice Q q.length qc, .int .i64 f] from Array.toList_inj.1 (by rw [hl])]

end

end Go.Proofs.Ytbchignbndgigaa

/- A law's last step, whatever its arguments: it answered true, and below the heap's old size nothing has turned. -/

namespace Go.Proofs.Ytbchignbndgigaa

open Go.ChangeShapes Go.WideShapes Go.ChangeAt Go.RowKit

section

variable {H : Type} {enc : TypeId × Value → H} {P : Program}

theorem trodAll_later (hl : laidOutB P = true) {W W' : World} (hb : Below W.heap.size W W') : ∀ {ts : List TypeId} {vs : List Value} {ds : List (DataW H)} {ps : List MemPlace},
    (ts.all fun t => P.readableRec t && decide (t < P.types.size)) = true → (∀ x ∈ ps, x.block < W.heap.size) → DataW.TrodAll enc P W 0 (fun _ => true) true ts vs ds ps → DataW.TrodAll enc P W' 0 (fun b => decide (b < W.heap.size)) true ts vs ds ps
  | [], [], [], _, _, _, h => h
  | [], [], _ :: _, _, _, _, h => h.elim
  | [], _ :: _, _, _, _, _, h => h.elim
  | _ :: _, [], _, _, _, _, h => h.elim
  | _ :: _, _ :: _, [], _, _, _, h => h.elim
  | t :: ts, v :: vs, d :: ds, ps, hr, hlt, h => by
    obtain ⟨p, q, h1, h2, rfl⟩ := h
    simp only [List.all_cons, Bool.and_eq_true, decide_eq_true_eq] at hr
    exact ⟨p, q, Below.trod hl hr.1.1 hr.1.2 h1 hb (fun x hx => hlt x (List.mem_append_left _ hx)), trodAll_later hl hb hr.2 (fun x hx => hlt x (List.mem_append_right _ hx)) h2, rfl⟩

theorem law_post (hl : laidOutB P = true) {f : Func} {s : ChangeSpec} {tb : TypeId} (hv : s.vars = []) (hrt : f.resultTypes = #[tb]) (htb : P.underlying tb = some .bool)
    (hread : (f.params.toList.all fun t => P.readableRec t && decide (t < P.types.size)) = true) {W W' : World} {args : Array Value} {ds gs : List (DataW H)} {before : List MemPlace}
    (hW : DataW.Whole enc P f.params.toList s.vars false W args.toList ds gs before) (hfn : s.fn H (ds ++ gs) = { results := [.lit (.bool true)], args := ds }) (hb : Below W.heap.size W W') :
    s.post enc P f false true false false W args (.bool true) W' := by
  have hlt := hW.lt
  have hW' := hW
  obtain ⟨p, q, hA, hV, rfl, hfz, _⟩ := hW'
  have hV' : gs = [] ∧ q = [] := by
    rw [hv] at hV
    cases gs with
    | nil => exact ⟨rfl, hV⟩
    | cons _ _ => exact hV.elim
  obtain ⟨rfl, rfl⟩ := hV'
  have hold : ∀ x ∈ p, x.block < W.heap.size := fun x hx => hlt x (by simp [hx])
  refine ⟨ds, [], p ++ [], [], p, [], hW, ?_, ?_, ?_, World.keptBut_mono (fun x hx => ⟨hx, ?_⟩) (hb.frame (· ∈ p ++ [])), fun h => by cases h⟩
  · rw [hfn, hrt]
    exact trodAll_mk1 (shut_bool htb _)
  · rw [hfn]
    exact trodAll_later hl hb hread hold hA
  · rw [hfn, hv]
    rfl
  · rw [List.append_nil] at hx
    exact .inr (.inl hx)

end

end Go.Proofs.Ytbchignbndgigaa

