import Derived.Test.YtkpkhnaflohjpaaDoorP27Z1
import Derived.Shelf.Abstract
import Derived.OwnWalkIn
import Derived.TacticsInMore
import Derived.LoopNIn
import Derived.LoopIn
import Derived.Sort.CutIn
import Derived.Maps.AppendAt
import Derived.Lib.RowBridge
import Derived.Test.YtkpkhnaflohjpaaDoorRows
import Derived.ProofKit
import Derived.Below
import Derived.Carry
import Derived.Test.YtkpkhnaflohjpaaDoorCards
import Derived.WalkKit
import Derived.OpenShut
import Derived.Deep.DeepHandedRow
import Derived.MakeChecks
/- A region that draws its order: each operation leaves a value that is known ahead; the stores among them turn the world, one behind another: the k-th from W k to W (k + 1). -/

namespace Go.Proofs.YtkpkhnaflohjpaaDoor

open Go Go.RowKit

def cntT (b : Array Bool) (ss : List Nat) : Nat := ss.countP fun i => b.getD i false

theorem cntT_set {b : Array Bool} {i : Nat} (hi : i < b.size) (h0 : b.getD i false = false) : ∀ ss : List Nat, ss.Nodup → cntT (b.setIfInBounds i true) ss = cntT b ss + (if i ∈ ss then 1 else 0)
  | [], _ => by simp [cntT]
  | s :: ss, h => by
    rw [List.nodup_cons] at h
    have ih := cntT_set hi h0 ss h.2
    unfold cntT at ih ⊢
    rw [List.countP_cons, List.countP_cons, ih]
    by_cases e : i = s
    · subst e
      rw [if_neg h.1, if_pos (show i ∈ i :: ss by simp), if_pos ((getD_put hi).2 (.inl rfl)), h0, if_neg (by simp)]
    · rw [getD_set_ne false e]
      by_cases hm : i ∈ ss
      · rw [if_pos hm, if_pos (show i ∈ s :: ss by simp [hm])]; omega
      · rw [if_neg hm, if_neg (show ¬ i ∈ s :: ss by simp [hm, e])]; omega

/-- One operation, at each stage at which its turn may come. -/
def stepS (P : Program) (Fs : List Fct) (a0 : Act) (W : Nat → World) (st : Bool) (o : Oper) (ds : List (Nat × Option Nat)) (ks : List Nat) (x : Value) : Prop :=
  o.guard = none ∧ ∀ k ∈ ks, ∀ (a : Act), lookF Fs a0 a (W k) ds → leaves P (fun v w' => w' = W (if st then k + 1 else k) ∧ v = x) ((execOp a.eval o).run P (W k))

def stepsS (P : Program) (Fs : List Fct) (a0 : Act) (W : Nat → World) (ss : List Nat) : Nat → List Oper → List (List (Nat × Option Nat)) → List (List Nat) → List Value → Prop
  | i, o :: l, ds :: dl, ks :: kl, x :: xs => stepS P Fs a0 W (decide (i ∈ ss)) o ds ks x ∧ stepsS P Fs a0 W ss (i + 1) l dl kl xs
  | _, [], [], [], [] => True
  | _, _, _, _, _ => False

theorem stepsS_get {P : Program} {Fs : List Fct} {a0 : Act} {W : Nat → World} {ss : List Nat} : ∀ {l : List Oper} {dl : List (List (Nat × Option Nat))} {kl : List (List Nat)} {xs : List Value} (b : Nat), stepsS P Fs a0 W ss b l dl kl xs → ∀ (i : Nat) (o : Oper), l[i]? = some o → ∃ ds ks x, dl[i]? = some ds ∧ kl[i]? = some ks ∧ xs[i]? = some x ∧ stepS P Fs a0 W (decide (b + i ∈ ss)) o ds ks x
  | o :: l, ds :: dl, ks :: kl, x :: xs, b, h, 0, o', ho => by
    simp at ho
    subst ho
    exact ⟨ds, ks, x, rfl, rfl, rfl, h.1⟩
  | o :: l, ds :: dl, ks :: kl, x :: xs, b, h, i + 1, o', ho => by
    have := stepsS_get (b + 1) h.2 i o' (by simpa using ho)
    rw [show b + 1 + i = b + (i + 1) by omega] at this
    exact this
  | [], _, _, _, _, _, i, o', ho => by simp at ho
  | _ :: _, [], _, _, _, h, _, _, _ => by simp [stepsS] at h
  | _ :: _, _ :: _, [], _, _, h, _, _, _ => by simp [stepsS] at h
  | _ :: _, _ :: _, _ :: _, [], _, h, _, _, _ => by simp [stepsS] at h

theorem stepsS_len {P : Program} {Fs : List Fct} {a0 : Act} {W : Nat → World} {ss : List Nat} : ∀ {l : List Oper} {dl : List (List (Nat × Option Nat))} {kl : List (List Nat)} {xs : List Value} (b : Nat), stepsS P Fs a0 W ss b l dl kl xs → l.length = xs.length
  | o :: l, ds :: dl, ks :: kl, x :: xs, b, h => by rw [List.length_cons, List.length_cons, stepsS_len (b + 1) h.2]
  | [], [], [], [], _, _ => rfl
  | [], [], [], _ :: _, _, h => by simp [stepsS] at h
  | [], [], _ :: _, _, _, h => by simp [stepsS] at h
  | [], _ :: _, _, _, _, h => by simp [stepsS] at h
  | _ :: _, [], _, _, _, h => by simp [stepsS] at h
  | _ :: _, _ :: _, [], _, _, h => by simp [stepsS] at h
  | _ :: _, _ :: _, _ :: _, [], _, h => by simp [stepsS] at h

def waitsAt (l : List Oper) (s i : Nat) : Bool := match l[s]? with | some o => waits o i | none => false

/-- The stages at which the i-th one's turn may come are among those listed. -/
def stgB (l : List Oper) (ss : List Nat) (kl : List (List Nat)) : Bool :=
  decide ss.Nodup && (ss.all (fun s => decide (s < l.length)) &&
  (l.zipIdx.zip kl).all fun x => (List.range (ss.length + 1)).all fun k => x.2.contains k || (decide (k < ss.countP fun s => waits x.1.1 s) || decide ((ss.countP fun s => decide (s ≠ x.1.2) && !waitsAt l s x.1.2) < k)))

structure InvS (vals : List Value) (n : Nat) (l : List Oper) (a0 : Act) (ss : List Nat) (W : Nat → World) (listed : Array Bool) (a : Act) (w : World) : Prop where
  ls : listed.size = l.toArray.size
  cl : ∀ (j : Nat) (o : Oper), l[j]? = some o → listed.getD j false = true → ∀ e ∈ o.after, Region.binds .any e = true → listed.getD e.on false = true
  sz : a.tmps.size = n
  df : a.defers = a0.defers
  ot : ∀ t, (∀ o ∈ l, o.dst ≠ some t) → a.tmps[t]? = a0.tmps[t]?
  fs : ∀ (j : Nat) (o : Oper) (d : Nat), l[j]? = some o → o.dst = some d → listed.getD j false = true → a.eval (.tmp d) = vals.getD j undef
  wd : w = W (cntT listed ss)

section

variable {P : Program} {Q : Exit → Act → World → Prop}

theorem wp_region_stages {id : Nat} {a : Act} {w : World} {l : List Oper} (n : Nat) (dl : List (List (Nat × Option Nat))) (kl : List (List Nat)) (vals : List Value) (ss : List Nat) (W : Nat → World) (hm : P.follows .mixedOrders = true) (hk : kindF n l dl = true) (hg : stgB l ss kl = true) (hn : a.tmps.size = n)
    (hw : w.drew = W 0) (h : stepsS P (vals.map Fct.eq) a W ss 0 l dl kl vals) (hf : finF (fun a' w'' => Q .normal a' w'') (W ss.length) l (vals.map Fct.eq) a) : (Code.region id l.toArray true).wp P Q a w := by
  have K := kindF_spec hk
  have hlen := stepsS_len 0 h
  unfold stgB at hg
  rw [Bool.and_eq_true, Bool.and_eq_true, decide_eq_true_eq] at hg
  obtain ⟨hnd, hsl, hst⟩ := hg
  have hFd : ∀ (j : Nat) (v : Value) (w : World), ((vals.map Fct.eq).getD j Fct.any).p v w ↔ (j < vals.length → v = vals.getD j undef) := fun j v w => by
    rw [List.getD_eq_getElem?_getD, List.getD_eq_getElem?_getD, List.getElem?_map]
    by_cases hj : j < vals.length
    · rw [List.getElem?_eq_getElem hj]; simp [Fct.eq, hj]
    · rw [List.getElem?_eq_none (by omega)]; simp [Fct.any, hj]
  have hstep : ∀ listed a' w' i, InvS vals n l a ss W listed a' w' → i ∈ Region.ready .any l.toArray listed → wpOp P l.toArray Q i (fun a'' w'' => InvS vals n l a ss W (listed.setIfInBounds i true) a'' w'') a' w' := by
    intro listed a' w' i hI hi
    obtain ⟨h0, o, ho, haf⟩ := mem_ready.1 hi
    have ho' : l[i]? = some o := by simpa using ho
    have hil := (List.getElem?_eq_some_iff.1 ho').1
    have hlt0 : i < listed.size := by rw [hI.ls]; simpa using hil
    have hi0 : listed.getD i false = false := by simpa [hlt0] using h0
    obtain ⟨ds, ks, x, hds, hks, hx, hgn, hgo⟩ := stepsS_get 0 h i o ho'
    rw [Nat.zero_add] at hgo
    have hxv : vals.getD i undef = x := by simp [hx]
    -- the stage
    have hstage : cntT listed ss ∈ ks := by
      have hmem : ((o, i), ks) ∈ l.zipIdx.zip kl := by
        refine List.mem_of_getElem? (i := i) ?_
        rw [List.getElem?_zip_eq_some]
        exact ⟨by rw [List.getElem?_zipIdx, ho']; simp, hks⟩
      have h1 := List.all_eq_true.1 hst _ hmem
      have hle : cntT listed ss ≤ ss.length := List.countP_le_length
      have h2 := List.all_eq_true.1 h1 (cntT listed ss) (List.mem_range.2 (by omega))
      simp only [Bool.or_eq_true, decide_eq_true_eq] at h2
      rcases h2 with h2 | h2 | h2
      · exact List.contains_iff_mem.1 h2
      · exfalso
        have : (ss.countP fun s => waits o s) ≤ cntT listed ss := List.countP_mono_left fun s _ hs => by
          obtain ⟨e, he, hb, hon⟩ := waits_spec hs
          rw [← hon]; exact haf e he hb
        omega
      · exfalso
        have : cntT listed ss ≤ ss.countP fun s => decide (s ≠ i) && !waitsAt l s i := List.countP_mono_left fun s hs hl => by
          have hne : s ≠ i := fun e => by rw [e, hi0] at hl; cases hl
          rw [Bool.and_eq_true, decide_eq_true_eq, Bool.not_eq_true']
          refine ⟨hne, ?_⟩
          have hsl' : s < l.length := of_decide_eq_true (List.all_eq_true.1 hsl s hs)
          unfold waitsAt
          rw [List.getElem?_eq_getElem hsl']
          show waits l[s] i = false
          cases hw : waits l[s] i with
          | false => rfl
          | true =>
            obtain ⟨e, he, hb, hon⟩ := waits_spec hw
            have := hI.cl s _ (List.getElem?_eq_getElem hsl') hl e he hb
            rw [hon, hi0] at this; cases this
        omega
    have hlisted : ∀ j o1 d, l[j]? = some o1 → o1.dst = some d → (∃ e ∈ o.after, Region.binds .any e = true ∧ e.on = j) → a'.eval (.tmp d) = vals.getD j undef := fun j o1 d hj hd ⟨e, he, hb, hej⟩ =>
      hI.fs j o1 d hj hd (by rw [← hej]; exact haf e he hb)
    unfold wpOp
    simp only [ho]
    have hwd : Region.wanted o (yielded l.toArray a'.tmps) = true := by
      unfold Region.wanted
      rw [hgn]
    simp only [hwd, if_true]
    rw [hI.wd]
    refine .inl (leaves_wp (hgo _ hstage a' (lookF_of (l := l) (o := o) ds fun t s hts => ?_)) fun v w'' ⟨hw'', hv⟩ => ?_)
    · have h3 := K.lk i o ds t s ho' hds hts
      cases s with
      | none =>
        have := hI.ot t h3
        simp only [Act.eval, Array.getD_eq_getD_getElem?, this]
      | some j =>
        obtain ⟨o1, hj, hd, he⟩ := h3
        exact (hFd j _ _).2 fun _ => hlisted j o1 t hj hd he
    · subst hw'' hv
      refine ⟨by simpa using hI.ls, fun j o1 hj hl e he hbd => ?_, ?_, ?_, fun t ht => ?_, fun j o1 d hj hd hl => ?_, ?_⟩
      · rw [getD_put hlt0] at hl ⊢
        rcases hl with rfl | hl
        · obtain rfl : o1 = o := by rw [ho'] at hj; injection hj with hj; exact hj.symm
          exact .inr (haf e he hbd)
        · exact .inr (hI.cl j o1 hj hl e he hbd)
      · rw [← hI.sz]; cases o.dst <;> simp [Act.put]
      · rw [← hI.df]; cases o.dst <;> simp [Act.put]
      · rw [← hI.ot t ht]
        cases hd : o.dst with
        | none => rfl
        | some d =>
          have hne : d ≠ t := fun e => ht o (List.mem_of_getElem? ho') (by rw [hd, e])
          simp [Act.put, Array.getElem?_setIfInBounds_ne hne]
      · by_cases hji : j = i
        · subst hji
          obtain rfl : o1 = o := by rw [ho'] at hj; injection hj with hj; exact hj.symm
          rw [hd, hxv]
          have hlt : d < a'.tmps.size := by rw [hI.sz]; exact K.dn j o1 d hj hd
          simp [Act.put, Act.eval, hlt]
        · have hl' : listed.getD j false = true := by rwa [getD_set_ne false (Ne.symm hji)] at hl
          rw [← hI.fs j o1 d hj hd hl']
          cases hd' : o.dst with
          | none => rfl
          | some d' =>
            refine Act.eval_put fun x hx e => ?_
            injection hx with hx
            injection e with e
            exact hji (K.un j o1 i o d hj ho' hd (by rw [hd', hx, e]))
      · rw [cntT_set hlt0 hi0 ss hnd]
        by_cases hm : i ∈ ss
        · rw [if_pos hm, decide_eq_true hm, if_pos rfl]
        · rw [if_neg hm, decide_eq_false hm, if_neg (by simp)]; rfl
  refine wp_region_any hm (wpAny_inv (InvS vals n l a ss W) (fun _ _ _ hI => hI.ls) hstep (fun listed a' w' hI hr => ?_) (fun listed hs hc => ?_) _ _ a w.drew ?_ ⟨by simp, fun j o hj hl => ?_, hn, rfl, fun _ _ => rfl, fun j o d hj hd hl => ?_, ?_⟩)
  · have hall : ∀ j o, l[j]? = some o → listed.getD j false = true := by
      intro j
      induction j using Nat.strongRecOn with
      | _ j ih =>
        intro o hj
        cases hl : listed.getD j false with
        | true => rfl
        | false =>
          have : j ∈ Region.ready .any l.toArray listed := by
            refine mem_ready.2 ⟨?_, o, by simpa using hj, fun e he hb => ?_⟩
            · have hlt : j < listed.size := by rw [hI.ls]; simpa using (List.getElem?_eq_some_iff.1 hj).1
              simpa [hlt] using hl
            · have h1 := K.ac j o hj e he hb
              have h2 : e.on < l.length := Nat.lt_trans h1 (List.getElem?_eq_some_iff.1 hj).1
              exact ih e.on h1 _ (List.getElem?_eq_getElem h2)
          rw [hr] at this
          cases this
    have hcnt : cntT listed ss = ss.length := List.countP_eq_length.2 fun s hs => by
      have hsl' : s < l.length := of_decide_eq_true (List.all_eq_true.1 hsl s hs)
      exact hall s _ (List.getElem?_eq_getElem hsl')
    have hwl := hI.wd
    rw [hcnt] at hwl
    subst hwl
    refine finF_of (Fs := vals.map Fct.eq) (Q := fun a' w'' => Q .normal a' w'') l (vals.map Fct.eq) a hf hI.df (by rw [hI.sz, hn]) (by rw [List.length_map]; exact hlen) hI.ot fun i o p d e1 e2 e3 => ⟨by rw [hI.sz]; exact K.dn i o d e1 e3, ?_⟩
    have h1 := hI.fs i o d e1 e3 (hall i o e1)
    have h2 := (hFd i (a'.eval (.tmp d)) (W ss.length)).2 fun _ => h1
    simpa [e2] using h2
  · refine List.eq_nil_iff_forall_not_mem.2 fun i hi => ?_
    obtain ⟨h0, o, ho, _⟩ := mem_ready.1 hi
    have hlt : i < listed.size := by rw [hs]; exact (Array.getElem?_eq_some_iff.1 ho).1
    have hf' : listed.toList[i]'(by simpa using hlt) = false := by simpa [hlt] using h0
    have : 0 < listed.toList.count false := List.count_pos_iff.2 (by rw [← hf']; exact List.getElem_mem _)
    omega
  · simp
  · exfalso
    rw [Array.getD_eq_getD_getElem?, Array.getElem?_replicate] at hl
    by_cases hj' : j < l.toArray.size
    · rw [if_pos hj'] at hl; cases hl
    · rw [if_neg hj'] at hl; cases hl
  · exfalso
    rw [Array.getD_eq_getD_getElem?, Array.getElem?_replicate] at hl
    by_cases hj' : j < l.toArray.size
    · rw [if_pos hj'] at hl; cases hl
    · rw [if_neg hj'] at hl; cases hl
  · rw [hw]
    have : cntT (Array.replicate l.toArray.size false) ss = 0 := by
      unfold cntT
      rw [List.countP_eq_zero]
      intro s _
      rw [Array.getD_eq_getD_getElem?, Array.getElem?_replicate]
      split <;> simp
    rw [this]

end

end Go.Proofs.YtkpkhnaflohjpaaDoor

/- A region that draws its order: values that are known ahead, calls that make memory, and new boxes, each filled once, in whatever order the machine goes about it. -/

namespace Go.Proofs.YtkpkhnaflohjpaaDoor

open Go Go.RowKit

/-- A new box: the operation that makes it, its slot, the operation that fills it, what lies in it ahead of that and behind it. -/
structure BoxN where
  j : Nat
  d : Nat
  k : Nat
  z : Array Value
  x : Array Value
  ty : TypeId

/-- What each operation is. -/
inductive KdB
  | val (v : Value)
  | box (r : BoxN)
  | put (r : BoxN)

/-- The slot's value is a new box with what is to lie in it. -/
def boxF (n0 : Nat) (r : BoxN) : Fct := ⟨fun v w => ∃ b, v = .pointer (some ⟨b, 0, none⟩) ∧ n0 ≤ b ∧ b < w.heap.size ∧ w.heap[b]? = some (.cells r.x r.ty), fun ⟨b, hv, h1, h2, h3⟩ hb => ⟨b, hv, h1, Nat.lt_of_lt_of_le h2 hb.size, (hb.block b h2).trans h3⟩⟩

def KdB.f (n0 : Nat) : KdB → Fct
  | .val v => Fct.eq v
  | .box r => boxF n0 r
  | .put _ => Fct.any

def KdB.v : KdB → Fct
  | .val v => Fct.eq v
  | _ => Fct.any

def stepB (P : Program) (Fs : List Fct) (a0 : Act) (W : World) (o : Oper) (ds : List (Nat × Option Nat)) : KdB → Prop
  | .val x => o.guard = none ∧ ∀ (a : Act) (w : World), Below W.heap.size W w → lookF Fs a0 a w ds → leaves P (fun v w' => v = x ∧ Below w.heap.size w w') ((execOp a.eval o).run P w)
  | .box r => o.guard = none ∧ ∀ (a : Act) (w : World), (execOp a.eval o).run P w = .ok (.value (.pointer (some ⟨w.heap.size, 0, none⟩))) (w.alloc (.cells r.z r.ty))
  | .put r => o.guard = none ∧ ∀ (a : Act) (w : World) (b : Nat), a.eval (.tmp r.d) = .pointer (some ⟨b, 0, none⟩) → w.heap[b]? = some (.cells r.z r.ty) → lookF Fs a0 a w ds →
      leaves P (fun _ w' => w'.heap[b]? = some (.cells r.x r.ty) ∧ (∀ g, g ≠ b → w'.heap[g]? = w.heap[g]?) ∧ w'.os = w.os ∧ w'.tape = w.tape ∧ w'.output = w.output ∧ w'.heap.size = w.heap.size) ((execOp a.eval o).run P w)

def stepsB (P : Program) (Fs : List Fct) (a0 : Act) (W : World) : List Oper → List (List (Nat × Option Nat)) → List KdB → Prop
  | o :: l, ds :: dl, p :: pl => stepB P Fs a0 W o ds p ∧ stepsB P Fs a0 W l dl pl
  | [], [], [] => True
  | _, _, _ => False

theorem stepsB_get {P : Program} {Fs : List Fct} {a0 : Act} {W : World} : ∀ {l : List Oper} {dl : List (List (Nat × Option Nat))} {pl : List KdB}, stepsB P Fs a0 W l dl pl → ∀ (i : Nat) (o : Oper), l[i]? = some o → ∃ ds p, dl[i]? = some ds ∧ pl[i]? = some p ∧ stepB P Fs a0 W o ds p
  | o :: l, ds :: dl, p :: pl, h, 0, o', ho => by
    simp at ho
    subst ho
    exact ⟨ds, p, rfl, rfl, h.1⟩
  | o :: l, ds :: dl, p :: pl, h, i + 1, o', ho => stepsB_get h.2 i o' (by simpa using ho)
  | [], [], [], _, i, o', ho => by simp at ho
  | [], [], _ :: _, h, _, _, _ => h.elim
  | [], _ :: _, _, h, _, _, _ => h.elim
  | _ :: _, [], _, h, _, _, _ => h.elim
  | _ :: _, _ :: _, [], h, _, _, _ => h.elim

theorem stepsB_len {P : Program} {Fs : List Fct} {a0 : Act} {W : World} : ∀ {l : List Oper} {dl : List (List (Nat × Option Nat))} {pl : List KdB}, stepsB P Fs a0 W l dl pl → l.length = pl.length
  | o :: l, ds :: dl, p :: pl, h => by rw [List.length_cons, List.length_cons, stepsB_len h.2]
  | [], [], [], _ => rfl
  | [], [], _ :: _, h => h.elim
  | [], _ :: _, _, h => h.elim
  | _ :: _, [], _, h => h.elim
  | _ :: _, _ :: _, [], h => h.elim

structure InvB2 (Fs : List Fct) (n : Nat) (l : List Oper) (rs : List BoxN) (a0 : Act) (W : World) (listed : Array Bool) (a : Act) (w : World) : Prop where
  ls : listed.size = l.toArray.size
  cl : ∀ (j : Nat) (o : Oper), l[j]? = some o → listed.getD j false = true → ∀ e ∈ o.after, Region.binds .any e = true → listed.getD e.on false = true
  bl : Below W.heap.size W w
  sz : a.tmps.size = n
  df : a.defers = a0.defers
  ot : ∀ t, (∀ o ∈ l, o.dst ≠ some t) → a.tmps[t]? = a0.tmps[t]?
  fs : ∀ (j : Nat) (o : Oper) (d : Nat), l[j]? = some o → o.dst = some d → listed.getD j false = true → (Fs.getD j Fct.any).p (a.eval (.tmp d)) w
  bx : ∀ r ∈ rs, listed.getD r.j false = true → ∃ b, a.eval (.tmp r.d) = .pointer (some ⟨b, 0, none⟩) ∧ W.heap.size ≤ b ∧ b < w.heap.size ∧ w.heap[b]? = some (.cells (if listed.getD r.k false then r.x else r.z) r.ty)
  dj : ∀ r ∈ rs, ∀ r' ∈ rs, r.j ≠ r'.j → listed.getD r.j false = true → listed.getD r'.j false = true → ∀ b, a.eval (.tmp r.d) = .pointer (some ⟨b, 0, none⟩) → a.eval (.tmp r'.d) ≠ .pointer (some ⟨b, 0, none⟩)

/-- What is asked of the boxes. -/
structure BoxOk (l : List Oper) (pl : List KdB) (rs : List BoxN) : Prop where
  md : ∀ r ∈ rs, ∃ o, l[r.j]? = some o ∧ o.dst = some r.d ∧ pl[r.j]? = some (.box r)
  pt : ∀ r ∈ rs, ∃ o, l[r.k]? = some o ∧ o.dst = none ∧ pl[r.k]? = some (.put r) ∧ waits o r.j = true
  un : ∀ r ∈ rs, ∀ r' ∈ rs, r.j = r'.j ∨ r.k = r'.k → r = r'
  al : ∀ (i : Nat) (r : BoxN), pl[i]? = some (.box r) → r ∈ rs ∧ r.j = i
  ap : ∀ (i : Nat) (r : BoxN), pl[i]? = some (.put r) → r ∈ rs ∧ r.k = i

section

variable {P : Program} {Q : Exit → Act → World → Prop}

theorem wp_region_boxes {id : Nat} {a : Act} {w : World} {l : List Oper} (n : Nat) (dl : List (List (Nat × Option Nat))) (pl : List KdB) (rs : List BoxN) (hm : P.follows .mixedOrders = true) (hk : kindF n l dl = true) (hg : BoxOk l pl rs) (hn : a.tmps.size = n)
    (h : stepsB P (pl.map KdB.v) a w.drew l dl pl) (hf : ∀ w', Below w.drew.heap.size w.drew w' → finF (fun a' w'' => (∀ r ∈ rs, ∀ r' ∈ rs, r.j ≠ r'.j → ∀ b, a'.eval (.tmp r.d) = .pointer (some ⟨b, 0, none⟩) → a'.eval (.tmp r'.d) ≠ .pointer (some ⟨b, 0, none⟩)) → Q .normal a' w'') w' l (pl.map (KdB.f w.drew.heap.size)) a) : (Code.region id l.toArray true).wp P Q a w := by
  have K := kindF_spec hk
  have hlen := stepsB_len h
  have hget : ∀ (j : Nat) (k : KdB), pl[j]? = some k → (pl.map KdB.v).getD j Fct.any = k.v := fun j k hj => by
    rw [List.getD_eq_getElem?_getD, List.getElem?_map, hj]; rfl
  have hstep : ∀ listed a' w' i, InvB2 (pl.map KdB.v) n l rs a w.drew listed a' w' → i ∈ Region.ready .any l.toArray listed → wpOp P l.toArray Q i (fun a'' w'' => InvB2 (pl.map KdB.v) n l rs a w.drew (listed.setIfInBounds i true) a'' w'') a' w' := by
    intro listed a' w' i hI hi
    obtain ⟨h0, o, ho, haf⟩ := mem_ready.1 hi
    have ho' : l[i]? = some o := by simpa using ho
    have hil := (List.getElem?_eq_some_iff.1 ho').1
    have hlt0 : i < listed.size := by rw [hI.ls]; simpa using hil
    have hi0 : listed.getD i false = false := by simpa [hlt0] using h0
    obtain ⟨ds, p, hds, hp, hst⟩ := stepsB_get h i o ho'
    have hlook : lookF (pl.map KdB.v) a a' w' ds := lookF_of (l := l) (o := o) ds fun t s hts => by
      have h3 := K.lk i o ds t s ho' hds hts
      cases s with
      | none =>
        have := hI.ot t h3
        simp only [Act.eval, Array.getD_eq_getD_getElem?, this]
      | some j =>
        obtain ⟨o1, hj, hd, e, he, hb, hej⟩ := h3
        exact hI.fs j o1 t hj hd (by rw [← hej]; exact haf e he hb)
    -- what stays of all slots but the one that is written
    have hput : ∀ (v : Value) (d : Nat), o.dst ≠ some d → (a'.put o.dst v).eval (.tmp d) = a'.eval (.tmp d) := fun v d hne => by
      cases hd' : o.dst with
      | none => rfl
      | some d' =>
        refine Act.eval_put fun x hx e => ?_
        injection hx with hx
        injection e with e
        exact hne (by rw [hd', hx, e])
    have hcommon : ∀ (v : Value) (w'' : World), (∀ (j : Nat) (o1 : Oper) (d : Nat), l[j]? = some o1 → o1.dst = some d → (j = i ∨ listed.getD j false = true) → ((pl.map KdB.v).getD j Fct.any).p ((a'.put o.dst v).eval (.tmp d)) w'') → Below w.drew.heap.size w.drew w'' →
        (∀ r ∈ rs, (r.j = i ∨ listed.getD r.j false = true) → ∃ b, (a'.put o.dst v).eval (.tmp r.d) = .pointer (some ⟨b, 0, none⟩) ∧ w.drew.heap.size ≤ b ∧ b < w''.heap.size ∧ w''.heap[b]? = some (.cells (if (listed.setIfInBounds i true).getD r.k false then r.x else r.z) r.ty)) →
        (∀ r ∈ rs, ∀ r' ∈ rs, r.j ≠ r'.j → (r.j = i ∨ listed.getD r.j false = true) → (r'.j = i ∨ listed.getD r'.j false = true) → ∀ b, (a'.put o.dst v).eval (.tmp r.d) = .pointer (some ⟨b, 0, none⟩) → (a'.put o.dst v).eval (.tmp r'.d) ≠ .pointer (some ⟨b, 0, none⟩)) →
        InvB2 (pl.map KdB.v) n l rs a w.drew (listed.setIfInBounds i true) (a'.put o.dst v) w'' := fun v w'' h1 h2 h3 h4 => by
      refine ⟨by simpa using hI.ls, fun j o1 hj hl e he hbd => ?_, h2, ?_, ?_, fun t ht => ?_, fun j o1 d hj hd hl => h1 j o1 d hj hd ((getD_put hlt0).1 hl), fun r hr hl => h3 r hr ((getD_put hlt0).1 hl), fun r hr r' hr' hne hl hl' => h4 r hr r' hr' hne ((getD_put hlt0).1 hl) ((getD_put hlt0).1 hl')⟩
      · rw [getD_put hlt0] at hl ⊢
        rcases hl with rfl | hl
        · obtain rfl : o1 = o := by rw [ho'] at hj; injection hj with hj; exact hj.symm
          exact .inr (haf e he hbd)
        · exact .inr (hI.cl j o1 hj hl e he hbd)
      · rw [← hI.sz]; cases o.dst <;> simp [Act.put]
      · rw [← hI.df]; cases o.dst <;> simp [Act.put]
      · rw [← hI.ot t ht]
        cases hd : o.dst with
        | none => rfl
        | some d =>
          have hne : d ≠ t := fun e => ht o (List.mem_of_getElem? ho') (by rw [hd, e])
          simp [Act.put, Array.getElem?_setIfInBounds_ne hne]
    have hval : ∀ (j : Nat) (o1 : Oper) (d : Nat) (x : Value) (w1 w2 : World), l[j]? = some o1 → o1.dst = some d → ((pl.map KdB.v).getD j Fct.any).p x w1 → ((pl.map KdB.v).getD j Fct.any).p x w2 := fun j o1 d x w1 w2 hj _ hx => by
      obtain ⟨_, k, _, hk', _⟩ := stepsB_get h j o1 hj
      rw [hget j k hk'] at hx ⊢
      cases k with
      | val v => exact hx
      | box r => trivial
      | put r => trivial
    have hrd : ∀ r ∈ rs, r.j ≠ i → o.dst ≠ some r.d := fun r hr hne e => by
      obtain ⟨o1, e1, e2, _⟩ := hg.md r hr
      exact hne (K.un r.j o1 i o r.d e1 ho' e2 e)
    have hsetk : ∀ k, k ≠ i → (listed.setIfInBounds i true).getD k false = listed.getD k false := fun k hne => getD_set_ne false (Ne.symm hne)
    unfold wpOp
    simp only [ho]
    have hgn : o.guard = none := by cases p <;> exact hst.1
    have hwd : Region.wanted o (yielded l.toArray a'.tmps) = true := by
      unfold Region.wanted
      rw [hgn]
    simp only [hwd, if_true]
    have hfsother : ∀ (v : Value) (w'' : World) (j : Nat) (o1 : Oper) (d : Nat), l[j]? = some o1 → o1.dst = some d → j ≠ i → listed.getD j false = true → ((pl.map KdB.v).getD j Fct.any).p ((a'.put o.dst v).eval (.tmp d)) w'' := fun v w'' j o1 d hj hd hne hl => by
      rw [hput v d fun e => hne (K.un j o1 i o d hj ho' hd e)]
      exact hval j o1 d _ w' w'' hj hd (hI.fs j o1 d hj hd hl)
    cases p with
    | val x =>
      have hki : ∀ r ∈ rs, r.k ≠ i ∧ r.j ≠ i := fun r hr => by
        refine ⟨fun e => ?_, fun e => ?_⟩
        · obtain ⟨_, _, _, e3, _⟩ := hg.pt r hr
          rw [e, hp] at e3
          cases e3
        · obtain ⟨_, _, _, e3⟩ := hg.md r hr
          rw [e, hp] at e3
          cases e3
      refine .inl (leaves_wp (hst.2 a' w' hI.bl hlook) fun v w'' ⟨hv, hb⟩ => ?_)
      subst hv
      refine hcommon v w'' (fun j o1 d hj hd hl => ?_) (hI.bl.trans (hb.mono hI.bl.size)) (fun r hr hl => ?_) (fun r hr r' hr' hne hl hl' b => ?_)
      · by_cases hji : j = i
        · subst hji
          obtain rfl : o1 = o := by rw [ho'] at hj; injection hj with hj; exact hj.symm
          rw [hget j _ hp, hd]
          have hlt : d < a'.tmps.size := by rw [hI.sz]; exact K.dn j o1 d hj hd
          show (a'.put (some d) v).eval (.tmp d) = v
          simp [Act.put, Act.eval, hlt]
        · exact hfsother v w'' j o1 d hj hd hji (hl.resolve_left hji)
      · obtain ⟨b, e1, e2, e3, e4⟩ := hI.bx r hr (hl.resolve_left (hki r hr).2)
        refine ⟨b, by rw [hput v r.d (hrd r hr (hki r hr).2)]; exact e1, e2, Nat.lt_of_lt_of_le e3 hb.size, ?_⟩
        rw [hsetk r.k (hki r hr).1]
        exact (hb.block b e3).trans e4
      · rw [hput v r.d (hrd r hr (hki r hr).2), hput v r'.d (hrd r' hr' (hki r' hr').2)]
        exact hI.dj r hr r' hr' hne (hl.resolve_left (hki r hr).2) (hl'.resolve_left (hki r' hr').2) b
    | box r0 =>
      obtain ⟨hr0, hj0⟩ := hg.al i r0 hp
      have hki : ∀ r ∈ rs, r.k ≠ i := fun r hr e => by
        obtain ⟨_, _, _, e3, _⟩ := hg.pt r hr
        rw [e, hp] at e3; cases e3
      have hk0 : listed.getD r0.k false = false := by
        cases hl : listed.getD r0.k false with
        | false => rfl
        | true =>
          obtain ⟨o1, e1, _, _, e4⟩ := hg.pt r0 hr0
          obtain ⟨e, he, hb, hon⟩ := waits_spec e4
          have := hI.cl r0.k o1 e1 hl e he hb
          rw [hon, hj0, hi0] at this; cases this
      have hod : o.dst = some r0.d := by
        obtain ⟨o1, e1, e2, _⟩ := hg.md r0 hr0
        rw [hj0, ho'] at e1
        injection e1 with e1
        rw [e1]; exact e2
      have hlt : r0.d < a'.tmps.size := by rw [hI.sz]; exact K.dn i o r0.d ho' hod
      have hnew : (a'.put o.dst (.pointer (some ⟨w'.heap.size, 0, none⟩))).eval (.tmp r0.d) = .pointer (some ⟨w'.heap.size, 0, none⟩) := by
        rw [hod]; simp [Act.put, Act.eval, hlt]
      refine .inl (leaves_wp (K := fun v w'' => v = .pointer (some ⟨w'.heap.size, 0, none⟩) ∧ w'' = w'.alloc (.cells r0.z r0.ty)) (by rw [hst.2 a' w']; exact ⟨rfl, rfl⟩) fun v w'' ⟨hv, hw⟩ => ?_)
      subst hv hw
      have hb : Below w'.heap.size w' (w'.alloc (.cells r0.z r0.ty)) := (Below.refl _ _).alloc (Nat.le_refl _) _
      refine hcommon _ _ (fun j o1 d hj hd hl => ?_) (hI.bl.trans (hb.mono hI.bl.size)) (fun r hr hl => ?_) (fun r hr r' hr' hne hl hl' b => ?_)
      · by_cases hji : j = i
        · subst hji
          rw [hget j _ hp]; trivial
        · exact hfsother _ _ j o1 d hj hd hji (hl.resolve_left hji)
      · by_cases hri : r.j = i
        · obtain rfl := hg.un r hr r0 hr0 (.inl (by rw [hri, hj0]))
          refine ⟨_, hnew, hI.bl.size, by simp, ?_⟩
          rw [hsetk r.k (hki r hr), hk0]
          exact heap_alloc_new _ _
        · obtain ⟨b, e1, e2, e3, e4⟩ := hI.bx r hr (hl.resolve_left hri)
          refine ⟨b, by rw [hput _ r.d (hrd r hr hri)]; exact e1, e2, Nat.lt_of_lt_of_le e3 hb.size, ?_⟩
          rw [hsetk r.k (hki r hr)]
          exact (hb.block b e3).trans e4
      · by_cases hri : r.j = i
        · obtain rfl := hg.un r hr r0 hr0 (.inl (by rw [hri, hj0]))
          have hri' : r'.j ≠ i := fun e => hne (by rw [hri, e])
          rw [hnew, hput _ r'.d (hrd r' hr' hri')]
          obtain ⟨b', e1, _, e3, _⟩ := hI.bx r' hr' (hl'.resolve_left hri')
          rw [e1]
          intro h1 h2
          injection h1 with h1; injection h1 with h1; injection h1 with h1
          injection h2 with h2; injection h2 with h2; injection h2 with h2
          omega
        · by_cases hri' : r'.j = i
          · obtain rfl := hg.un r' hr' r0 hr0 (.inl (by rw [hri', hj0]))
            rw [hnew, hput _ r.d (hrd r hr hri)]
            obtain ⟨b', e1, _, e3, _⟩ := hI.bx r hr (hl.resolve_left hri)
            rw [e1]
            intro h1 h2
            injection h1 with h1; injection h1 with h1; injection h1 with h1
            injection h2 with h2; injection h2 with h2; injection h2 with h2
            omega
          · rw [hput _ r.d (hrd r hr hri), hput _ r'.d (hrd r' hr' hri')]
            exact hI.dj r hr r' hr' hne (hl.resolve_left hri) (hl'.resolve_left hri') b
    | put r0 =>
      obtain ⟨hr0, hk0⟩ := hg.ap i r0 hp
      obtain ⟨o1, e1, hod, _, e4⟩ := hg.pt r0 hr0
      rw [hk0, ho'] at e1
      injection e1 with e1
      subst e1
      have hjl : listed.getD r0.j false = true := by
        obtain ⟨e, he, hb, hon⟩ := waits_spec e4
        rw [← hon]; exact haf e he hb
      have hji : ∀ r ∈ rs, r.j ≠ i := fun r hr e => by
        obtain ⟨_, _, _, e3⟩ := hg.md r hr
        rw [e, hp] at e3; cases e3
      obtain ⟨b0, f1, f2, f3, f4⟩ := hI.bx r0 hr0 hjl
      rw [hk0, hi0] at f4
      refine .inl (leaves_wp (hst.2 a' w' b0 f1 f4 hlook) fun v w'' ⟨g1, g2, g3, g4, g5, g6⟩ => ?_)
      have hpn : a'.put o.dst v = a' := by rw [hod]; rfl
      have hbl : Below w.drew.heap.size w.drew w'' := ⟨g3.trans hI.bl.os, g4.trans hI.bl.tape, g5.trans hI.bl.output, by rw [g6]; exact hI.bl.size, fun g hgl => (g2 g (by omega)).trans (hI.bl.block g hgl)⟩
      refine hcommon v w'' (fun j o2 d hj hd hl => ?_) hbl (fun r hr hl => ?_) (fun r hr r' hr' hne hl hl' b => ?_)
      · by_cases hjk : j = i
        · subst hjk
          rw [hget j _ hp]; trivial
        · exact hfsother v w'' j o2 d hj hd hjk (hl.resolve_left hjk)
      · rw [hpn]
        obtain ⟨b, h1, h2, h3, h4⟩ := hI.bx r hr (hl.resolve_left (hji r hr))
        refine ⟨b, h1, h2, by rw [g6]; exact h3, ?_⟩
        by_cases hrk : r.k = i
        · obtain rfl := hg.un r hr r0 hr0 (.inr (by rw [hrk, hk0]))
          rw [f1] at h1
          injection h1 with h1; injection h1 with h1; injection h1 with h1
          subst h1
          rw [if_pos (by rw [hrk]; exact (getD_put hlt0).2 (.inl rfl))]
          exact g1
        · rw [hsetk r.k hrk]
          refine (g2 b fun e => ?_).trans h4
          subst e
          exact hI.dj r hr r0 hr0 (fun e => hrk ((congrArg BoxN.k (hg.un r hr r0 hr0 (.inl e))).trans hk0)) (hl.resolve_left (hji r hr)) hjl b h1 f1
      · rw [hpn]
        exact hI.dj r hr r' hr' hne (hl.resolve_left (hji r hr)) (hl'.resolve_left (hji r' hr')) b
  refine wp_region_any hm (wpAny_inv (InvB2 (pl.map KdB.v) n l rs a w.drew) (fun _ _ _ hI => hI.ls) hstep (fun listed a' w' hI hr => ?_) (fun listed hs hc => ?_) _ _ a w.drew ?_ ⟨by simp, fun j o hj hl => ?_, Below.refl _ _, hn, rfl, fun _ _ => rfl, fun j o d hj hd hl => ?_, fun r hr hl => ?_, fun r hr r' hr' hne hl => ?_⟩)
  · have hall : ∀ j o, l[j]? = some o → listed.getD j false = true := by
      intro j
      induction j using Nat.strongRecOn with
      | _ j ih =>
        intro o hj
        cases hl : listed.getD j false with
        | true => rfl
        | false =>
          have : j ∈ Region.ready .any l.toArray listed := by
            refine mem_ready.2 ⟨?_, o, by simpa using hj, fun e he hb => ?_⟩
            · have hlt : j < listed.size := by rw [hI.ls]; simpa using (List.getElem?_eq_some_iff.1 hj).1
              simpa [hlt] using hl
            · have h1 := K.ac j o hj e he hb
              have h2 : e.on < l.length := Nat.lt_trans h1 (List.getElem?_eq_some_iff.1 hj).1
              exact ih e.on h1 _ (List.getElem?_eq_getElem h2)
          rw [hr] at this
          cases this
    refine (finF_of (Fs := pl.map (KdB.f w.drew.heap.size)) (Q := fun a' w'' => (∀ r ∈ rs, ∀ r' ∈ rs, r.j ≠ r'.j → ∀ b, a'.eval (.tmp r.d) = .pointer (some ⟨b, 0, none⟩) → a'.eval (.tmp r'.d) ≠ .pointer (some ⟨b, 0, none⟩)) → Q .normal a' w'') l (pl.map (KdB.f w.drew.heap.size)) a (hf w' hI.bl) hI.df (by rw [hI.sz, hn]) (by rw [List.length_map]; exact hlen) hI.ot fun i o p d e1 e2 e3 => ⟨by rw [hI.sz]; exact K.dn i o d e1 e3, ?_⟩) fun r hr r' hr' hne b => ?_
    · have h1 := hI.fs i o d e1 e3 (hall i o e1)
      rw [List.getElem?_map] at e2
      cases hk' : pl[i]? with
      | none => rw [hk'] at e2; cases e2
      | some k =>
        rw [hk'] at e2
        injection e2 with e2
        subst e2
        rw [hget i k hk'] at h1
        cases k with
        | val v => exact h1
        | put r => trivial
        | box r =>
          obtain ⟨hr', hj'⟩ := hg.al i r hk'
          obtain ⟨o1, f1, f2, _⟩ := hg.md r hr'
          rw [hj', e1] at f1
          injection f1 with f1
          subst f1
          rw [e3] at f2
          injection f2 with f2
          subst f2
          obtain ⟨b, g1, g2, g3, g4⟩ := hI.bx r hr' (by rw [hj']; exact hall i o e1)
          obtain ⟨o2, f3, _⟩ := hg.pt r hr'
          rw [hall r.k o2 f3, if_pos rfl] at g4
          exact ⟨b, g1, g2, g3, g4⟩
    · obtain ⟨o1, f1, _⟩ := hg.md r hr
      obtain ⟨o2, f2, _⟩ := hg.md r' hr'
      exact hI.dj r hr r' hr' hne (hall r.j o1 f1) (hall r'.j o2 f2) b
  · refine List.eq_nil_iff_forall_not_mem.2 fun i hi => ?_
    obtain ⟨h0, o, ho, _⟩ := mem_ready.1 hi
    have hlt : i < listed.size := by rw [hs]; exact (Array.getElem?_eq_some_iff.1 ho).1
    have hf' : listed.toList[i]'(by simpa using hlt) = false := by simpa [hlt] using h0
    have : 0 < listed.toList.count false := List.count_pos_iff.2 (by rw [← hf']; exact List.getElem_mem _)
    omega
  · simp
  all_goals
    exfalso
    rw [Array.getD_eq_getD_getElem?, Array.getElem?_replicate] at hl
    split at hl <;> cases hl

end

end Go.Proofs.YtkpkhnaflohjpaaDoor

/- Token: single operations of the region in which Each reads a token (by RB's rule). -/

namespace Go.Proofs.YtkpkhnaflohjpaaDoor

open Go Go.RowKit Go.Shelf
set_option maxRecDepth 100000

theorem ev_tk {a : Act} {s : Nat} {v : Value} (h : a.eval (.tmp s) = v) : a.tmps[s]?.getD undef = v := by rw [← h]; simp [Act.eval]

section

variable {Fs : List Fct} {a0 : Act} {W : World} {dst : Option Tmp} {ty : TypeId} {pos : String} {after : Array Edge}

theorem sk_load {s b : Nat} {x : ByteArray} (hs : a0.eval (.tmp s) = .pointer (some ⟨b, 0, none⟩)) (hb0 : b < W.heap.size) (hc : W.cell? ⟨b, 0, none⟩ = some (.string x)) :
    stepB Tryd.prog Fs a0 W ⟨dst, .load 9 (.tmp s), ty, pos, after, none⟩ [(s, none)] (.val (.string x)) := by
  refine ⟨rfl, fun a w hb hl => ?_⟩
  have h1 := ev_tk (hl.1.trans hs)
  have c0 := cell_on hb hb0 hc
  simp [go_sem, leaves, h1, c0]
  exact Below.refl _ _

theorem sk_out {s : Nat} {v : Value} (hs : a0.eval (.tmp s) = v) : stepB Tryd.prog Fs a0 W ⟨dst, .move (.tmp s), ty, pos, after, none⟩ [(s, none)] (.val v) := by
  refine ⟨rfl, fun a w hb hl => ?_⟩
  have h1 := ev_tk (hl.1.trans hs)
  simp [go_sem, leaves, h1]
  exact Below.refl _ _

theorem sk_call2 {f s s2 j j2 : Nat} {v v2 r : Value} {t t2 : TypeId} (hent : Go.Proofs.Enters Tryd.prog f) (hC : ∀ w, Below W.heap.size W w → Calls Tryd.prog f #[v, v2] w fun e w' => e = .returned r ∧ Below w.heap.size w w') (hF : Fs.getD j Fct.any = Fct.eq v) (hF2 : Fs.getD j2 Fct.any = Fct.eq v2) :
    stepB Tryd.prog Fs a0 W ⟨dst, .call ⟨.value (.func f), #[.tmp s, .tmp s2], #[t, t2]⟩, ty, pos, after, none⟩ [(s, some j), (s2, some j2)] (.val r) := by
  refine ⟨rfl, fun a w hb hl => ?_⟩
  obtain ⟨h0, h1, _⟩ := hl
  rw [hF] at h0
  rw [hF2] at h1
  have e1 := ev_tk h0
  have e2 := ev_tk h1
  have he := hent #[v, v2] w
  simp [go_sem, leaves, e1, e2, he]
  exact (hC w hb).mono fun e w' h => ⟨_, h.1, rfl, h.2⟩

theorem sk_move {s j : Nat} {v : Value} (hF : Fs.getD j Fct.any = Fct.eq v) : stepB Tryd.prog Fs a0 W ⟨dst, .move (.tmp s), ty, pos, after, none⟩ [(s, some j)] (.val v) := by
  refine ⟨rfl, fun a w hb hl => ?_⟩
  have h0 := hl.1
  rw [hF] at h0
  have e1 := ev_tk h0
  simp [go_sem, leaves, e1]
  exact Below.refl _ _

theorem sk_assign {s j : Nat} {v : Value} (hF : Fs.getD j Fct.any = Fct.eq v) : stepB Tryd.prog Fs a0 W ⟨dst, .assign (.tmp s), ty, pos, after, none⟩ [(s, some j)] (.val v) := by
  refine ⟨rfl, fun a w hb hl => ?_⟩
  have h0 := hl.1
  rw [hF] at h0
  have e1 := ev_tk h0
  simp [go_sem, leaves, e1]
  exact Below.refl _ _

theorem sk_ext0 {s j : Nat} {x y : Value} (hF : Fs.getD j Fct.any = Fct.eq (.tuple #[x, y])) : stepB Tryd.prog Fs a0 W ⟨dst, .extract (.tmp s) 0, ty, pos, after, none⟩ [(s, some j)] (.val x) := by
  refine ⟨rfl, fun a w hb hl => ?_⟩
  have h0 := hl.1
  rw [hF] at h0
  have e1 := ev_tk h0
  simp [go_sem, leaves, e1]
  exact Below.refl _ _

theorem sk_ext1 {s j : Nat} {x y : Value} (hF : Fs.getD j Fct.any = Fct.eq (.tuple #[x, y])) : stepB Tryd.prog Fs a0 W ⟨dst, .extract (.tmp s) 1, ty, pos, after, none⟩ [(s, some j)] (.val y) := by
  refine ⟨rfl, fun a w hb hl => ?_⟩
  have h0 := hl.1
  rw [hF] at h0
  have e1 := ev_tk h0
  simp [go_sem, leaves, e1]
  exact Below.refl _ _

theorem sk_box {j d k : Nat} {x : Array Value} : stepB Tryd.prog Fs a0 W ⟨dst, .alloc 38, ty, pos, after, none⟩ [] (.box ⟨j, d, k, #[.int .i64 0, .string ⟨#[]⟩, .int .i64 0], x, 38⟩) := by
  refine ⟨rfl, fun a w => ?_⟩
  simp [go_sem]

theorem sk_put {j d k s i i2 : Nat} {m n : Int} {x : ByteArray} {u v t : Value} (hF : Fs.getD i Fct.any = Fct.eq (.agg #[.int .i64 m, .string x, .int .i64 n])) : stepB Tryd.prog Fs a0 W ⟨none, .store 38 (.tmp d) (.tmp s), ty, pos, after, none⟩ [(d, some i2), (s, some i)] (.put ⟨j, d, k, #[u, v, t], #[.int .i64 m, .string x, .int .i64 n], 38⟩) := by
  refine ⟨rfl, fun a w b h1 h2 hl => ?_⟩
  have h0 := hl.2.1
  rw [hF] at h0
  have e1 := ev_tk h0
  have e2 := ev_tk h1
  obtain ⟨c0, c1, c2, f0, f1, f2⟩ := cells_tk h2
  have h3 := set3_tk (u := .int .i64 m) (v := .string x) (v' := .int .i64 n) h2
  simp [go_sem, leaves, e1, e2, c0, c1, c2, f0, f1, f2]
  exact ⟨h3, fun g hg => (heap_setCell_other _ _ _ _ hg).trans ((heap_setCell_other _ _ _ _ hg).trans (heap_setCell_other _ _ _ _ hg)), rfl, rfl⟩

end

theorem FinS.skp {Q : Act → World → Prop} {w : World} {o : Oper} {l : List Oper} {p : Fct} {pl : List Fct} {a : Act} (hd : o.dst = none) (h : FinS Q w l pl a) : FinS Q w (o :: l) (p :: pl) a :=
  ⟨by unfold finF; rw [hd]; exact h.go⟩

end Go.Proofs.YtkpkhnaflohjpaaDoor

/- Token: Each's iterator, walked. -/

namespace Go.Proofs.YtkpkhnaflohjpaaDoor

open Go Go.RowKit Go.Shelf
set_option maxRecDepth 100000

/-- What Each tells. -/
def eachL (s : ByteArray) : List Tk := if 8000 < s.size then [] else (toks s 0).1

def rwT (t : Tk) : BoxN := ⟨8, 4, 9, #[.int .i64 0, .string ⟨#[]⟩, .int .i64 0], #[.int .i64 (t.kind : Int), .string t.txt, .int .i64 (t.pos : Int)], 38⟩

def rwN : BoxN := ⟨8, 4, 9, #[.int .i64 0, .string ⟨#[]⟩, .int .i64 0], #[.int .i64 0, .string ⟨#[]⟩, .int .i64 0], 38⟩

set_option maxHeartbeats 4000000 in
theorem each1_seq (m : Nat) (B : Nat) (s : ByteArray) (w0 : World) (hb : w0.cell? ⟨B, 0, none⟩ = some (.string s)) (hg : sgn w0) (hmax : s.size ≤ maxLen) :
    SeqC Fence.wide m Tryd.prog 29 #[.pointer (some ⟨B, 0, none⟩)] (fun t : Tk => #[t.v]) (fun _ _ => True) (fun g => g = B ∨ g = 0) (fun xs => xs = eachL s) (fun pre => pre <+: eachL s) w0 := by
  intro l C J Jx W hW hJ hB hY h0
  have hBl : B < w0.heap.size := World.block_lt_of_cell? w0 _ hb
  have hcW := cell_on hW hBl hb
  have hgW := sgn_on hg hW hg.2
  have hWs := hW.size
  unfold maxLen at hmax
  refine callsIn_of_wp Tryd.func29 rfl trivial ?_ rfl
  simp only [Tryd.ntmps29, List.size_toArray, List.length_cons, List.length_nil, Nat.reduceAdd, Nat.reduceSub, Array.replicate_succ, Array.replicate_zero, List.push_toArray, List.append_toArray, List.nil_append, List.cons_append]
  by_cases hbig : 8000 < s.size
  · have HE := Lib.hid (show eachL s = [] from if_pos hbig)
    gi_wp2
    refine bodyPost_ret (results_none rfl _ _ _) rfl ?_
    exact ⟨⟨_, rfl⟩, .inl (by rw [HE.out]; exact h0)⟩
  · have HE := Lib.hid (show eachL s = (toks s 0).1 from if_neg hbig)
    gi_wp2
    gi_loopw [3] (fun i wr => ∃ (pre : List Tk) (k : Nat), k ≤ s.size ∧ i = .int .i64 (k : Int) ∧ J pre wr ∧ Hid (Keeps (fun g => g = B ∨ g = 0) W wr) ∧ Hid (eachL s = pre ++ (toks s k).1)) (fun i _ => s.size + 1 - (intOf i).toNat)
    case atStart => exact ⟨[], 0, Nat.zero_le _, rfl, h0, Lib.hid (Keeps.refl _ _), Lib.hid (by rw [HE.out]; rfl)⟩
    case round =>
      obtain ⟨pre, k, hk, rfl, hJr, HK, HT⟩ := hrel
      have hBr : B < wr.heap.size := by have := HK.out.size; omega
      have hsr : 0 < wr.heap.size := Nat.lt_of_lt_of_le hgW.2 HK.out.size
      have hcr : wr.cell? ⟨B, 0, none⟩ = some (.string s) := (World.cell?_of_block (HK.out.block B (.inl rfl))).trans hcW
      have hgr : sgn wr := ⟨fun i p hp => (World.cell?_of_block (a := ⟨0, i, none⟩) (HK.out.block _ (.inr rfl))).trans (hgW.1 i p hp), hsr⟩
      have hgp := gapP_le (L := s.data.toList) (k := k) (by rw [toList_len]; exact hk)
      rw [toList_len] at hgp
      have hte := toks_eq (s := s) hk
      obtain ⟨p, hp⟩ : ∃ p, gapP s.data.toList k = p := ⟨_, rfl⟩
      have C1 : ∀ w1, Below wr.drew.heap.size wr.drew w1 → Calls Tryd.prog 21 #[.string s, .int .i64 (k : Int)] w1 fun e w' => e = .returned (.int .i64 (p : Int)) ∧ Below w1.heap.size w1 w' := fun w1 _ => (tokGap_any s k w1 hk (by unfold maxLen; omega)).mono fun e w' h => ⟨by rw [h.1, hp], by rw [← h.2]; exact Below.refl _ _⟩
      have C2 : ∀ w1, Below wr.drew.heap.size wr.drew w1 → Calls Tryd.prog 22 #[.string s, .int .i64 (p : Int)] w1 fun e w' => e = .returned (readV (readT s p)) ∧ Below w1.heap.size w1 w' := fun w1 hb => tokRead_any s p w1 (by omega) (by omega) (sgn_below hgr ((Below.refl _ _).drew.trans hb))
      rw [hp] at hgp hte
      cases hr : readT s p with
      | inr c =>
        rw [hr] at C2 hte
        simp only at hte
        have hc0 : (c != 0) = true := by
          unfold readT at hr
          simp only at hr
          split at hr
          · injection hr with hr; subst hr; decide
          · split at hr
            · injection hr with hr; subst hr; decide
            · cases hr
        have HFin : Hid (eachL s = pre) := Lib.hid (by rw [HT.out, hte, List.append_nil])
        clear hte hr
        gi_upto_region 2 with fail
        refine wpIn_wide.2 ?_
        refine wp_region_boxes 32 [[(1, none)], [(1, none)], [(3, none)], [(11, some 1), (12, some 2)], [(10, some 0), (13, some 3)], [(14, some 4)], [(9, some 5)], [(9, some 5)], [], [(4, some 8), (15, some 6)], [(16, some 7)]]
          [.val (.string s), .val (.string s), .val (.int .i64 (k : Int)), .val (.int .i64 (p : Int)), .val (readV (.inr c)), .val (readV (.inr c)), .val (.agg #[.int .i64 0, .string ⟨#[]⟩, .int .i64 0]), .val (.int .i64 c), .box (rwN), .put (rwN), .val (.int .i64 c)] [rwN] (by kernel_rfl) (by decide +kernel) ?_ (by kernel_rfl) ?_ ?_
        · refine ⟨fun r hr => ?_, fun r hr => ?_, fun r hr r' hr' he => ?_, fun k r hk => ?_, fun k r hk => ?_⟩
          · simp only [List.mem_cons, List.not_mem_nil, or_false] at hr
            subst hr
            exact ⟨_, rfl, rfl, rfl⟩
          · simp only [List.mem_cons, List.not_mem_nil, or_false] at hr
            subst hr
            exact ⟨_, rfl, rfl, rfl, show waits _ 8 = true by decide +kernel⟩
          · simp only [List.mem_cons, List.not_mem_nil, or_false] at hr hr'
            rw [hr, hr']
          · have hk12 : k < 11 := (List.getElem?_eq_some_iff.1 hk).1
            obtain rfl | rfl | rfl | rfl | rfl | rfl | rfl | rfl | rfl | rfl | rfl : k = 0 ∨ k = 1 ∨ k = 2 ∨ k = 3 ∨ k = 4 ∨ k = 5 ∨ k = 6 ∨ k = 7 ∨ k = 8 ∨ k = 9 ∨ k = 10 := by omega
            all_goals simp at hk
            · subst hk; exact ⟨by simp, rfl⟩
          · have hk12 : k < 11 := (List.getElem?_eq_some_iff.1 hk).1
            obtain rfl | rfl | rfl | rfl | rfl | rfl | rfl | rfl | rfl | rfl | rfl : k = 0 ∨ k = 1 ∨ k = 2 ∨ k = 3 ∨ k = 4 ∨ k = 5 ∨ k = 6 ∨ k = 7 ∨ k = 8 ∨ k = 9 ∨ k = 10 := by omega
            all_goals simp at hk
            · subst hk; exact ⟨by simp, rfl⟩
        · exact ⟨sk_load rfl hBr hcr, sk_load rfl hBr hcr, sk_out rfl, sk_call2 (enters_of Tryd.func21 (by kernel_rfl) rfl) C1 rfl rfl, sk_call2 (enters_of Tryd.func22 (by kernel_rfl) rfl) C2 rfl rfl, sk_move rfl, sk_ext0 rfl, sk_ext1 rfl, sk_box, sk_put rfl, sk_assign rfl, trivial⟩
        · intro w4 hb4
          generalize hA0 : ({ tmps := _, defers := _ } : Act) = a0
          have hsz : a0.tmps.size = 32 := by rw [← hA0]; rfl
          simp only [List.map_cons, List.map_nil]
          refine (FinS.some rfl (fun u0 (e0 : u0 = _) => ?_)).go
          subst e0
          refine FinS.some rfl (fun u1 (e1 : u1 = _) => ?_)
          subst e1
          refine FinS.some rfl (fun u2 (e2 : u2 = _) => ?_)
          subst e2
          refine FinS.some rfl (fun u3 (e3 : u3 = _) => ?_)
          subst e3
          refine FinS.some rfl (fun u4 (e4 : u4 = _) => ?_)
          subst e4
          refine FinS.some rfl (fun u5 (e5 : u5 = _) => ?_)
          subst e5
          refine FinS.some rfl (fun u6 (e6 : u6 = _) => ?_)
          subst e6
          refine FinS.some rfl (fun u7 (e7 : u7 = _) => ?_)
          subst e7
          refine FinS.some rfl (fun u8 e8 => FinS.skp rfl (FinS.some rfl (fun u10 (e10 : u10 = _) => FinS.nil fun hdj => ?_)))
          subst e10
          obtain ⟨b5, rfl, g1, g2, g3⟩ := e8
          clear hdj
          subst hA0
          clear hsz
          simp only [Act.put, List.setIfInBounds_toArray, List.set_cons_succ, List.set_cons_zero]
          have hB4 : Below wr.heap.size wr w4 := (Below.refl _ _).drew.trans hb4
          obtain ⟨hJ4, hC4⟩ := hJ pre wr w4 hJr ((Keeps.of_below hB4).mono fun g e => hB pre wr hJr g e)
          clear C1 C2
          gi_wp2
          refine ⟨(by simp), ?_⟩
          gi_wp2
          refine bodyPost_ret (results_none rfl _ _ _) rfl ?_
          exact ⟨⟨_, rfl⟩, .inl ⟨_, HFin.out.symm, hJ4⟩⟩
      | inl t =>
        rw [hr] at C2 hte
        simp only at hte
        obtain ⟨hp1, hp2, hp3, hp4, hp5, hk1, hk7⟩ := readT_behind hgp.2 hr
        gi_upto_region 2 with fail
        refine wpIn_wide.2 ?_
        refine wp_region_boxes 32 [[(1, none)], [(1, none)], [(3, none)], [(11, some 1), (12, some 2)], [(10, some 0), (13, some 3)], [(14, some 4)], [(9, some 5)], [(9, some 5)], [], [(4, some 8), (15, some 6)], [(16, some 7)]]
          [.val (.string s), .val (.string s), .val (.int .i64 (k : Int)), .val (.int .i64 (p : Int)), .val (readV (.inl t)), .val (readV (.inl t)), .val t.v, .val (.int .i64 0), .box (rwT t), .put (rwT t), .val (.int .i64 0)] [rwT t] (by kernel_rfl) (by decide +kernel) ?_ (by kernel_rfl) ?_ ?_
        · refine ⟨fun r hr => ?_, fun r hr => ?_, fun r hr r' hr' he => ?_, fun k r hk => ?_, fun k r hk => ?_⟩
          · simp only [List.mem_cons, List.not_mem_nil, or_false] at hr
            subst hr
            exact ⟨_, rfl, rfl, rfl⟩
          · simp only [List.mem_cons, List.not_mem_nil, or_false] at hr
            subst hr
            exact ⟨_, rfl, rfl, rfl, show waits _ 8 = true by decide +kernel⟩
          · simp only [List.mem_cons, List.not_mem_nil, or_false] at hr hr'
            rw [hr, hr']
          · have hk12 : k < 11 := (List.getElem?_eq_some_iff.1 hk).1
            obtain rfl | rfl | rfl | rfl | rfl | rfl | rfl | rfl | rfl | rfl | rfl : k = 0 ∨ k = 1 ∨ k = 2 ∨ k = 3 ∨ k = 4 ∨ k = 5 ∨ k = 6 ∨ k = 7 ∨ k = 8 ∨ k = 9 ∨ k = 10 := by omega
            all_goals simp at hk
            · subst hk; exact ⟨by simp, rfl⟩
          · have hk12 : k < 11 := (List.getElem?_eq_some_iff.1 hk).1
            obtain rfl | rfl | rfl | rfl | rfl | rfl | rfl | rfl | rfl | rfl | rfl : k = 0 ∨ k = 1 ∨ k = 2 ∨ k = 3 ∨ k = 4 ∨ k = 5 ∨ k = 6 ∨ k = 7 ∨ k = 8 ∨ k = 9 ∨ k = 10 := by omega
            all_goals simp at hk
            · subst hk; exact ⟨by simp, rfl⟩
        · exact ⟨sk_load rfl hBr hcr, sk_load rfl hBr hcr, sk_out rfl, sk_call2 (enters_of Tryd.func21 (by kernel_rfl) rfl) C1 rfl rfl, sk_call2 (enters_of Tryd.func22 (by kernel_rfl) rfl) C2 rfl rfl, sk_move rfl, sk_ext0 rfl, sk_ext1 rfl, sk_box, sk_put rfl, sk_assign rfl, trivial⟩
        · intro w4 hb4
          generalize hA0 : ({ tmps := _, defers := _ } : Act) = a0
          have hsz : a0.tmps.size = 32 := by rw [← hA0]; rfl
          simp only [List.map_cons, List.map_nil]
          refine (FinS.some rfl (fun u0 (e0 : u0 = _) => ?_)).go
          subst e0
          refine FinS.some rfl (fun u1 (e1 : u1 = _) => ?_)
          subst e1
          refine FinS.some rfl (fun u2 (e2 : u2 = _) => ?_)
          subst e2
          refine FinS.some rfl (fun u3 (e3 : u3 = _) => ?_)
          subst e3
          refine FinS.some rfl (fun u4 (e4 : u4 = _) => ?_)
          subst e4
          refine FinS.some rfl (fun u5 (e5 : u5 = _) => ?_)
          subst e5
          refine FinS.some rfl (fun u6 (e6 : u6 = _) => ?_)
          subst e6
          refine FinS.some rfl (fun u7 (e7 : u7 = _) => ?_)
          subst e7
          refine FinS.some rfl (fun u8 e8 => FinS.skp rfl (FinS.some rfl (fun u10 (e10 : u10 = _) => FinS.nil fun hdj => ?_)))
          subst e10
          obtain ⟨b5, rfl, g1, g2, g3⟩ := e8
          clear hdj
          subst hA0
          clear hsz
          simp only [Act.put, List.setIfInBounds_toArray, List.set_cons_succ, List.set_cons_zero]
          have hB4 : Below wr.heap.size wr w4 := (Below.refl _ _).drew.trans hb4
          change wr.drew.heap.size ≤ b5 at g1
          have g1' : wr.heap.size ≤ b5 := g1
          change w4.heap[b5]? = some (.cells #[.int .i64 (t.kind : Int), .string t.txt, .int .i64 (t.pos : Int)] 38) at g3
          obtain ⟨hJ4, hC4⟩ := hJ pre wr w4 hJr ((Keeps.of_below hB4).mono fun g e => hB pre wr hJr g e)
          have hnC : ¬ C w4 b5 := fun e => by have := hB pre wr hJr _ (hC4 _ e); omega
          have hall : eachL s = pre ++ [t] ++ (if t.kind = 7 then [] else (toks s t.behind).1) := by
            rw [HT.out, hte]
            by_cases h7 : t.kind = 7
            · rw [if_pos h7, if_pos h7, List.append_nil]
            · rw [if_neg h7, if_neg h7]; simp
          have hsp : pre ++ [t] <+: eachL s := by rw [hall]; exact List.prefix_append _ _
          obtain ⟨fn, tmps, assign, body, hy', hR⟩ := hY (m - 1) pre t w4 hJ4 hsp trivial
          simp only [Tk.v] at hy'
          obtain ⟨c0, c1, c2, _, _, _⟩ := cells_tk g3
          have HC2 := Lib.hid hte
          have hbh : t.pos + t.txt.size + 2 ≤ 9223372036854775807 := by
            have : t.pos + t.txt.size ≤ t.behind := by unfold Tk.behind; omega
            omega
          have hK4 : Keeps (fun g => g = B ∨ g = 0) W w4 := HK.out.trans ((Keeps.of_below hB4).mono fun g e => by rcases e with rfl | rfl <;> assumption)
          have HK4 := Lib.hid hK4
          have Hall := Lib.hid hall
          have Hsp := Lib.hid hsp
          clear C1 C2 hte hr hall hsp hK4 HC2 hp1
          by_cases h7 : t.kind = 7
          · have h7' : ((t.kind : Int) == 7) = true := by simp [h7]
            have hfin := Lib.hid (show eachL s = pre ++ [t] by rw [Hall.out, if_pos h7, List.append_nil])
            clear h7
            gi_wp2
            refine ⟨(fun h => by cases h), hR.mono ?_⟩
            rintro e W3 (⟨rfl, hJ3, hst⟩ | ⟨rfl, hJx3⟩)
            · obtain ⟨d0, d1, d2, _, _, _⟩ := cells_tk ((hst.keeps.block b5 (.inr ⟨g2, hnC⟩)).trans g3)
              gi_wp2
              refine bodyPost_ret (results_none rfl _ _ _) rfl ?_
              exact ⟨⟨_, rfl⟩, .inl ⟨_, hfin.out.symm, hJ3⟩⟩
            · gi_wp2
              refine bodyPost_ret (results_none rfl _ _ _) rfl ?_
              exact ⟨⟨_, rfl⟩, .inr ⟨_, Hsp.out, hJx3⟩⟩
          · have h7' : ((t.kind : Int) == 7) = false := by simp; omega
            have hnx := Lib.hid (show eachL s = pre ++ [t] ++ (toks s t.behind).1 by rw [Hall.out, if_neg h7])
            have hlt := hp4 h7
            clear h7
            gi_wp2
            refine ⟨(fun h => by cases h), hR.mono ?_⟩
            rintro e W3 (⟨rfl, hJ3, hst⟩ | ⟨rfl, hJx3⟩)
            · obtain ⟨d0, d1, d2, _, _, _⟩ := cells_tk ((hst.keeps.block b5 (.inr ⟨g2, hnC⟩)).trans g3)
              gi_wp2
              refine ⟨trivial, (fun h => by cases h), ?_⟩
              refine (callsIn_wide.2 (tokBehind_any t W3 hbh)).mono ?_
              rintro e w5 ⟨rfl, hb5⟩
              gi_wp2
              go_roundw
              case rel =>
                refine ⟨pre ++ [t], t.behind, hp3, rfl, (hJ _ W3 w5 hJ3 ((Keeps.of_below hb5).mono fun g e => hB _ W3 hJ3 g e)).1, Lib.hid ?_, hnx⟩
                refine HK4.out.trans ((hst.keeps.mono fun g e => .inl e).trans ((Keeps.of_below hb5).mono fun g e => ?_))
                have h1 := hst.keeps.size
                have h2 := hB4.size
                rcases e with rfl | rfl
                · omega
                · omega
              case measure => simp [intOf]; omega
            · gi_wp2
              refine bodyPost_ret (results_none rfl _ _ _) rfl ?_
              exact ⟨⟨_, rfl⟩, .inr ⟨_, Hsp.out, hJx3⟩⟩

end Go.Proofs.YtkpkhnaflohjpaaDoor

/- Rows of tokens; what a range over Each needs of general rules. -/

namespace Go.Proofs.YtkpkhnaflohjpaaDoor

open Go Go.RowKit Go.Shelf
attribute [local go_sem] Oper.semAt_some
set_option maxRecDepth 100000

theorem row_ltk {W : World} {base n : Nat} {e : TypeId} {size : Nat} {v : Value} {vs : List Value} (h : W.ownsRow base e size v n vs) : ∀ g, v.ownBlock = some g → base ≤ g ∧ g < W.heap.size := by
  intro g hg
  rcases h.2 with ⟨rfl, _⟩ | ⟨g', cap, cur, rfl, hb, hgg, _⟩
  · simp [Value.ownBlock] at hg
  · simp [Value.ownBlock] at hg
    subst hg
    exact ⟨hb, (Array.getElem?_eq_some_iff.1 hgg).1⟩

theorem row_keepk {W W' : World} {base n : Nat} {e : TypeId} {size : Nat} {v : Value} {vs : List Value} (h : W.ownsRow base e size v n vs) (hk : ∀ g, v.ownBlock = some g → W'.heap[g]? = W.heap[g]?) : W'.ownsRow base e size v n vs := by
  refine ⟨h.1, ?_⟩
  rcases h.2 with h0 | ⟨g, cap, cur, rfl, hb, hgg, hrest⟩
  · exact .inl h0
  · exact .inr ⟨g, cap, cur, rfl, hb, (hk g rfl).trans hgg, hrest⟩

theorem row_slicek {W : World} {base n : Nat} {e : TypeId} {size : Nat} {v : Value} {vs : List Value} (h : W.ownsRow base e size v n vs) : ∃ A c, v = .slice A n c := by
  rcases h.2 with ⟨hv, h0⟩ | ⟨g, cap, cur, hv, _⟩
  · exact ⟨none, 0, by rw [hv, h0]⟩
  · exact ⟨_, cap, hv⟩

theorem boxed_eqk {W : World} {B : Nat} {t : TypeId} {v u : Value} (h : Boxed W B t v) (k : Boxed W B t u) : v = u := by
  have h' : W.heap[B]? = some (.cells #[v] t (0, 0)) := h
  have k' : W.heap[B]? = some (.cells #[u] t (0, 0)) := k
  rw [h'] at k'
  injection k' with k'
  injection k' with k'
  simpa using k'

theorem put_blockk {W : World} {l g : Nat} {r : Loop} {o : Obj} {cs : Array Value} {t : TypeId} {z : Nat × Nat} (h : W.heap[g]? = some (.cells cs t z)) (hl : W.heap[l]? = some (.loop r)) : (W.putObj l o).heap[g]? = some (.cells cs t z) :=
  (World.putObj_heap_other (fun e => by subst e; rw [h] at hl; cases hl)).trans h

theorem callsk_round {P : Program} {f : FuncId} {args : Array Value} {w : World} {R : Ending → World → Prop} (l m : Nat) (h : Calls P f args w R) : CallsIn (Fence.wide.inRound l) m P f args w R := (callsIn_wide (n := m)).2 h

theorem wpListInk_append_at {F : Fence} {n : Nat} {P : Program} (w : World) {ops : Array Oper} {rest : List Oper} {o : Oper} {a : Act} {Q : Exit → Act → World → Prop}
    (hg : o.guard = none) (s x : Operand) (t : TypeId) (hop : o.op = Op.call { callee := Callee.builtin Builtin.append, args := #[s, x], argTypes := #[t, t] })
    (base : Nat) (e : TypeId) (i : TypeInfo) (z : Value) (size bytes : Nat) (h1 : P.underlying t = some (.slice e)) (h2 : P.info? e = some i) (h3 : i.zero = some z) (h4 : i.size = size) (h5 : i.bytes = bytes) (h6 : z.cells.size = size) (h7 : 0 < size)
    (v : Value) (k : Nat) (xs : List Value) (hs : a.eval s = v) (hown : w.ownsRow base e size v k xs) (ad : Addr) (m c : Nat) (news : List Value) (hx : a.eval x = .slice (some ad) m c) (hn : news.length = m * size)
    (hc : ∀ j u, news[j]? = some u → w.cell? (ad.add j) = some u) (h1c : ∀ u ∈ news, u.oneCell' = true) (b1 : k + m ≤ maxLen) (b2 : (k + m) * bytes ≤ 140737488355328) (b3 : base ≤ w.heap.size)
    (hK : ∀ v' w', w'.ownsRow base e size v' (k + m) (xs ++ news) → w.grownBy w' v.ownBlock → (v'.ownBlock = v.ownBlock ∨ v'.ownBlock = some w.heap.size) → wpListIn F n P ops Q rest (a.put o.dst v') w') :
    wpListIn F n P ops Q (o :: rest) a w := by
  obtain ⟨v', w', hrun, r1, r2, _, r4⟩ := run_append_own_at (P := P) w base t o.type e i z size bytes h1 h2 h3 h4 h5 h6 h7 v k xs hown ad m c news hn hc h1c b1 b2 b3
  refine wpListIn_plain hg fun K hK' => ⟨?_, ?_⟩
  · simp [Oper.about, hop, resolve, Target.leads, Sem.run_pure]
  · rw [Oper.semAt_plain F _ _ (by rw [hop]; intro c hc'; cases hc')]
    simp [execOp, hop, resolve, invoke, builtin, hs, hx, hrun, Result.andThen]
    exact hK' _ _ (hK v' w' r1 r2 r4)

/-- A token's cells. -/
def Tk.cells (t : Tk) : List Value := [.int .i64 (t.kind : Int), .string t.txt, .int .i64 (t.pos : Int)]

theorem cellsk_new (w : World) (x y z : Value) (t : TypeId) : ∀ j u, [x, y, z][j]? = some u → (w.alloc (.cells #[x, y, z] t)).cell? ((⟨w.heap.size, 0, none⟩ : Addr).add j) = some u := by
  intro j u hj
  match j, hj with
  | 0, hj => simp at hj; subst hj; simp [Addr.add]
  | 1, hj => simp at hj; subst hj; simp [Addr.add]
  | 2, hj => simp at hj; subst hj; simp [Addr.add]
  | j + 3, hj => simp at hj

theorem toks_ind {s : ByteArray} {M : Nat → List Tk × Option (Nat × Int) → Prop}
    (h1 : ∀ k c, k ≤ s.size → readT s (gapP s.data.toList k) = .inr c → M k ([], some (gapP s.data.toList k, c)))
    (h2 : ∀ k t, k ≤ s.size → readT s (gapP s.data.toList k) = .inl t → t.kind = 7 → M k ([t], none))
    (h3 : ∀ k t, k ≤ s.size → readT s (gapP s.data.toList k) = .inl t → t.kind ≠ 7 → k < t.behind → t.behind ≤ s.size → M t.behind (toks s t.behind) → M k (t :: (toks s t.behind).1, (toks s t.behind).2)) :
    ∀ (n k : Nat), k ≤ s.size → s.size - k ≤ n → M k (toks s k) := by
  intro n
  induction n with
  | zero =>
    intro k hk hn
    have hg := gapP_le (L := s.data.toList) (k := k) (by rw [toList_len]; exact hk)
    rw [toList_len] at hg
    rw [toks_eq hk]
    cases hr : readT s (gapP s.data.toList k) with
    | inr c => exact h1 k c hk hr
    | inl t =>
      simp only
      by_cases h7 : t.kind = 7
      · rw [if_pos h7]; exact h2 k t hk hr h7
      · obtain ⟨_, _, h5, h6, _⟩ := readT_behind hg.2 hr
        have := h6 h7
        omega
  | succ n ih =>
    intro k hk hn
    have hg := gapP_le (L := s.data.toList) (k := k) (by rw [toList_len]; exact hk)
    rw [toList_len] at hg
    rw [toks_eq hk]
    cases hr : readT s (gapP s.data.toList k) with
    | inr c => exact h1 k c hk hr
    | inl t =>
      simp only
      by_cases h7 : t.kind = 7
      · rw [if_pos h7]; exact h2 k t hk hr h7
      · rw [if_neg h7]
        obtain ⟨_, _, h5, h6, _⟩ := readT_behind hg.2 hr
        have := h6 h7
        exact h3 k t hk hr h7 (by omega) h5 (ih t.behind h5 (by omega))

/-- The place behind the last one. -/
def lastQ (k : Nat) : List Tk → Nat
  | [] => k
  | t :: l => lastQ t.behind l

theorem lastQ_snoc : ∀ (l : List Tk) (k : Nat) (t : Tk), lastQ k (l ++ [t]) = t.behind
  | [], _, _ => rfl
  | _ :: l, _, t => lastQ_snoc l _ t

theorem readT_end (s : ByteArray) : readT s s.size = .inl ⟨7, s.extract s.size s.size, s.size⟩ := by
  unfold readT
  rw [List.drop_eq_nil_of_le (by rw [toList_len]; exact Nat.le_refl _)]
  rfl

theorem toks_all (s : ByteArray) (k : Nat) (hk : k ≤ s.size) : (∀ t ∈ (toks s k).1, t.pos + t.txt.size ≤ s.size ∧ t.behind ≤ s.size ∧ 1 ≤ t.kind ∧ t.kind ≤ 7) ∧ (toks s k).1.length ≤ s.size + 1 - k ∧ lastQ k (toks s k).1 ≤ s.size ∧
    (match (toks s k).2 with | some (p, c) => gapP s.data.toList (lastQ k (toks s k).1) = p ∧ readT s p = .inr c | none => ∃ t, readT s (gapP s.data.toList (lastQ k (toks s k).1)) = .inl t) := by
  have hle := fun (k : Nat) (hk : k ≤ s.size) => gapP_le (L := s.data.toList) (k := k) (by rw [toList_len]; exact hk)
  refine toks_ind (M := fun k r => (∀ t ∈ r.1, t.pos + t.txt.size ≤ s.size ∧ t.behind ≤ s.size ∧ 1 ≤ t.kind ∧ t.kind ≤ 7) ∧ r.1.length ≤ s.size + 1 - k ∧ lastQ k r.1 ≤ s.size ∧ (match r.2 with | some (p, c) => gapP s.data.toList (lastQ k r.1) = p ∧ readT s p = .inr c | none => ∃ t, readT s (gapP s.data.toList (lastQ k r.1)) = .inl t)) ?_ ?_ ?_ _ k hk (Nat.le_refl _)
  · intro k c hk hr
    exact ⟨fun t h => by simp at h, by simp, hk, rfl, hr⟩
  · intro k t hk hr h7
    have hg := hle k hk
    rw [toList_len] at hg
    obtain ⟨e1, e2, e3, _, e5, e6, e7⟩ := readT_behind hg.2 hr
    obtain ⟨e8, e9⟩ := e5 h7
    have hb : t.behind = s.size := by unfold Tk.behind; rw [h7]; simp; omega
    refine ⟨fun u h => ?_, by simp; omega, e3, ?_⟩
    · simp at h; subst h; exact ⟨by omega, e3, e6, e7⟩
    · show ∃ u, readT s (gapP s.data.toList t.behind) = .inl u
      rw [hb, show gapP s.data.toList s.size = s.size by have := gapP_end (L := s.data.toList); rwa [toList_len] at this]
      exact ⟨_, readT_end s⟩
  · rintro k t hk hr h7 h8 h9 ⟨i1, i2, i3, i4⟩
    have hg := hle k hk
    rw [toList_len] at hg
    obtain ⟨e1, e2, e3, _, e5, e6, e7⟩ := readT_behind hg.2 hr
    refine ⟨fun u h => ?_, by simp only [List.length_cons]; omega, i3, i4⟩
    simp only [List.mem_cons] at h
    rcases h with rfl | h
    · refine ⟨?_, e3, e6, e7⟩
      have : u.pos + u.txt.size ≤ u.behind := by unfold Tk.behind; omega
      omega
    · exact i1 u h

end Go.Proofs.YtkpkhnaflohjpaaDoor

/- Token: Cut, walked. -/

namespace Go.Proofs.YtkpkhnaflohjpaaDoor

open Go Go.RowKit Go.Shelf
attribute [local go_sem] Oper.semAt_some
set_option maxRecDepth 100000

/-- What Cut has laid so far. -/
structure CutI (w W : World) (k : List Tk) : Prop where
  row : ∃ v, Boxed W w.heap.size 22 v ∧ W.ownsRow (w.heap.size + 3) 38 3 v k.length (k.flatMap Tk.cells)
  last : Boxed W (w.heap.size + 1) 3 (.int .i64 (lastQ 0 k : Int))
  below : Below w.heap.size w W
  big : w.heap.size + 2 < W.heap.size

def CutC (h : Nat) (W : World) (g : Nat) : Prop := g < h + 2 ∨ ∃ v, Boxed W h 22 v ∧ v.ownBlock = some g

theorem cut_frame (w : World) : FrameC (CutC w.heap.size) (fun (pre : List Tk) W => CutI w W pre) := by
  rintro s A B ⟨⟨v, h1, h2⟩, hl, h3, h4⟩ hk
  have e1 : Boxed B w.heap.size 22 v := (hk.block _ (.inl (by omega))).trans h1
  refine ⟨⟨⟨v, e1, row_keepk h2 fun g e => hk.block g (.inr ⟨v, h1, e⟩)⟩, (hk.block _ (.inl (by omega))).trans hl, h3.trans (hk.below fun g e => .inl (by omega)), Nat.lt_of_lt_of_le h4 hk.size⟩, fun g e => ?_⟩
  rcases e with e | ⟨u, hu, e⟩
  · exact .inl e
  · obtain rfl := boxed_eqk e1 hu
    exact .inr ⟨v, h1, e⟩

theorem cut_bound (w : World) : BoundC (CutC w.heap.size) (fun (pre : List Tk) W => CutI w W pre) := by
  rintro s A ⟨⟨v, h1, h2⟩, _, h3, h4⟩ g e
  rcases e with e | ⟨u, hu, e⟩
  · omega
  · obtain rfl := boxed_eqk h1 hu
    exact (row_ltk h2 g e).2

theorem cut_step {w W w2 w4 : World} {k : List Tk} {x : Tk} {v v' : Value} {o : Obj} {N : Nat → Prop} (h : CutI w W k) (hv : Boxed W w.heap.size 22 v) (hrow : W.ownsRow (w.heap.size + 3) 38 3 v k.length (k.flatMap Tk.cells))
    (hown : w2.ownsRow (w.heap.size + 3) 38 3 v' (k.length + 1) (k.flatMap Tk.cells ++ x.cells)) (hgr : (W.alloc o).grownBy w2 v.ownBlock) (hat : v'.ownBlock = v.ownBlock ∨ v'.ownBlock = some (W.alloc o).heap.size)
    (hb4 : Below (w2.setCell ⟨w.heap.size, 0, none⟩ v').heap.size (w2.setCell ⟨w.heap.size, 0, none⟩ v') w4) (hN : ∀ g, N g → g ≠ w.heap.size ∧ g ≠ w.heap.size + 1 ∧ g < w.heap.size + 3) :
    CutI w (w4.setCell ⟨w.heap.size + 1, 0, none⟩ (.int .i64 (x.behind : Int))) (k ++ [x]) ∧ Stp N (CutC w.heap.size) W (w4.setCell ⟨w.heap.size + 1, 0, none⟩ (.int .i64 (x.behind : Int))) := by
  have hlt := row_ltk hrow
  have hbig := h.big
  have hs2 := hgr.size
  have hs2' : W.heap.size + 1 ≤ w2.heap.size := by simpa using hs2
  have K2 : ∀ g, g < W.heap.size → v.ownBlock ≠ some g → w2.heap[g]? = W.heap[g]? := fun g h1 h2 => (hgr.block g (by simp; omega) fun e => h2 e.symm).trans (Below.heap_alloc W o g h1)
  have hvn : ∀ g, g < w.heap.size + 3 → v.ownBlock ≠ some g := fun g h1 e => by have := (hlt g e).1; omega
  have e1 : Boxed w2 w.heap.size 22 v := (K2 _ (by omega) (hvn _ (by omega))).trans hv
  have e2 := Boxed.set v' e1
  have hz3 : (w2.setCell ⟨w.heap.size, 0, none⟩ v').heap.size = w2.heap.size := by simp
  have e4 : Boxed w4 w.heap.size 22 v' := (hb4.block _ (by rw [hz3]; omega)).trans e2
  have hs4 := hb4.size
  rw [hz3] at hs4
  have l4 : Boxed w4 (w.heap.size + 1) 3 (.int .i64 (lastQ 0 k : Int)) := (hb4.block _ (by rw [hz3]; omega)).trans ((heap_setCell_other _ _ _ _ (show w.heap.size + 1 ≠ w.heap.size by omega)).trans ((K2 _ (by omega) (hvn _ (by omega))).trans h.last))
  have l5 := Boxed.set (.int .i64 (x.behind : Int)) l4
  have hlt5 := row_ltk hown
  have hset5 : ∀ g, g ≠ w.heap.size + 1 → (w4.setCell ⟨w.heap.size + 1, 0, none⟩ (.int .i64 (x.behind : Int))).heap[g]? = w4.heap[g]? := fun g e => heap_setCell_other _ _ _ _ e
  have hset3 : ∀ g, g ≠ w.heap.size → (w2.setCell ⟨w.heap.size, 0, none⟩ v').heap[g]? = w2.heap[g]? := fun g e => heap_setCell_other _ _ _ _ e
  have K5 : ∀ g, g < W.heap.size → v.ownBlock ≠ some g → g ≠ w.heap.size → g ≠ w.heap.size + 1 → (w4.setCell ⟨w.heap.size + 1, 0, none⟩ (.int .i64 (x.behind : Int))).heap[g]? = W.heap[g]? := fun g h1 h2 h3 h4 =>
    (hset5 g h4).trans ((hb4.block g (by rw [hz3]; omega)).trans ((hset3 g h3).trans (K2 g h1 h2)))
  have KK : Keeps (fun g => g < W.heap.size ∧ v.ownBlock ≠ some g ∧ g ≠ w.heap.size ∧ g ≠ w.heap.size + 1) W (w4.setCell ⟨w.heap.size + 1, 0, none⟩ (.int .i64 (x.behind : Int))) :=
    ⟨hb4.os.trans hgr.os, hb4.tape.trans hgr.tape, hb4.output.trans hgr.output, by simp; omega, fun g hg => K5 g hg.1 hg.2.1 hg.2.2.1 hg.2.2.2⟩
  have e5 : Boxed (w4.setCell ⟨w.heap.size + 1, 0, none⟩ (.int .i64 (x.behind : Int))) w.heap.size 22 v' := (hset5 _ (by omega)).trans e4
  refine ⟨⟨⟨v', e5, ?_⟩, by rw [lastQ_snoc]; exact l5, h.below.trans (KK.below fun g e => ⟨by omega, hvn g (by omega), by omega, by omega⟩), by simp; omega⟩, ⟨?_, ?_⟩⟩
  · rw [List.length_append, List.flatMap_append]
    simp only [List.length_cons, List.length_nil, List.flatMap_cons, List.flatMap_nil, List.append_nil]
    exact row_keepk hown fun g e => by
      have := hlt5 g e
      exact (hset5 g (by omega)).trans ((hb4.block g (by rw [hz3]; omega)).trans (hset3 g (by omega)))
  · refine KK.mono fun g hg => ?_
    rcases hg with hg | hg
    · obtain ⟨n1, n2, n3⟩ := hN g hg
      exact ⟨by omega, hvn g n3, n1, n2⟩
    · exact ⟨hg.1, fun e => hg.2 (.inr ⟨v, hv, e⟩), fun e => hg.2 (.inl (by omega)), fun e => hg.2 (.inl (by omega))⟩
  · rintro g (e | ⟨u, hu, e⟩)
    · exact .inl (.inl e)
    · obtain rfl := boxed_eqk e5 hu
      rcases hat with e3 | e3
      · exact .inl (.inr ⟨v, hv, e3 ▸ e⟩)
      · rw [e3] at e
        injection e with e
        simp at e
        exact .inr (by omega)

theorem infoTok : (Tryd.prog.info? 38).map (fun i => (i.zero, i.size, i.bytes)) = some (some (.agg #[.int .i64 0, .string ByteArray.empty, .int .i64 0]), 3, 32) := by kernel_rfl

set_option maxHeartbeats 400000 in
theorem tokEach_any (s : ByteArray) (w : World) : Calls Tryd.prog 19 #[.string s] w fun e w' => e = .returned (.func (.func 29) #[] #[.pointer (some ⟨w.heap.size, 0, none⟩)]) ∧ w.alloc (.cells #[.string s] 9) = w' := by
  go_enter Tryd.func19, Tryd.ntmps19
  go_wp2
  go_ret
  exact ⟨rfl, rfl⟩

theorem row_basek {W : World} {base base' n : Nat} {e : TypeId} {size : Nat} {v : Value} {vs : List Value} (h : W.ownsRow base e size v n vs) (hb : base' ≤ base) : W.ownsRow base' e size v n vs := by
  refine ⟨h.1, ?_⟩
  rcases h.2 with h0 | ⟨g, cap, cur, hv, h1, hrest⟩
  · exact .inl h0
  · exact .inr ⟨g, cap, cur, hv, Nat.le_trans hb h1, hrest⟩

/-- What Cut answers. -/
def cutR (s : ByteArray) : List Tk × Int × Int := if 8000 < s.size then ([], 0, 3) else match (toks s 0).2 with | some (p, c) => ([], p, c) | none => ((toks s 0).1, 0, 0)

def CutPost (s : ByteArray) (w : World) (e : Ending) (w' : World) : Prop := ∃ v, e = .returned (.tuple #[v, .int .i64 (cutR s).2.1, .int .i64 (cutR s).2.2]) ∧ w'.ownsRow w.heap.size 38 3 v (cutR s).1.length ((cutR s).1.flatMap Tk.cells) ∧ Below w.heap.size w w'

set_option maxHeartbeats 4000000 in
theorem tokCut_any (s : ByteArray) (w : World) (hg : sgn w) (hmax : s.size ≤ maxLen) : Calls Tryd.prog 8 #[.string s] w (CutPost s w) := by
  unfold maxLen at hmax
  obtain ⟨i0, hi, hz0, hz1, hz2⟩ := info_parts infoTok
  refine (callsIn_wide (n := 3)).1 (callsIn_of_wp_marks Tryd.func8 rfl trivial ?_ rfl)
  simp only [Tryd.ntmps8, List.size_toArray, List.length_cons, List.length_nil, Nat.reduceAdd, Nat.reduceSub, Array.replicate_succ, Array.replicate_zero, List.push_toArray, List.append_toArray, List.nil_append, List.cons_append]
  refine wpIn_wide.2 ?_
  by_cases hbig : 8000 < s.size
  · have hcut := Lib.hid (show cutR s = ([], 0, 3) from if_pos hbig)
    go_wp2
    refine ⟨.tuple #[.slice none 0 0, .int .i64 0, .int .i64 3], by simp [results, Tryd.results8, go_sem], .slice none 0 0, ?_, ?_, ?_⟩
    · rw [hcut.out]
    · rw [hcut.out]
      exact World.ownsRow_nil _ _ _ _
    · exact (Below.refl w.heap.size w).alloc (Nat.le_refl _) _
  · go_wp2_with (first
      | (go_at_call 19; refine (tokEach_any s _).mono ?_; go_must (rintro e w1 ⟨rfl, rfl⟩))
      | fail)
    obtain ⟨W, hW⟩ : ∃ W, (((w.alloc (.cells #[.slice none 0 0] 22)).alloc (.cells #[.int .i64 0] 3)).alloc (.cells #[.string s] 9)) = W := ⟨_, rfl⟩
    have hB : Below w.heap.size w W := by rw [← hW]; exact (((Below.refl _ _).alloc (Nat.le_refl _) _).alloc (by simp) _).alloc (by simp; omega) _
    have p0 : Boxed W w.heap.size 22 (.slice none 0 0) := by
      rw [← hW]
      exact (Below.heap_alloc _ _ _ (by simp; omega)).trans ((Below.heap_alloc _ _ _ (by simp)).trans (heap_alloc_new _ _))
    have p1 : Boxed W (w.heap.size + 1) 3 (.int .i64 0) := by
      rw [← hW]
      refine (Below.heap_alloc _ _ _ (by simp)).trans ?_
      rw [show w.heap.size + 1 = (w.alloc (.cells #[.slice none 0 0] 22)).heap.size by simp]
      exact heap_alloc_new _ _
    have p2 : Boxed W (w.heap.size + 2) 9 (.string s) := by
      rw [← hW, show w.heap.size + 2 = ((w.alloc (.cells #[.slice none 0 0] 22)).alloc (.cells #[.int .i64 0] 3)).heap.size by simp]
      exact heap_alloc_new _ _
    have hz : w.heap.size + 2 < W.heap.size := p2.lt
    have hgW := sgn_below hg hB
    have hall := toks_all s 0 (Nat.zero_le _)
    have heL : eachL s = (toks s 0).1 := if_neg hbig
    have hb8 : s.size ≤ 8000 := by omega
    rw [hW]
    clear hW
    refine (wpIn_wide (n := 3)).1 ?_
    refine range_law (F := Fence.wide) (n := 3) (w0 := W) rfl rfl (gf := 29) (lb := #[.pointer (some ⟨w.heap.size + 2, 0, none⟩)]) rfl trivial (enters_of Tryd.func29 (by kernel_rfl) rfl)
      (fun m => each1_seq m (w.heap.size + 2) s W p2.cell hgW (by unfold maxLen; omega))
      (Below.refl _ _) (fun _ => rfl) (fun g e => by rcases e with rfl | rfl; exact hz; exact hgW.2)
      (CutC w.heap.size) (fun pre W => CutI w W pre) (fun _ _ _ => False)
      (cut_frame w) (cut_bound w) (fun _ _ _ _ h _ => h.elim) ⟨⟨.slice none 0 0, p0, by simpa using World.ownsRow_nil W _ _ _⟩, p1, hB, hz⟩
      (fun pre x a' W => CutI w W pre ∧ ∃ Bx, W.heap[Bx]? = some (.cells #[.int .i64 (x.kind : Int), .string x.txt, .int .i64 (x.pos : Int)] 38) ∧ w.heap.size + 2 < Bx ∧ ¬ CutC w.heap.size W Bx ∧ a' = { tmps := #[.string s, undef, .pointer (some ⟨w.heap.size, 0, none⟩), .int .i64 0, .int .i64 0, .pointer (some ⟨w.heap.size + 1, 0, none⟩), .pointer (some ⟨Bx, 0, none⟩), .string s, .int .i64 (s.size : Int), .bool (decide (8000 < (s.size : Int))), .string s, .func (.func 29) #[] #[.pointer (some ⟨w.heap.size + 1 + 1, 0, none⟩)], x.v, undef, undef, undef, undef, undef, undef, undef, undef, undef, undef, undef, undef, undef, undef, undef, undef, undef, undef, undef, undef], defers := [] }) ?hAx ?assign ?body ?done (fun _ _ _ _ _ _ h _ => h.elim)
    case hAx =>
      rintro pre x a' W l r o ⟨h1, Bx, hbx, h3, h4, rfl⟩ hl hr hn
      have hK := Keeps.put W l o
      obtain ⟨h5, h6⟩ := cut_frame w pre W (W.putObj l o) h1 (hK.mono fun g e e' => hn (e' ▸ e))
      exact ⟨h6, h5, Bx, put_blockk hbx hr, h3, fun e => h4 (h6 _ e), rfl⟩
    case assign =>
      rintro l m pre x W' K h1 _ hfx hK
      simp only [Tk.v]
      gi_wp2
      have hKa := Keeps.alloc W' (.cells #[.int .i64 (x.kind : Int), .string x.txt, .int .i64 (x.pos : Int)] 38)
      have hbd := cut_bound w pre W' h1
      obtain ⟨h5, h6⟩ := cut_frame w pre W' _ h1 (hKa.mono fun g e => hbd g e)
      have hgs := h1.below.size
      have hg2 := hg.2
      exact hK _ _ ⟨hKa.mono fun g e => e.elim (fun e => by rcases e with rfl | rfl; exact h1.big; exact Nat.lt_of_lt_of_le hg2 hgs) (fun e => e.1), fun g e => .inl (h6 g e)⟩ ⟨h5, W'.heap.size, heap_alloc_new _ _, h1.big, fun e => Nat.lt_irrefl _ (hbd _ (h6 _ e)), rfl⟩
    case body =>
      rintro l m pre x a' W' hsp ⟨h1, Bx, hbx, h3, h4, rfl⟩
      obtain ⟨v, hv, hrow⟩ := h1.row
      obtain ⟨Av, cv, rfl⟩ := row_slicek hrow
      have hc := Boxed.cell hv
      obtain ⟨b0, b1, b2, _, _, _⟩ := cells_tk hbx
      have hBl : Bx < W'.heap.size := (Array.getElem?_eq_some_iff.1 hbx).1
      rw [heL] at hsp
      obtain ⟨hx1, hx2, _, _⟩ := hall.1 x (hsp.subset (by simp))
      have hkl : pre.length + 1 ≤ 8002 := by
        have h5 := hsp.length_le
        have h6 := hall.2.1
        rw [List.length_append] at h5
        simp only [List.length_cons, List.length_nil] at h5
        omega
      have hrl := row_ltk hrow
      have hbig2 := h1.big
      have hbh : x.pos + x.txt.size + 2 ≤ 9223372036854775807 := by omega
      have hnB : (Value.slice Av pre.length cv).ownBlock ≠ some Bx := fun e => h4 (.inr ⟨_, hv, e⟩)
      have hBne : Bx ≠ w.heap.size := by omega
      have Hrow := Lib.hid hrow
      have Hv := Lib.hid hv
      have H1 := Lib.hid h1
      clear hsp hrow
      gi_wp2_with (first
        | (gi_at_builtin
           go_must (
           refine wpListInk_append_at _ rfl _ _ 22 rfl (w.heap.size + 3) 38 i0 (.agg #[.int .i64 0, .string ByteArray.empty, .int .i64 0]) 3 32 Tryd.underlying22 hi hz0 hz1 hz2 rfl (by decide) (.slice Av pre.length cv) pre.length _ rfl (row_keepk Hrow.out fun g e => Below.heap_alloc W' _ g (hrl g e).2) ⟨W'.heap.size, 0, none⟩ 1 1 x.cells rfl rfl (cellsk_new _ _ _ _ _) (by simp [Tk.cells, Value.oneCell']) (by unfold maxLen; omega) (by omega) (by simp; omega) ?_
           intro v2 w2 hown2 hgr2 hat2
           obtain ⟨A2, c2, rfl⟩ := row_slicek hown2
           have hs2 : W'.heap.size + 1 ≤ w2.heap.size := by simpa using hgr2.size
           have K2 : ∀ g, g < W'.heap.size → (Value.slice Av pre.length cv).ownBlock ≠ some g → w2.heap[g]? = W'.heap[g]? := fun g h1 h2 => (hgr2.block g (by simp; omega) fun e => h2 e.symm).trans (Below.heap_alloc W' _ g h1)
           have e1 : Boxed w2 w.heap.size 22 (.slice Av pre.length cv) := (K2 _ (by omega) (fun e => by have := (hrl _ e).1; omega)).trans Hv.out
           have hcA := e1.cell
           have hcF := e1.frozen
           have hBx2 : (w2.setCell ⟨w.heap.size, 0, none⟩ (.slice A2 (pre.length + 1) c2)).heap[Bx]? = some (.cells #[.int .i64 (x.kind : Int), .string x.txt, .int .i64 (x.pos : Int)] 38) := (heap_setCell_other _ _ _ _ hBne).trans ((K2 _ hBl hnB).trans hbx)
           obtain ⟨d0, d1, d2, _, _, _⟩ := cells_tk hBx2
           have l2 : Boxed (w2.setCell ⟨w.heap.size, 0, none⟩ (.slice A2 (pre.length + 1) c2)) (w.heap.size + 1) 3 (.int .i64 (lastQ 0 pre : Int)) := (heap_setCell_other _ _ _ _ (show w.heap.size + 1 ≠ w.heap.size by omega)).trans ((K2 _ (by omega) (fun e => by have := (hrl _ e).1; omega)).trans H1.out.last)
           have Hl2 := Lib.hid l2
           have Hown2 := Lib.hid hown2
           have Hgr2 := Lib.hid hgr2
           have Hat2 := Lib.hid hat2
           clear hown2 hgr2 hat2 l2 K2 hBx2))
        | (refine ⟨trivial, (fun h => by cases h), ?_⟩
           gi_at_call 20
           refine (callsk_round l _ (tokBehind_any x _ hbh)).mono ?_
           go_must (
           rintro e w4 ⟨rfl, hb4⟩
           have l4 : Boxed w4 (w.heap.size + 1) 3 (.int .i64 (lastQ 0 pre : Int)) := (hb4.block _ Hl2.out.lt).trans Hl2.out
           have hlA := l4.cell
           have hlF := l4.frozen))
        | fail)
      exact cut_step H1.out Hv.out Hrow.out Hown2.out Hgr2.out Hat2.out hb4 (fun g e => by have := hg.2; rcases e with rfl | rfl <;> omega)
    case done =>
      rintro D ys W' hD hS h1 hK
      rw [heL] at hS
      subst hS
      obtain ⟨v, hv, hrow⟩ := h1.row
      obtain ⟨Av, cv, rfl⟩ := row_slicek hrow
      have hlst := h1.last
      obtain ⟨_, _, hq3, hq4⟩ := hall
      obtain ⟨q, hq⟩ : ∃ q, lastQ 0 (toks s 0).1 = q := ⟨_, rfl⟩
      rw [hq] at hlst hq3 hq4
      have hlc := hlst.cell
      have hgW' : sgn W' := sgn_below hg h1.below
      have hWs := h1.below.size
      have hbg := h1.big
      have hDl : D < W'.heap.size := (Array.getElem?_eq_some_iff.1 hK).1
      have hmx : s.size ≤ maxLen := by unfold maxLen; omega
      have hgp := gapP_le (L := s.data.toList) (k := q) (by rw [toList_len]; exact hq3)
      rw [toList_len] at hgp
      have hhl : w.heap.size < W'.heap.size := hv.lt
      have hhD : w.heap.size ≠ D := by omega
      have hcut : cutR s = match (toks s 0).2 with | some (p, c) => ([], p, c) | none => ((toks s 0).1, 0, 0) := if_neg hbig
      have Hrow := Lib.hid hrow
      have H1 := Lib.hid h1
      have Hv := Lib.hid hv
      have hrl := row_ltk hrow
      clear hrow h1 hq
      cases hr : (toks s 0).2 with
      | some pc =>
        obtain ⟨p, c⟩ := pc
        rw [hr] at hq4 hcut
        simp only at hq4 hcut
        obtain ⟨hg1, hr1⟩ := hq4
        rw [hg1] at hgp
        have hc0 : (c != 0) = true := by
          unfold readT at hr1
          simp only at hr1
          split at hr1
          · injection hr1 with hr1; subst hr1; decide
          · split at hr1
            · injection hr1 with hr1; subst hr1; decide
            · cases hr1
        have C1 : Hid (Calls Tryd.prog 21 #[.string s, .int .i64 (q : Int)] W' fun e w' => e = .returned (.int .i64 (p : Int)) ∧ W' = w') := Lib.hid (by have := tokGap_any s q W' hq3 hmx; rwa [hg1] at this)
        have C2 : Hid (Calls Tryd.prog 22 #[.string s, .int .i64 (p : Int)] W' fun e w' => e = .returned (.tuple #[.agg #[.int .i64 0, .string ⟨#[]⟩, .int .i64 0], .int .i64 c]) ∧ Below W'.heap.size W' w') := Lib.hid (by have := tokRead_any s p W' hgp.2 (by omega) hgW'; rwa [hr1] at this)
        have Hcut := Lib.hid hcut
        clear hg1 hr1 hr hcut
        go_wp2_with (first
          | (go_at_call 21; (with_reducible refine C1.out.mono ?_); go_must (rintro e w1 ⟨rfl, rfl⟩))
          | (go_at_call 22; (with_reducible refine C2.out.mono ?_); go_must (
              rintro e w2 ⟨rfl, hb2⟩
              have e2 : Boxed w2 w.heap.size 22 (.slice Av (toks s 0).1.length cv) := (hb2.block _ hhl).trans Hv.out
              have hcA := e2.cell
              have hcF := e2.frozen))
          | fail)
        have e3 := Boxed.set (.slice none 0 0) e2
        have hKX : (w2.setCell ⟨w.heap.size, 0, none⟩ (.slice none 0 0)).heap[D]? = some (.deferred (some [])) := (heap_setCell_other _ _ _ _ (Ne.symm hhD)).trans ((hb2.block D hDl).trans hK)
        have e4 := ((Keeps.put (w2.setCell ⟨w.heap.size, 0, none⟩ (.slice none 0 0)) D (.deferred none)).block w.heap.size hhD).trans e3
        have hcR := Boxed.cell (show Boxed _ w.heap.size 22 (.slice none 0 0) from e4)
        have hBX : Below w.heap.size w ((w2.setCell ⟨w.heap.size, 0, none⟩ (.slice none 0 0)).putObj D (.deferred none)) := (H1.out.below.trans (hb2.mono hWs)).setCell (Nat.le_refl _) _ |>.trans ((Keeps.put _ D _).below fun g e => by show g ≠ D; omega)
        refine ⟨by simp, .inl ⟨_, _, rfl, run_takeDeferred hKX, ?_⟩⟩
        refine ⟨.tuple #[.slice none 0 0, .int .i64 (p : Int), .int .i64 c], by simp [results, Tryd.results8, go_sem, hcR], .slice none 0 0, ?_, ?_, hBX⟩
        · rw [Hcut.out]
        · rw [Hcut.out]
          exact World.ownsRow_nil _ _ _ _
      | none =>
        rw [hr] at hq4 hcut
        simp only at hq4 hcut
        obtain ⟨t, ht⟩ := hq4
        obtain ⟨p, hp⟩ : ∃ p, gapP s.data.toList q = p := ⟨_, rfl⟩
        rw [hp] at hgp ht
        have C1 : Hid (Calls Tryd.prog 21 #[.string s, .int .i64 (q : Int)] W' fun e w' => e = .returned (.int .i64 (p : Int)) ∧ W' = w') := Lib.hid (by have := tokGap_any s q W' hq3 hmx; rwa [hp] at this)
        have C2 : Hid (Calls Tryd.prog 22 #[.string s, .int .i64 (p : Int)] W' fun e w' => e = .returned (.tuple #[t.v, .int .i64 0]) ∧ Below W'.heap.size W' w') := Lib.hid (by have := tokRead_any s p W' hgp.2 (by omega) hgW'; rwa [ht] at this)
        have Hcut := Lib.hid hcut
        clear hp ht hr hcut
        go_wp2_with (first
          | (go_at_call 21; (with_reducible refine C1.out.mono ?_); go_must (rintro e w1 ⟨rfl, rfl⟩))
          | (go_at_call 22; (with_reducible refine C2.out.mono ?_); go_must (
              rintro e w2 ⟨rfl, hb2⟩
              have e2 : Boxed w2 w.heap.size 22 (.slice Av (toks s 0).1.length cv) := (hb2.block _ hhl).trans Hv.out
              have hcA := e2.cell
              have hcF := e2.frozen))
          | fail)
        have e3 := Boxed.set (.slice Av (toks s 0).1.length cv) e2
        have hKX : (w2.setCell ⟨w.heap.size, 0, none⟩ (.slice Av (toks s 0).1.length cv)).heap[D]? = some (.deferred (some [])) := (heap_setCell_other _ _ _ _ (Ne.symm hhD)).trans ((hb2.block D hDl).trans hK)
        have e4 := ((Keeps.put (w2.setCell ⟨w.heap.size, 0, none⟩ (.slice Av (toks s 0).1.length cv)) D (.deferred none)).block w.heap.size hhD).trans e3
        have hcR := Boxed.cell (show Boxed _ w.heap.size 22 (.slice Av (toks s 0).1.length cv) from e4)
        have hBX : Below w.heap.size w ((w2.setCell ⟨w.heap.size, 0, none⟩ (.slice Av (toks s 0).1.length cv)).putObj D (.deferred none)) := (H1.out.below.trans (hb2.mono hWs)).setCell (Nat.le_refl _) _ |>.trans ((Keeps.put _ D _).below fun g e => by show g ≠ D; omega)
        refine ⟨by simp, .inl ⟨_, _, rfl, run_takeDeferred hKX, ?_⟩⟩
        refine ⟨.tuple #[.slice Av (toks s 0).1.length cv, .int .i64 0, .int .i64 0], by simp [results, Tryd.results8, go_sem, hcR], .slice Av (toks s 0).1.length cv, ?_, ?_, hBX⟩
        · rw [Hcut.out]
        · rw [Hcut.out]
          refine row_basek (base := w.heap.size + 3) (row_keepk Hrow.out fun g e => ?_) (by omega)
          have h5 := hrl g e
          have h6 : g ≠ D := fun e6 => by
            subst e6
            rcases Hrow.out.2 with ⟨hvv, _⟩ | ⟨g', cap, cur, hvv, _, hgg, _⟩
            · rw [hvv] at e; simp [Value.ownBlock] at e
            · rw [hvv] at e
              simp [Value.ownBlock] at e
              subst e
              rw [hK] at hgg
              cases hgg
          exact ((Keeps.put _ D _).block g h6).trans ((heap_setCell_other _ _ _ _ (show g ≠ w.heap.size by omega)).trans (hb2.block g h5.2))

end Go.Proofs.YtkpkhnaflohjpaaDoor

/- Token: the document's own Tokens, Cut, Each. -/

namespace Go.Proofs.YtkpkhnaflohjpaaDoor

open Go Go.RowKit Go.Shelf
set_option maxRecDepth 100000

theorem toks_same {s : ByteArray} {k k' : Nat} (hk : k ≤ s.size) (hk' : k' ≤ s.size) (h : gapP s.data.toList k = gapP s.data.toList k') : toks s k = toks s k' := by
  rw [toks_eq hk, toks_eq hk', h]

/-- Where a fault is, and which. -/
def faultI (r : Option (Nat × Int)) : Int × Int := match r with | some (p, c) => (p, c) | none => (0, 0)

def ToksPost (s : ByteArray) (w : World) (e : Ending) (w' : World) : Prop := ∃ v, e = .returned (.tuple #[v, .int .i64 (faultI (toks s 0).2).1, .int .i64 (faultI (toks s 0).2).2]) ∧ w'.ownsRow w.heap.size 38 3 v (toks s 0).1.length ((toks s 0).1.flatMap Tk.cells) ∧ Below w.heap.size w w'

set_option maxHeartbeats 8000000 in
theorem rtTokens_any (s : ByteArray) (w : World) (hs : s.size ≤ 1048576) : Calls Tryd.prog 23 #[.string s] w (ToksPost s w) := by
  obtain ⟨i0, hi, hz0, hz1, hz2⟩ := info_parts infoTok
  have hall := toks_all s 0 (Nat.zero_le _)
  go_enter Tryd.func23, Tryd.ntmps23
  go_wp2
  go_loopw [2, 3] (fun lv i wr => ∃ (pre : List Tk) (k : Nat) (v : Value), k ≤ s.size ∧ lv = v ∧ i = .int .i64 (k : Int) ∧ Below w.heap.size w wr ∧ Hid (wr.ownsRow w.heap.size 38 3 v pre.length (pre.flatMap Tk.cells)) ∧ Hid (toks s 0 = (pre ++ (toks s k).1, (toks s k).2))) (fun _ i _ => s.size - (intOf i).toNat)
  case atStart => exact ⟨[], 0, _, Nat.zero_le _, rfl, rfl, Below.refl _ _, Lib.hid (by simpa using World.ownsRow_nil w _ _ _), Lib.hid rfl⟩
  case round =>
    obtain ⟨pre, k, v, hk, rfl, rfl, hB, HR, HT⟩ := hrel
    obtain ⟨Av, cv, rfl⟩ := row_slicek HR.out
    have hBs := hB.size
    have hpl : pre.length ≤ 1048577 := by
      have h5 := hall.2.1
      rw [HT.out] at h5
      simp only [List.length_append] at h5
      omega
    by_cases hlt : k < s.size
    · have hsk : skipN (s.data.toList.drop k) = if blankC (s[k].toNat : Int) then 1 else remN (s.data.toList.drop k) := by rw [drop_cons hlt]; rfl
      have hsl := skipN_le (s.data.toList.drop k)
      rw [List.length_drop, toList_len] at hsl
      cases hb : blankC (s[k].toNat : Int) with
      | true =>
        rw [hb, if_pos rfl] at hsk
        have HT2 := Lib.hid (HT.out.trans (by rw [toks_same hk (by omega) (gapP_skip hsk (by omega))] : _ = (pre ++ (toks s (k + 1)).1, (toks s (k + 1)).2)))
        clear hsk hsl
        go_wp2_with (first | (go_at_call 33; refine (rtBlank_any _ _).mono ?_; go_must (rintro e w' ⟨rfl, rfl⟩; rw [hb])) | fail)
        go_roundw
        case rel => exact ⟨pre, k + 1, _, by omega, rfl, by go_num, hB, HR, HT2⟩
        case measure => simp [intOf]; omega
      | false =>
        rw [hb, if_neg (by simp)] at hsk
        have HCr := Lib.hid (fun w => rtRemark_any s k w hlt (by omega))
        obtain ⟨r, hr⟩ : ∃ r, remN (s.data.toList.drop k) = r := ⟨_, rfl⟩
        rw [hr] at HCr hsk
        rw [hsk] at hsl
        by_cases h0 : r = 0
        · subst h0
          have hgk := gapP_stop hsk
          have hte := toks_eq (s := s) hk
          rw [hgk] at hte
          have hfl := firstT_le (s.data.toList.drop k)
          have hd0 : s.data.toList.drop k ≠ [] := by rw [drop_cons hlt]; simp
          have HC1 := Lib.hid (fun w => rtOne_any s k w hlt (by omega))
          clear hsk hr hgk
          obtain ⟨f, hf⟩ : ∃ f, firstT (s.data.toList.drop k) = f := ⟨_, rfl⟩
          have hrd : readT s k = if f.1 = 0 then .inr 220 else if f.1 ≠ 6 ∧ 40 < f.2.2 - f.2.1 then .inr 3 else .inl ⟨f.1, s.extract (k + f.2.1) (k + f.2.2), k⟩ := by unfold readT; rw [hf]
          have HC2 : Hid (∀ w, Calls Tryd.prog 35 #[.string s, .int .i64 (k : Int)] w fun e w' => ∃ (t : Tk) (E : Nat), e = .returned (.tuple #[.agg #[.int .i64 (t.kind : Int), .string t.txt, .int .i64 (t.pos : Int)], .int .i64 (E : Int)]) ∧ Below w.heap.size w w' ∧ Hid (f.1 = 0 → E = k) ∧ Hid (f.1 ≠ 0 → t = ⟨f.1, s.extract (k + f.2.1) (k + f.2.2), k⟩ ∧ E = t.behind ∧ k < E)) := Lib.hid fun w => (HC1.out w).mono fun e w' ⟨t, E, h1, h2, h3, h4⟩ => ⟨t, E, h1, h4, Lib.hid (by rw [← hf]; exact h2), Lib.hid (by rw [← hf]; exact h3)⟩
          rw [hf] at hfl
          rw [List.length_drop, toList_len] at hfl
          have hf7 : f.1 ≠ 7 := fun e => hd0 (hfl.2.2.2.2.1.1 e)
          have hab := hfl.1
          have hbl := hfl.2.1
          have Hte := Lib.hid hte
          have Hrd := Lib.hid hrd
          clear hf HC1 hte hrd hd0
          go_upto_region 8 with (first
            | (go_at_call 33; refine (rtBlank_any _ _).mono ?_; go_must (rintro e w' ⟨rfl, rfl⟩; rw [hb]))
            | (go_at_call 34; (with_reducible refine (HCr.out _).mono ?_); go_must (rintro e w' ⟨rfl, rfl⟩))
            | (go_at_call 35; (with_reducible refine (HC2.out _).mono ?_); go_must (
                rintro e w2 ⟨t, E, rfl, hb2, HE0, HE1⟩))
            | fail)
          obtain ⟨kd, a, b⟩ := f
          simp only at hf7 hab hbl HE0 HE1 Hrd
          obtain ⟨tk, tx, tp⟩ := t
          obtain ⟨W3, hW3⟩ : ∃ W3, w2.alloc (.cells #[.int .i64 (tk : Int), .string tx, .int .i64 (tp : Int)] 38) = W3 := ⟨_, rfl⟩
          have hB3 : Below w2.heap.size w2 W3 := by rw [← hW3]; exact (Below.refl _ _).alloc (Nat.le_refl _) _
          have q3 : W3.heap[w2.heap.size]? = some (.cells #[.int .i64 (tk : Int), .string tx, .int .i64 (tp : Int)] 38) := by rw [← hW3]; exact heap_alloc_new _ _
          simp only
          rw [hW3]
          have hb23 : Below wr.heap.size wr W3 := hb2.trans (hB3.mono hb2.size)
          have hBw3 : Below w.heap.size w W3 := hB.trans (hb23.mono hBs)
          have hR3 : W3.ownsRow w.heap.size 38 3 (.slice Av pre.length cv) pre.length (pre.flatMap Tk.cells) := row_keepk HR.out fun g e => hb23.block g (row_ltk HR.out g e).2
          obtain ⟨c0, c1, c2, _, _, _⟩ := cells_tk q3
          have HR3 := Lib.hid hR3
          have hs3 := hb23.size
          have hs4 := hB3.size
          have hl3 : w2.heap.size < W3.heap.size := (Array.getElem?_eq_some_iff.1 q3).1
          clear hW3 hR3
          by_cases hk0 : kd = 0
          · have hE := HE0.out hk0
            have hE' : ((E : Int) == (k : Int)) = true := by rw [beq_iff_eq]; omega
            have hT0 : Hid (toks s 0 = (pre, some (k, 220))) := Lib.hid (by
              rw [HT.out, Hte.out, Hrd.out, if_pos hk0]
              simp)
            clear hE hk0
            go_wp2
            exact bodyPost_ret (v := .tuple #[.slice Av pre.length cv, .int .i64 (k : Int), .int .i64 220]) (by simp [results, Tryd.results23, go_sem]) rfl ⟨_, by rw [hT0.out]; rfl, by rw [hT0.out]; exact HR3.out, hBw3⟩
          · obtain ⟨ht, hE, hkE⟩ := HE1.out hk0
            have hE' : ((E : Int) == (k : Int)) = false := by rw [beq_eq_false_iff_ne]; omega
            injection ht with ht1 ht2 ht3
            have htz : tx.size = b - a := by rw [ht2, size_ext _ _ _ (by omega)]; omega
            have hgo : ¬ (kd ≠ 6 ∧ 40 < b - a) → toks s 0 = (pre ++ [Tk.mk tk tx tp] ++ (toks s E).1, (toks s E).2) ∧ E ≤ s.size := fun hn => by
              have hr1 : readT s k = .inl ⟨tk, tx, tp⟩ := by rw [Hrd.out, if_neg hk0, if_neg hn, ht1, ht2, ht3]
              have h7 := (readT_behind hk hr1).2.2.1
              refine ⟨?_, by rw [hE]; exact h7⟩
              rw [HT.out, Hte.out, hr1]
              simp only
              rw [if_neg (by rw [ht1]; exact hf7), hE]
              simp
            have herr : (kd ≠ 6 ∧ 40 < b - a) → toks s 0 = (pre, some (k, 3)) := fun hn => by
              rw [HT.out, Hte.out, Hrd.out, if_neg hk0, if_pos hn]
              simp
            clear hE ht2 ht3 Hte Hrd HE0 HE1 HC2 HCr
            subst ht1
            by_cases h6 : tk = 6
            · have h6' : ((tk : Int) != 6) = false := by simp [h6]
              obtain ⟨hT1, hE2⟩ := hgo (fun h => h.1 h6)
              have HT1 := Lib.hid hT1
              clear hgo herr hT1 htz h6 hk0
              go_wp2_with (first
                | (at_builtin
                   go_must (
                   refine wpList_append_own_at _ rfl _ _ 22 rfl w.heap.size 38 i0 (.agg #[.int .i64 0, .string ByteArray.empty, .int .i64 0]) 3 32 Tryd.underlying22 hi hz0 hz1 hz2 rfl (by decide) (.slice Av pre.length cv) pre.length _ rfl (row_keepk HR3.out fun g e => Below.heap_alloc W3 _ g (row_ltk HR3.out g e).2) ⟨W3.heap.size, 0, none⟩ 1 1 (Tk.mk tk tx tp).cells rfl rfl (cellsk_new _ _ _ _ _) (by simp [Tk.cells, Value.oneCell']) (by unfold maxLen; omega) (by omega) (by simp; omega) ?_
                   intro v5 w5 hown5 hgr5 _ _
                   have HO5 := Lib.hid hown5
                   have hB5 : Below w.heap.size w w5 := (hBw3.alloc (by omega) _).grown hgr5 (by simp; omega) (fun g e => (row_ltk HR3.out g e).1)
                   clear hown5 hgr5))
                | fail)
              go_roundw
              case rel =>
                refine ⟨pre ++ [⟨tk, tx, tp⟩], E, _, hE2, rfl, rfl, hB5, Lib.hid ?_, HT1⟩
                rw [List.length_append, List.flatMap_append]
                simpa using HO5.out
              case measure => simp [intOf]; omega
            · have h6' : ((tk : Int) != 6) = true := by simp; omega
              by_cases h40 : 40 < tx.size
              · have hT0 := Lib.hid (herr ⟨h6, by omega⟩)
                clear hgo herr htz h6 hk0
                go_wp2
                exact bodyPost_ret (v := .tuple #[.slice Av pre.length cv, .int .i64 (k : Int), .int .i64 3]) (by simp [results, Tryd.results23, go_sem]) rfl ⟨_, by rw [hT0.out]; rfl, by rw [hT0.out]; exact HR3.out, hBw3⟩
              · obtain ⟨hT1, hE2⟩ := hgo (fun h => by omega)
                have HT1 := Lib.hid hT1
                clear hgo herr hT1 htz h6 hk0
                go_wp2_with (first
                  | (at_builtin
                     go_must (
                     refine wpList_append_own_at _ rfl _ _ 22 rfl w.heap.size 38 i0 (.agg #[.int .i64 0, .string ByteArray.empty, .int .i64 0]) 3 32 Tryd.underlying22 hi hz0 hz1 hz2 rfl (by decide) (.slice Av pre.length cv) pre.length _ rfl (row_keepk HR3.out fun g e => Below.heap_alloc W3 _ g (row_ltk HR3.out g e).2) ⟨W3.heap.size, 0, none⟩ 1 1 (Tk.mk tk tx tp).cells rfl rfl (cellsk_new _ _ _ _ _) (by simp [Tk.cells, Value.oneCell']) (by unfold maxLen; omega) (by omega) (by simp; omega) ?_
                     intro v5 w5 hown5 hgr5 _ _
                     have HO5 := Lib.hid hown5
                     have hB5 : Below w.heap.size w w5 := (hBw3.alloc (by omega) _).grown hgr5 (by simp; omega) (fun g e => (row_ltk HR3.out g e).1)
                     clear hown5 hgr5))
                  | fail)
                go_roundw
                case rel =>
                  refine ⟨pre ++ [⟨tk, tx, tp⟩], E, _, hE2, rfl, rfl, hB5, Lib.hid ?_, HT1⟩
                  rw [List.length_append, List.flatMap_append]
                  simpa using HO5.out
                case measure => simp [intOf]; omega
        · have HT2 := Lib.hid (HT.out.trans (by rw [toks_same hk (by omega) (gapP_skip hsk (by omega))] : _ = (pre ++ (toks s (k + r)).1, (toks s (k + r)).2)))
          clear hsk hr
          go_wp2_with (first
            | (go_at_call 33; refine (rtBlank_any _ _).mono ?_; go_must (rintro e w' ⟨rfl, rfl⟩; rw [hb]))
            | (go_at_call 34; (with_reducible refine (HCr.out _).mono ?_); go_must (rintro e w' ⟨rfl, rfl⟩))
            | fail)
          go_roundw
          case rel => exact ⟨pre, k + r, _, by omega, rfl, by go_num, hB, HR, HT2⟩
          case measure => simp [intOf]; omega
    · obtain rfl : k = s.size := by omega
      have hT0 : Hid (toks s 0 = (pre ++ [Tk.mk 7 ⟨#[]⟩ s.size], none)) := Lib.hid (by
        rw [HT.out, toks_eq (Nat.le_refl _), show gapP s.data.toList s.size = s.size by have := gapP_end (L := s.data.toList); rwa [toList_len] at this, readT_end, ext_nil]
        simp)
      go_wp2_with (first
        | (at_builtin
           go_must (
           refine wpList_append_own_at _ rfl _ _ 22 rfl w.heap.size 38 i0 (.agg #[.int .i64 0, .string ByteArray.empty, .int .i64 0]) 3 32 Tryd.underlying22 hi hz0 hz1 hz2 rfl (by decide) (.slice Av pre.length cv) pre.length _ rfl (row_keepk HR.out fun g e => Below.heap_alloc wr _ g (row_ltk HR.out g e).2) ⟨wr.heap.size, 0, none⟩ 1 1 (Tk.mk 7 ⟨#[]⟩ s.size).cells rfl rfl (cellsk_new _ _ _ _ _) (by simp [Tk.cells, Value.oneCell']) (by unfold maxLen; omega) (by omega) (by simp; omega) ?_
           intro v5 w5 hown5 hgr5 _ _
           have HO5 := Lib.hid hown5
           have hB5 : Below w.heap.size w w5 := (hB.alloc (by omega) _).grown hgr5 (by simp; omega) (fun g e => (row_ltk HR.out g e).1)
           clear hown5 hgr5))
        | fail)
      refine bodyPost_ret (v := .tuple #[v5, .int .i64 0, .int .i64 0]) (by simp [results, Tryd.results23, go_sem]) rfl ⟨_, by rw [hT0.out]; rfl, ?_, hB5⟩
      rw [hT0.out, List.length_append, List.flatMap_append]
      simpa using HO5.out

end Go.Proofs.YtkpkhnaflohjpaaDoor

/- Token: the document's own Cut and Each; names and how they are written. -/

namespace Go.Proofs.YtkpkhnaflohjpaaDoor

open Go Go.RowKit Go.Shelf
set_option maxRecDepth 100000

set_option maxHeartbeats 2000000 in
theorem rtCut_any (s : ByteArray) (w : World) (hmax : s.size ≤ maxLen) : Calls Tryd.prog 9 #[.string s] w (CutPost s w) := by
  unfold maxLen at hmax
  by_cases hbig : 8000 < s.size
  · have hcut := Lib.hid (show cutR s = ([], 0, 3) from if_pos hbig)
    go_enter Tryd.func9, Tryd.ntmps9
    go_wp2
    exact bodyPost_ret (v := .tuple #[.slice none 0 0, .int .i64 0, .int .i64 3]) (by simp [results, Tryd.results9, go_sem]) rfl ⟨_, by rw [hcut.out], by rw [hcut.out]; exact World.ownsRow_nil _ _ _ _, Below.refl _ _⟩
  · have hcut : cutR s = match (toks s 0).2 with | some (p, c) => ([], p, c) | none => ((toks s 0).1, 0, 0) := if_neg hbig
    have HC := Lib.hid (rtTokens_any s w (by omega))
    have hall := (toks_all s 0 (Nat.zero_le _)).2.2.2
    cases hr : (toks s 0).2 with
    | some pc =>
      obtain ⟨p, c⟩ := pc
      rw [hr] at hcut hall
      simp only at hcut hall
      have hc0 : (c != 0) = true := by
        have hr1 := hall.2
        unfold readT at hr1
        simp only at hr1
        split at hr1
        · injection hr1 with hr1; subst hr1; decide
        · split at hr1
          · injection hr1 with hr1; subst hr1; decide
          · cases hr1
      have hfa : faultI (toks s 0).2 = ((p : Int), c) := by rw [hr]; rfl
      unfold ToksPost at HC
      rw [hfa] at HC
      have Hcut := Lib.hid hcut
      clear hcut hall hr hfa
      go_enter Tryd.func9, Tryd.ntmps9
      go_wp2_with (first
        | (go_at_call 23; (with_reducible refine HC.out.mono ?_); go_must (rintro e w1 ⟨v, rfl, hR, hb1⟩; have HR := Lib.hid hR; clear hR))
        | fail)
      exact bodyPost_ret (v := .tuple #[.slice none 0 0, .int .i64 (p : Int), .int .i64 c]) (by simp [results, Tryd.results9, go_sem]) rfl ⟨_, by rw [Hcut.out], by rw [Hcut.out]; exact World.ownsRow_nil _ _ _ _, hb1⟩
    | none =>
      rw [hr] at hcut
      simp only at hcut
      have hfa : faultI (toks s 0).2 = (0, 0) := by rw [hr]; rfl
      unfold ToksPost at HC
      rw [hfa] at HC
      have Hcut := Lib.hid hcut
      clear hcut hall hr hfa
      go_enter Tryd.func9, Tryd.ntmps9
      go_wp2_with (first
        | (go_at_call 23; (with_reducible refine HC.out.mono ?_); go_must (rintro e w1 ⟨v, rfl, hR, hb1⟩; have HR := Lib.hid hR; clear hR))
        | fail)
      exact bodyPost_ret (v := .tuple #[v, .int .i64 0, .int .i64 0]) (by simp [results, Tryd.results9, go_sem]) rfl ⟨_, by rw [Hcut.out], by rw [Hcut.out]; exact HR.out, hb1⟩

def EachPost (s : ByteArray) (w : World) (e : Ending) (w' : World) : Prop := ∃ v, e = .returned v ∧ w'.ownsRow w.heap.size 38 3 v (eachL s).length ((eachL s).flatMap Tk.cells) ∧ Below w.heap.size w w'

set_option maxHeartbeats 2000000 in
theorem rtEach_any (s : ByteArray) (w : World) (hmax : s.size ≤ maxLen) : Calls Tryd.prog 12 #[.string s] w (EachPost s w) := by
  unfold maxLen at hmax
  by_cases hbig : 8000 < s.size
  · have hE := Lib.hid (show eachL s = [] from if_pos hbig)
    go_enter Tryd.func12, Tryd.ntmps12
    go_wp2
    go_ret
    exact ⟨_, rfl, by rw [hE.out]; exact World.ownsRow_nil _ _ _ _, Below.refl _ _⟩
  · have hE := Lib.hid (show eachL s = (toks s 0).1 from if_neg hbig)
    have HC := Lib.hid (rtTokens_any s w (by omega))
    go_enter Tryd.func12, Tryd.ntmps12
    go_wp2_with (first
      | (go_at_call 23; (with_reducible refine HC.out.mono ?_); go_must (rintro e w1 ⟨v, rfl, hR, hb1⟩; have HR := Lib.hid hR; clear hR))
      | fail)
    go_ret
    exact ⟨_, rfl, by rw [hE.out]; exact HR.out, hb1⟩

theorem nameAll_run : ∀ l : List UInt8, nameAll l = decide (runN nameC l = l.length)
  | [] => rfl
  | c :: l => by
    have ih := nameAll_run l
    have hle := runN_le nameC l
    unfold nameAll at ih ⊢
    rw [List.all_cons, ih, runN]
    cases h : nameC (c.toNat : Int) with
    | true => simp
    | false => simp

theorem run_all {s : ByteArray} {r : Nat} (hr : r ≤ s.size) : s.extract 0 r = s ↔ r = s.size := by
  constructor
  · intro h
    have := congrArg ByteArray.size h
    rw [size_ext _ _ _ hr] at this
    omega
  · rintro rfl
    apply ByteArray.ext
    apply Array.toList_inj.1
    rw [toList_ext, List.drop_zero, Nat.sub_zero, List.take_of_length_le (by rw [toList_len]; exact Nat.le_refl _)]

set_option maxHeartbeats 2000000 in
theorem tokName_any (s : ByteArray) (w : World) (hs : s.size ≤ maxLen) : Calls Tryd.prog 16 #[.string s] w fun e w' => e = .returned (.bool (namedB s)) ∧ w = w' := by
  have hs' := hs
  unfold maxLen at hs'
  by_cases h0 : 0 < s.size
  · by_cases h40 : s.size ≤ 40
    · have hn : namedB s = decide (runN nameC s.data.toList = s.size) := by
        unfold namedB
        rw [decide_eq_true (show 1 ≤ s.size by omega), decide_eq_true h40, nameAll_run, toList_len]; rfl
      have hle := runN_le nameC s.data.toList
      rw [toList_len] at hle
      have HC := Lib.hid (fun w => tokRunWord_any s w hs)
      obtain ⟨r, hr⟩ : ∃ r, runN nameC s.data.toList = r := ⟨_, rfl⟩
      rw [hr] at hn hle HC
      by_cases hx : r = s.size
      · have hx2 := (run_all hle).2 hx
        rw [hx2] at HC
        rw [decide_eq_true hx] at hn
        have HN := Lib.hid hn
        clear hn hx hr hx2
        go_enter Tryd.func16, Tryd.ntmps16
        go_wp2_with (first | (go_at_call 26; (with_reducible refine (HC.out _).mono ?_); go_must (rintro e w' ⟨rfl, rfl⟩)) | fail)
        go_ret
        exact ⟨ret_bool HN.out.symm, rfl⟩
      · have hx2 : ¬ s.extract 0 r = s := fun e => hx ((run_all hle).1 e)
        rw [decide_eq_false hx] at hn
        obtain ⟨P, hP⟩ : ∃ P, s.extract 0 r = P := ⟨_, rfl⟩
        rw [hP] at HC hx2
        have hs1 : (P.toList == s.toList) = false := by
          rw [beq_eq_false_iff_ne]
          intro e
          rw [ByteArray.toList_eq, ByteArray.toList_eq] at e
          exact hx2 (ByteArray.ext (Array.toList_inj.1 e))
        have HN := Lib.hid hn
        clear hn hx hr hx2 hP
        go_enter Tryd.func16, Tryd.ntmps16
        go_wp2_with (first | (go_at_call 26; (with_reducible refine (HC.out _).mono ?_); go_must (rintro e w' ⟨rfl, rfl⟩)) | fail)
        go_ret
        exact ⟨ret_bool HN.out.symm, rfl⟩
    · have HN : Hid (namedB s = false) := Lib.hid (by unfold namedB; rw [decide_eq_false h40]; simp)
      go_enter Tryd.func16, Tryd.ntmps16
      go_wp2
      go_ret
      exact ⟨ret_bool HN.out.symm, rfl⟩
  · have HN : Hid (namedB s = false) := Lib.hid (by unfold namedB; rw [decide_eq_false (show ¬ 1 ≤ s.size by omega)]; rfl)
    have := empty_eq (s := s) (by omega)
    subst this
    go_enter Tryd.func16, Tryd.ntmps16
    go_wp2
    go_ret
    exact ⟨ret_bool HN.out.symm, rfl⟩

theorem rtName_any (s : ByteArray) (w : World) (hs : s.size ≤ maxLen) : Calls Tryd.prog 17 #[.string s] w fun e w' => e = .returned (.bool (namedB s)) ∧ w = w' := by
  go_enter Tryd.func17, Tryd.ntmps17
  go_wp2_with (first | (go_at_call 28; refine (Named_any s _ hs).mono ?_; go_must (rintro e w' ⟨rfl, rfl⟩)) | fail)
  go_ret
  exact ⟨rfl, rfl⟩

/-- How a name is written. -/
def quoteB (s : ByteArray) : ByteArray × Bool := if namedB s = false then (⟨#[]⟩, false) else if (match s.data.toList with | c :: _ => smallC (c.toNat : Int) | [] => false) then (s, true) else ((⟨#[39]⟩ : ByteArray) ++ s ++ (⟨#[39]⟩ : ByteArray), true)

theorem named_size {s : ByteArray} (h : namedB s = true) : 0 < s.size ∧ s.size ≤ 40 := by
  unfold namedB at h
  simp only [Bool.and_eq_true, decide_eq_true_eq] at h
  omega

theorem quoteB_no {s : ByteArray} (h : namedB s = false) : quoteB s = (⟨#[]⟩, false) := if_pos h

theorem quoteB_small {s : ByteArray} (h : namedB s = true) (h0 : 0 < s.size) (hs : smallC (s[0].toNat : Int) = true) : quoteB s = (s, true) := by
  unfold quoteB
  rw [if_neg (by rw [h]; simp), list_cons h0]
  simp only [hs, if_true]

theorem quoteB_great {s : ByteArray} (h : namedB s = true) (h0 : 0 < s.size) (hs : smallC (s[0].toNat : Int) = false) : quoteB s = ((⟨#[39]⟩ : ByteArray) ++ s ++ (⟨#[39]⟩ : ByteArray), true) := by
  unfold quoteB
  rw [if_neg (by rw [h]; simp), list_cons h0]
  simp [hs]

set_option maxHeartbeats 2000000 in
theorem tokQuote_any (s : ByteArray) (w : World) (hs : s.size ≤ maxLen) : Calls Tryd.prog 14 #[.string s] w fun e w' => e = .returned (.tuple #[.string (quoteB s).1, .bool (quoteB s).2]) ∧ Below w.heap.size w w' := by
  have HN := Lib.hid (fun w => tokName_any s w hs)
  cases hn : namedB s with
  | false =>
    rw [hn] at HN
    have HQ := Lib.hid (quoteB_no hn)
    clear hn
    go_enter Tryd.func14, Tryd.ntmps14
    go_wp2_with (first | (go_at_call 16; (with_reducible refine (HN.out _).mono ?_); go_must (rintro e w' ⟨rfl, rfl⟩)) | fail)
    exact bodyPost_ret (v := .tuple #[.string ⟨#[]⟩, .bool false]) (by simp [results, Tryd.results14, go_sem]) rfl ⟨by rw [HQ.out], Below.refl _ _⟩
  | true =>
    rw [hn] at HN
    obtain ⟨h0, h40⟩ := named_size hn
    cases hsm : smallC (s[0].toNat : Int) with
    | true =>
      have HQ := Lib.hid (quoteB_small hn h0 hsm)
      have Hs := Lib.hid hsm
      clear hn hsm
      go_enter Tryd.func14, Tryd.ntmps14
      go_wp2_with (first
        | (go_at_call 16; (with_reducible refine (HN.out _).mono ?_); go_must (rintro e w' ⟨rfl, rfl⟩))
        | (go_at_call 24; refine (tokSmall_any _ _).mono ?_; go_must (rintro e w' ⟨rfl, rfl⟩; rw [Hs.out]))
        | (go_at_call 25; refine (sclone_any s _ (by omega)).mono ?_; go_must (rintro e w1 ⟨rfl, hb1⟩))
        | fail)
      exact bodyPost_ret (v := .tuple #[.string s, .bool true]) (by simp [results, Tryd.results14, go_sem]) rfl ⟨by rw [HQ.out], hb1⟩
    | false =>
      have HQ := Lib.hid (quoteB_great hn h0 hsm)
      have Hs := Lib.hid hsm
      have hp1 : ¬ (9223372036854775807 < 1 + s.size) := by omega
      have hp2 : ¬ (9223372036854775807 < 1 + s.size + 1) := by omega
      clear hn hsm
      go_enter Tryd.func14, Tryd.ntmps14
      go_wp2_with (first
        | (go_at_call 16; (with_reducible refine (HN.out _).mono ?_); go_must (rintro e w' ⟨rfl, rfl⟩))
        | (go_at_call 24; refine (tokSmall_any _ _).mono ?_; go_must (rintro e w' ⟨rfl, rfl⟩; rw [Hs.out]))
        | fail)
      exact bodyPost_ret (v := .tuple #[.string ((⟨#[39]⟩ : ByteArray) ++ s ++ (⟨#[39]⟩ : ByteArray)), .bool true]) (by simp [results, Tryd.results14, go_sem]) rfl ⟨by rw [HQ.out], Below.refl _ _⟩

set_option maxHeartbeats 2000000 in
theorem rtQuote_any (s : ByteArray) (w : World) (hs : s.size ≤ maxLen) : Calls Tryd.prog 15 #[.string s] w fun e w' => e = .returned (.tuple #[.string (quoteB s).1, .bool (quoteB s).2]) ∧ w = w' := by
  have HN := Lib.hid (fun w => rtName_any s w hs)
  cases hn : namedB s with
  | false =>
    rw [hn] at HN
    have HQ := Lib.hid (quoteB_no hn)
    clear hn
    go_enter Tryd.func15, Tryd.ntmps15
    go_wp2_with (first | (go_at_call 17; (with_reducible refine (HN.out _).mono ?_); go_must (rintro e w' ⟨rfl, rfl⟩)) | fail)
    exact bodyPost_ret (v := .tuple #[.string ⟨#[]⟩, .bool false]) (by simp [results, Tryd.results15, go_sem]) rfl ⟨by rw [HQ.out], rfl⟩
  | true =>
    rw [hn] at HN
    obtain ⟨h0, h40⟩ := named_size hn
    cases hsm : smallC (s[0].toNat : Int) with
    | true =>
      have HQ := Lib.hid (quoteB_small hn h0 hsm)
      have h3 := of_decide_eq_true hsm
      have d1 : decide ((97 : Int) ≤ (s[0].toNat : Int)) = true := decide_eq_true h3.1
      have d2 : decide ((s[0].toNat : Int) ≤ 122) = true := decide_eq_true h3.2
      clear hn hsm h3
      go_enter Tryd.func15, Tryd.ntmps15
      go_wp2_with (first | (go_at_call 17; (with_reducible refine (HN.out _).mono ?_); go_must (rintro e w' ⟨rfl, rfl⟩)) | fail)
      exact bodyPost_ret (v := .tuple #[.string s, .bool true]) (by simp [results, Tryd.results15, go_sem]) rfl ⟨by rw [HQ.out], rfl⟩
    | false =>
      have HQ := Lib.hid (quoteB_great hn h0 hsm)
      have hp1 : ¬ (9223372036854775807 < 1 + s.size) := by omega
      have hp2 : ¬ (9223372036854775807 < 1 + s.size + 1) := by omega
      have h3 := of_decide_eq_false hsm
      rcases (show (s[0].toNat : Int) < 97 ∨ ((97 : Int) ≤ (s[0].toNat : Int) ∧ (122 : Int) < (s[0].toNat : Int)) by omega) with hx | ⟨hx, hx'⟩
      · have d1 : decide ((97 : Int) ≤ (s[0].toNat : Int)) = false := decide_eq_false (by omega)
        clear hn hsm h3 hx
        go_enter Tryd.func15, Tryd.ntmps15
        go_wp2_with (first | (go_at_call 17; (with_reducible refine (HN.out _).mono ?_); go_must (rintro e w' ⟨rfl, rfl⟩)) | fail)
        exact bodyPost_ret (v := .tuple #[.string ((⟨#[39]⟩ : ByteArray) ++ s ++ (⟨#[39]⟩ : ByteArray)), .bool true]) (by simp [results, Tryd.results15, go_sem]) rfl ⟨by rw [HQ.out], rfl⟩
      · have d1 : decide ((97 : Int) ≤ (s[0].toNat : Int)) = true := decide_eq_true hx
        have d2 : decide ((s[0].toNat : Int) ≤ 122) = false := decide_eq_false (by omega)
        clear hn hsm h3 hx hx'
        go_enter Tryd.func15, Tryd.ntmps15
        go_wp2_with (first | (go_at_call 17; (with_reducible refine (HN.out _).mono ?_); go_must (rintro e w' ⟨rfl, rfl⟩)) | fail)
        exact bodyPost_ret (v := .tuple #[.string ((⟨#[39]⟩ : ByteArray) ++ s ++ (⟨#[39]⟩ : ByteArray)), .bool true]) (by simp [results, Tryd.results15, go_sem]) rfl ⟨by rw [HQ.out], rfl⟩

end Go.Proofs.YtkpkhnaflohjpaaDoor

/- Token: the laws TokenCuts and TokenNames. -/

namespace Go.Proofs.YtkpkhnaflohjpaaDoor

open Go Go.RowKit Go.Shelf
set_option maxRecDepth 100000

def tkB (a : Int) (b : ByteArray) (c : Int) (a' : Int) (b' : ByteArray) (c' : Int) : Bool := decide (a = a' ∧ b = b' ∧ c = c')

theorem run_eql_tok (a a' : Int) (b b' : ByteArray) (c c' : Int) (w : World) : Sem.run Tryd.prog (binOp .eql 38 (.agg #[.int .i64 a, .string b, .int .i64 c]) (.agg #[.int .i64 a', .string b', .int .i64 c'])) w =
    .ok (.bool (tkB a b c a' b' c')) w := by
  have hS : Tryd.prog.underlying 38 = some (.struct (Tryd.prog.fieldsOf 38)) := by kernel_rfl
  have hp : Tryd.prog.stoodInHeld 38 = false := by kernel_rfl
  rw [run_eql_struct, show (10000 : Nat) = 9999 + 1 from rfl, run_equalIn_agg w 9999 38 _ _ hS hp]
  simp only [Program.fieldsOf, Tryd.underlying38]
  go_simp
  by_cases h1 : b = b'
  · by_cases h2 : a = a' <;> by_cases h3 : c = c' <;> simp [tkB, h1, h2, h3]
  · have h1' : ¬ b.toList = b'.toList := fun e => h1 (by
      rw [ByteArray.toList_eq, ByteArray.toList_eq] at e
      exact ByteArray.ext (Array.toList_inj.1 e))
    by_cases h2 : a = a' <;> simp [tkB, h1, h1', h2]

theorem run_neq_tok (a a' : Int) (b b' : ByteArray) (c c' : Int) (w : World) : Sem.run Tryd.prog (binOp .neq 38 (.agg #[.int .i64 a, .string b, .int .i64 c]) (.agg #[.int .i64 a', .string b', .int .i64 c'])) w =
    .ok (.bool (!tkB a b c a' b' c')) w := by
  have h := run_eql_tok a a' b b' c c' w
  simp only [binOp] at h ⊢
  rw [Sem.run_bind] at h ⊢
  revert h
  generalize Sem.run Tryd.prog (Op.equal 38 (.agg #[.int .i64 a, .string b, .int .i64 c]) (.agg #[.int .i64 a', .string b', .int .i64 c'])) w = r
  intro h
  cases r with
  | ok v w' =>
    simp only [Result.andThen_ok, Sem.run_pure] at h ⊢
    injection h with h1 h2
    injection h1 with h1
    rw [h1, h2]
  | halt x w' => simp [Result.andThen] at h

theorem tkcells_get : ∀ (l : List Tk) (i : Nat) (t : Tk), l[i]? = some t → (l.flatMap Tk.cells)[i * 3]? = some (.int .i64 (t.kind : Int)) ∧ (l.flatMap Tk.cells)[i * 3 + 1]? = some (.string t.txt) ∧ (l.flatMap Tk.cells)[i * 3 + 2]? = some (.int .i64 (t.pos : Int))
  | [], i, t, h => by simp at h
  | x :: l, 0, t, h => by
    simp at h
    subst h
    exact ⟨rfl, rfl, rfl⟩
  | x :: l, i + 1, t, h => by
    have ih := tkcells_get l i t (by simpa using h)
    rw [List.flatMap_cons]
    have hl : x.cells.length = 3 := rfl
    refine ⟨?_, ?_, ?_⟩
    · rw [List.getElem?_append_right (by rw [hl]; omega), hl, show (i + 1) * 3 - 3 = i * 3 by omega]; exact ih.1
    · rw [List.getElem?_append_right (by rw [hl]; omega), hl, show (i + 1) * 3 + 1 - 3 = i * 3 + 1 by omega]; exact ih.2.1
    · rw [List.getElem?_append_right (by rw [hl]; omega), hl, show (i + 1) * 3 + 2 - 3 = i * 3 + 2 by omega]; exact ih.2.2

theorem tkcells_len (l : List Tk) : (l.flatMap Tk.cells).length = l.length * 3 := by
  induction l with
  | nil => rfl
  | cons x l ih => rw [List.flatMap_cons, List.length_append, ih, List.length_cons, show x.cells.length = 3 from rfl]; omega

/-- A row of tokens at A. -/
def TksAt (w : World) (A : Option Addr) (l : List Tk) : Prop := ∀ (i : Nat) (t : Tk), l[i]? = some t → ∃ g, A = some ⟨g, 0, none⟩ ∧ g < w.heap.size ∧ w.cell? ⟨g, i * 3, none⟩ = some (.int .i64 (t.kind : Int)) ∧ w.cell? ⟨g, i * 3 + 1, none⟩ = some (.string t.txt) ∧ w.cell? ⟨g, i * 3 + 2, none⟩ = some (.int .i64 (t.pos : Int))

theorem TksAt.on {w w' : World} {A : Option Addr} {l : List Tk} (h : TksAt w A l) (hb : Below w.heap.size w w') : TksAt w' A l := fun i t ht => by
  obtain ⟨g, e, hg, h0, h1, h2⟩ := h i t ht
  exact ⟨g, e, Nat.lt_of_lt_of_le hg hb.size, cell_on hb hg h0, cell_on hb hg h1, cell_on hb hg h2⟩

theorem tks_of {w : World} {base : Nat} {v : Value} {l : List Tk} (h : w.ownsRow base 38 3 v l.length (l.flatMap Tk.cells)) : ∃ A c, v = .slice A l.length c ∧ TksAt w A l := by
  rcases h.2 with ⟨hv, h0⟩ | ⟨g, cap, cur, hv, hb, hgg, _⟩
  · refine ⟨none, 0, by rw [hv, h0], fun i t ht => ?_⟩
    have := (List.getElem?_eq_some_iff.1 ht).1
    omega
  · subst hv
    refine ⟨some ⟨g, 0, none⟩, cap, rfl, fun i t ht => ?_⟩
    have hi := (List.getElem?_eq_some_iff.1 ht).1
    obtain ⟨h0, h1, h2⟩ := tkcells_get l i t ht
    exact ⟨g, rfl, (Array.getElem?_eq_some_iff.1 hgg).1, (h.cellAt (i * 3) (by omega)).trans h0, (h.cellAt (i * 3 + 1) (by omega)).trans h1, (h.cellAt (i * 3 + 2) (by omega)).trans h2⟩

set_option maxHeartbeats 2000000 in
theorem lawSame_any (l : List Tk) (A A' : Option Addr) (c c' : Nat) (w : World) (h : TksAt w A l) (h' : TksAt w A' l) (hl : l.length ≤ 1048577) :
    Calls Tryd.prog 10 #[.slice A l.length c, .slice A' l.length c'] w fun e w' => e = .returned (.bool true) ∧ Below w.heap.size w w' := by
  have heq := run_neq_tok
  go_enter Tryd.func10, Tryd.ntmps10
  go_wp2
  go_loopw [5] (fun i wr => ∃ k q : Nat, k ≤ l.length ∧ i = .int .i64 k ∧ wr = w.drewN q) (fun i _ => l.length - (intOf i).toNat)
  case atStart => exact ⟨0, 0, Nat.zero_le _, rfl, rfl⟩
  case round =>
    obtain ⟨k, q, hk, rfl, rfl⟩ := hrel
    by_cases hlt : k < l.length
    · obtain ⟨t, ht⟩ : ∃ t, l[k]? = some t := ⟨_, List.getElem?_eq_getElem hlt⟩
      obtain ⟨g, rfl, _, c0, c1, c2⟩ := h k t ht
      obtain ⟨g', rfl, _, d0, d1, d2⟩ := h' k t ht
      have hs : tkB (t.kind : Int) t.txt (t.pos : Int) (t.kind : Int) t.txt (t.pos : Int) = true := by simp [tkB]
      clear h h' ht
      go_wp2
      go_quiet (fail)
      go_wp2
      go_roundw
      case rel => exact ⟨k + 1, q + nq, by omega, by go_num, rfl⟩
      case measure => simp [intOf]; omega
    · obtain rfl : k = l.length := by omega
      go_wp2
      go_ret
      exact ⟨rfl, bl_drewN (Below.refl _ _) _⟩

def T1 : ByteArray := ⟨#[112, 40, 88, 41, 32, 60, 61, 62, 32, 126, 32, 113]⟩

theorem cut1 : (cutR T1).1.length = 8 ∧ (cutR T1).2 = (0, 0) ∧ (cutR T1).1[4]? = some ⟨6, ⟨#[60, 61, 62]⟩, 5⟩ ∧ ((cutR T1).1[7]?.map Tk.kind) = some 7 := by decide +kernel

def T2 : ByteArray := ⟨#[97, 32, 35, 32, 98]⟩

theorem cut2 : cutR T2 = ([], 2, 220) := by decide +kernel

theorem quo1 : quoteB ⟨#[65, 98]⟩ = (⟨#[39, 65, 98, 39]⟩, true) := by decide +kernel

theorem quo2 : (quoteB ⟨#[97, 45, 98]⟩) = (⟨#[]⟩, false) := by decide +kernel

/-- What Cut answers, as a reader of the row wants it. -/
theorem cutPost_read {s : ByteArray} {w w' : World} {e : Ending} (h : CutPost s w e w') : ∃ A c, e = .returned (.tuple #[.slice A (cutR s).1.length c, .int .i64 (cutR s).2.1, .int .i64 (cutR s).2.2]) ∧ TksAt w' A (cutR s).1 ∧ Below w.heap.size w w' := by
  obtain ⟨v, he, hR, hb⟩ := h
  obtain ⟨A, c, rfl, hT⟩ := tks_of hR
  exact ⟨A, c, he, hT, hb⟩

theorem wake1 (w : World) (hg : sgn w) : Calls Tryd.prog 8 #[.string ⟨#[112, 40, 88, 41, 32, 60, 61, 62, 32, 126, 32, 113]⟩] w fun e w' => ∃ g c, e = .returned (.tuple #[.slice (some ⟨g, 0, none⟩) 8 c, .int .i64 0, .int .i64 0]) ∧ w'.cell? ⟨g, 12, none⟩ = some (.int .i64 6) ∧ w'.cell? ⟨g, 13, none⟩ = some (.string ⟨#[60, 61, 62]⟩) ∧ w'.cell? ⟨g, 14, none⟩ = some (.int .i64 5) ∧ w'.cell? ⟨g, 21, none⟩ = some (.int .i64 7) ∧ g < w'.heap.size ∧ Below w.heap.size w w' :=
  (tokCut_any T1 w hg (by decide)).mono fun e w' h => by
    obtain ⟨A, c, he, hT, hb⟩ := cutPost_read h
    obtain ⟨h1, h2, h3, h4⟩ := cut1
    rw [h1, h2] at he
    obtain ⟨g, rfl, hgl, c0, c1, c2⟩ := hT 4 _ h3
    obtain ⟨t7, ht7, hk7⟩ := Option.map_eq_some_iff.1 h4
    obtain ⟨g', e', _, d0, _, _⟩ := hT 7 t7 ht7
    injection e' with e'
    injection e' with e'
    subst e'
    rw [hk7] at d0
    exact ⟨g, c, he, c0, c1, c2, d0, hgl, hb⟩

theorem wake2 (w : World) (hg : sgn w) : Calls Tryd.prog 8 #[.string ⟨#[97, 32, 35, 32, 98]⟩] w fun e w' => ∃ A c, e = .returned (.tuple #[.slice A 0 c, .int .i64 2, .int .i64 220]) ∧ Below w.heap.size w w' :=
  (tokCut_any T2 w hg (by decide)).mono fun e w' h => by
    obtain ⟨A, c, he, hT, hb⟩ := cutPost_read h
    rw [cut2] at he
    exact ⟨A, c, he, hb⟩

theorem wake3 (w : World) : Calls Tryd.prog 14 #[.string ⟨#[65, 98]⟩] w fun e w' => e = .returned (.tuple #[.string ⟨#[39, 65, 98, 39]⟩, .bool true]) ∧ Below w.heap.size w w' :=
  (tokQuote_any ⟨#[65, 98]⟩ w (by decide)).mono fun e w' h => by rw [quo1] at h; exact h

theorem wake4 (w : World) : Calls Tryd.prog 14 #[.string ⟨#[97, 45, 98]⟩] w fun e w' => e = .returned (.tuple #[.string ⟨#[]⟩, .bool false]) ∧ Below w.heap.size w w' :=
  (tokQuote_any ⟨#[97, 45, 98]⟩ w (by decide)).mono fun e w' h => by rw [quo2] at h; exact h

set_option maxHeartbeats 4000000 in
theorem tokWakes_any (w : World) (hg : sgn w) : Calls Tryd.prog 11 #[] w fun e w' => e = .returned (.bool true) ∧ Below w.heap.size w w' := by
  have heq := run_eql_tok
  have hs : tkB 6 ⟨#[60, 61, 62]⟩ 5 6 ⟨#[60, 61, 62]⟩ 5 = true := by decide
  have Hg := Lib.hid hg
  clear hg
  go_enter Tryd.func11, Tryd.ntmps11
  go_wp2_with (first
    | (go_at_call 8; (with_reducible refine (wake1 _ Hg.out).mono ?_); go_must (rintro e w1 ⟨g, c, rfl, a0, a1, a2, a3, hgl, hb1⟩; have hg1 := Lib.hid (sgn_below Hg.out hb1)))
    | (go_at_call 8; (with_reducible refine (wake2 _ hg1.out).mono ?_); go_must (rintro e w2 ⟨A2, c2, rfl, hb2⟩; have b0 := cell_on hb2 hgl a0; have b1 := cell_on hb2 hgl a1; have b2 := cell_on hb2 hgl a2; have b3 := cell_on hb2 hgl a3; have hgl2 := Nat.lt_of_lt_of_le hgl hb2.size; have hB2 := hb1.trans (hb2.mono hb1.size)))
    | (go_at_call 14; (with_reducible refine (wake3 _).mono ?_); go_must (rintro e w3 ⟨rfl, hb3⟩; have d0 := cell_on hb3 hgl2 b0; have d1 := cell_on hb3 hgl2 b1; have d2 := cell_on hb3 hgl2 b2; have d3 := cell_on hb3 hgl2 b3; have hgl3 := Nat.lt_of_lt_of_le hgl2 hb3.size; have hB3 := hB2.trans (hb3.mono hB2.size)))
    | (go_at_call 14; (with_reducible refine (wake4 _).mono ?_); go_must (rintro e w4 ⟨rfl, hb4⟩; have e0 := cell_on hb4 hgl3 d0; have e1 := cell_on hb4 hgl3 d1; have e2 := cell_on hb4 hgl3 d2; have e3 := cell_on hb4 hgl3 d3; have hB4 := hB3.trans (hb4.mono hB3.size)))
    | fail)
  go_ret
  exact ⟨rfl, hB4⟩

set_option maxHeartbeats 2000000 in
theorem TokenCuts_any (s : ByteArray) (w : World) (hg : sgn w) (hs : s.size ≤ maxLen) : Calls Tryd.prog 3 #[.string s] w fun e w' => e = .returned (.bool true) ∧ Below w.heap.size w w' := by
  have HC1 := Lib.hid (tokCut_any s w hg hs)
  have hll : (cutR s).1.length ≤ 1048577 := by
    unfold cutR
    by_cases h : 8000 < s.size
    · rw [if_pos h]; simp
    · rw [if_neg h]
      have := (toks_all s 0 (Nat.zero_le _)).2.1
      split
      · simp
      · simp only; omega
  obtain ⟨L, hL⟩ : ∃ L, cutR s = L := ⟨_, rfl⟩
  obtain ⟨l, a, b⟩ := L
  have C1 : Hid (Calls Tryd.prog 8 #[.string s] w fun e w' => ∃ A c, e = .returned (.tuple #[.slice A l.length c, .int .i64 a, .int .i64 b]) ∧ Hid (TksAt w' A l) ∧ Below w.heap.size w w') := Lib.hid (HC1.out.mono fun e w' h => by
    obtain ⟨A, c, he, hT, hb⟩ := cutPost_read h
    rw [hL] at he hT
    exact ⟨A, c, he, Lib.hid hT, hb⟩)
  have C2 : Hid (∀ w1 : World, Calls Tryd.prog 9 #[.string s] w1 fun e w' => ∃ A c, e = .returned (.tuple #[.slice A l.length c, .int .i64 a, .int .i64 b]) ∧ Hid (TksAt w' A l) ∧ Below w1.heap.size w1 w') := Lib.hid fun w1 => (rtCut_any s w1 hs).mono fun e w' h => by
    obtain ⟨A, c, he, hT, hb⟩ := cutPost_read h
    rw [hL] at he hT
    exact ⟨A, c, he, Lib.hid hT, hb⟩
  rw [hL] at hll
  clear HC1 hL
  go_enter Tryd.func3, Tryd.ntmps3
  go_wp2_with (first
    | (go_at_call 8; (with_reducible refine C1.out.mono ?_); go_must (rintro e w1 ⟨A1, c1, rfl, hT1, hb1⟩))
    | (go_at_call 9; (with_reducible refine (C2.out _).mono ?_); go_must (rintro e w2 ⟨A2, c2, rfl, hT2, hb2⟩; have hB2 := hb1.trans (hb2.mono hb1.size)))
    | (go_at_call 10; (with_reducible refine (lawSame_any l A1 A2 c1 c2 _ (hT1.out.on hb2) hT2.out hll).mono ?_); go_must (rintro e w3 ⟨rfl, hb3⟩; have hB3 := hB2.trans (hb3.mono hB2.size)))
    | (go_at_call 11; (with_reducible refine (tokWakes_any _ (sgn_below hg hB3)).mono ?_); go_must (rintro e w4 ⟨rfl, hb4⟩))
    | fail)
  go_ret
  exact ⟨rfl, hB3.trans (hb4.mono hB3.size)⟩

set_option maxHeartbeats 2000000 in
theorem TokenNames_any (s : ByteArray) (w : World) (hg : sgn w) (hs : s.size ≤ maxLen) : Calls Tryd.prog 5 #[.string s] w fun e w' => e = .returned (.bool true) ∧ Below w.heap.size w w' := by
  have C1 := Lib.hid (fun w => tokQuote_any s w hs)
  have C2 := Lib.hid (fun w => rtQuote_any s w hs)
  have C3 := Lib.hid (fun w => tokName_any s w hs)
  have C4 := Lib.hid (fun w => rtName_any s w hs)
  obtain ⟨Q, hQ⟩ : ∃ Q, quoteB s = Q := ⟨_, rfl⟩
  obtain ⟨q, b⟩ := Q
  obtain ⟨n, hn⟩ : ∃ n, namedB s = n := ⟨_, rfl⟩
  rw [hQ] at C1 C2
  rw [hn] at C3 C4
  have hqq : (q.toList == q.toList) = true := by simp
  clear hQ hn
  go_enter Tryd.func5, Tryd.ntmps5
  go_wp2_with (first
    | (go_at_call 14; (with_reducible refine (C1.out _).mono ?_); go_must (rintro e w1 ⟨rfl, hb1⟩))
    | (go_at_call 15; (with_reducible refine (C2.out _).mono ?_); go_must (rintro e w2 ⟨rfl, rfl⟩))
    | (go_at_call 16; (with_reducible refine (C3.out _).mono ?_); go_must (rintro e w3 ⟨rfl, rfl⟩))
    | (go_at_call 17; (with_reducible refine (C4.out _).mono ?_); go_must (rintro e w4 ⟨rfl, rfl⟩))
    | (go_at_call 11; (with_reducible refine (tokWakes_any _ (sgn_below hg hb1)).mono ?_); go_must (rintro e w5 ⟨rfl, hb5⟩))
    | fail)
  go_ret
  exact ⟨rfl, hb1.trans (hb5.mono hb1.size)⟩

end Go.Proofs.YtkpkhnaflohjpaaDoor

/- A law's last step, whatever its arguments: it answered true, and below the heap's old size nothing has turned. -/

namespace Go.Proofs.YtkpkhnaflohjpaaDoor

open Go.ChangeShapes Go.WideShapes Go.ChangeAt Go.RowKit

section

variable {H : Type} {enc : TypeId × Value → H} {P : Program}

theorem trodAll_later (hl : laidOutB P = true) {W W' : World} (hb : Below W.heap.size W W') : ∀ {ts : List TypeId} {vs : List Value} {ds : List (DataW H)} {ps : List MemPlace},
    (ts.all fun t => P.readableRec t && decide (t < P.types.size)) = true → (∀ x ∈ ps, x.block < W.heap.size) → DataW.TrodAll enc P W 0 (fun _ => true) true ts vs ds ps → DataW.TrodAll enc P W' 0 (fun b => decide (b < W.heap.size)) true ts vs ds ps
  | [], [], [], _, _, _, h => h
  | [], [], _ :: _, _, _, _, h => h.elim
  | [], _ :: _, _, _, _, _, h => h.elim
  | _ :: _, [], _, _, _, _, h => h.elim
  | _ :: _, _ :: _, [], _, _, _, h => h.elim
  | t :: ts, v :: vs, d :: ds, ps, hr, hlt, h => by
    obtain ⟨p, q, h1, h2, rfl⟩ := h
    simp only [List.all_cons, Bool.and_eq_true, decide_eq_true_eq] at hr
    exact ⟨p, q, Below.trod hl hr.1.1 hr.1.2 h1 hb (fun x hx => hlt x (List.mem_append_left _ hx)), trodAll_later hl hb hr.2 (fun x hx => hlt x (List.mem_append_right _ hx)) h2, rfl⟩

theorem law_post (hl : laidOutB P = true) {f : Func} {s : ChangeSpec} {tb : TypeId} (hv : s.vars = []) (hrt : f.resultTypes = #[tb]) (htb : P.underlying tb = some .bool)
    (hread : (f.params.toList.all fun t => P.readableRec t && decide (t < P.types.size)) = true) {W W' : World} {args : Array Value} {ds gs : List (DataW H)} {before : List MemPlace}
    (hW : DataW.Whole enc P f.params.toList s.vars false W args.toList ds gs before) (hfn : s.fn H (ds ++ gs) = { results := [.lit (.bool true)], args := ds }) (hb : Below W.heap.size W W') :
    s.post enc P f false true false false W args (.bool true) W' := by
  have hlt := hW.lt
  have hW' := hW
  obtain ⟨p, q, hA, hV, rfl, hfz, _⟩ := hW'
  have hV' : gs = [] ∧ q = [] := by
    rw [hv] at hV
    cases gs with
    | nil => exact ⟨rfl, hV⟩
    | cons _ _ => exact hV.elim
  obtain ⟨rfl, rfl⟩ := hV'
  have hold : ∀ x ∈ p, x.block < W.heap.size := fun x hx => hlt x (by simp [hx])
  refine ⟨ds, [], p ++ [], [], p, [], hW, ?_, ?_, ?_, World.keptBut_mono (fun x hx => ⟨hx, ?_⟩) (hb.frame (· ∈ p ++ [])), fun h => by cases h⟩
  · rw [hfn, hrt]
    exact trodAll_mk1 (shut_bool htb _)
  · rw [hfn]
    exact trodAll_later hl hb hread hold hA
  · rw [hfn, hv]
    rfl
  · rw [List.append_nil] at hx
    exact .inr (.inl hx)

end

end Go.Proofs.YtkpkhnaflohjpaaDoor

/- Token: what the rows' list of variables gives a walk: the signs' cells; a text that is an argument. -/

namespace Go.Proofs.YtkpkhnaflohjpaaDoor

open Go.ChangeShapes Go.WideShapes Go.ChangeAt Go.RowKit

theorem ownk : ownKnob Tryd.prog.godebug = none := by kernel_rfl

theorem laidOutk : laidOutB Tryd.prog = true := by kernel_rfl

theorem gSigns : Tryd.prog.globalNamed "syllogism/token.signs" = some 0 := by kernel_rfl

theorem gSignsType : (Tryd.prog.globals[0]?).map (·.type) = some 59 := by kernel_rfl

theorem cellsStrk : Tryd.prog.cellsOf 9 = 1 := by kernel_rfl

theorem sgn_of_laid {W : World} {rest : List (String × DataW Unit)} (h : laidMet Tryd.prog (("syllogism/token.signs", Rows.laid_syllogism_token_signs) :: rest) W) : sgn W := by
  obtain ⟨ps, ⟨g', t', cs, fuel, p, q, hg', ht', hvar, hd, _, _⟩, _⟩ := h
  obtain rfl := Option.some.inj (gSigns.symm.trans hg')
  obtain rfl := Option.some.inj (gSignsType.symm.trans ht')
  obtain ⟨xs, m, _, hx, hlen, hxl, hf⟩ := DataW.trod_array Tryd.underlying59 hd
  have hxs : xs.map (·.1) = signsL.map fun p => (DataW.lit (.string p) : DataW Unit) := by
    have h1 := congrArg Prod.fst hx
    simp only at h1
    have h2 : (Rows.laid_syllogism_token_signs : DataW Unit) = .agg (signsL.map fun p => (DataW.lit (.string p) : DataW Unit)) := rfl
    rw [h2] at h1
    injection h1 with h1
    exact h1.symm
  have key : ∀ (i : Nat) (p : List UInt8), signsL[i]? = some p → W.cell? ⟨0, i, none⟩ = some (.string ⟨p.toArray⟩) := fun i p hp => by
    have hi : i < 20 := (List.getElem?_eq_some_iff.1 hp).1
    have h1 := hf i hi
    rw [cellsStrk] at h1
    obtain ⟨x, hx1⟩ : ∃ x, xs[i]? = some x := ⟨_, List.getElem?_eq_getElem (by omega)⟩
    rw [hx1] at h1
    obtain ⟨a, ha, ea, _⟩ := DataW.trod_string Tryd.underlying9 h1
    have h2 : (xs.map (·.1))[i]? = some x.1 := by rw [List.getElem?_map, hx1]; rfl
    rw [hxs, List.getElem?_map, hp, ea] at h2
    simp only [Option.map_some, Option.some.injEq, DataW.lit.injEq, Lit.string.injEq] at h2
    have h3 := World.var?_cell hg' hvar i
    rw [h3]
    have h4 := congrArg (·[0]?) ha
    simp only [Nat.mul_one] at h4
    rw [List.getElem?_take, if_pos (by omega), List.getElem?_drop] at h4
    simp only [Nat.add_zero] at h4
    have h5 : (⟨p.toArray⟩ : ByteArray) = a := ByteArray.ext (Array.toList_inj.1 (by simpa using h2))
    rw [h5]
    simpa using h4
  refine ⟨key, ?_⟩
  have := key 0 _ rfl
  exact World.block_lt_of_cell? W _ this

variable {H : Type} {enc : TypeId × Value → H} {W : World} {base : Nat} {held : Bool}

/-- A text that is an argument. -/
theorem open_text {r : Reach} {b0 : Nat} {v : Value} {d : DataW H} {ps : List MemPlace} (hv : Value.okWide Tryd.prog W r b0 9 v) (h : DataW.Trod enc Tryd.prog W base (fun _ => true) held 9 v d ps) : ∃ s : ByteArray, v = .string s ∧ s.size ≤ maxLen := by
  obtain ⟨s, rfl⟩ := okWide_string Tryd.underlying9 hv
  obtain ⟨fuel, hf⟩ := h
  obtain ⟨a, ha, _, hs⟩ := DataW.trod_string Tryd.underlying9 hf
  have : (Value.string s).cells.toList = [.string s] := rfl
  rw [this] at ha
  injection ha with ha
  injection ha with ha
  subst ha
  exact ⟨s, rfl, hs⟩

end Go.Proofs.YtkpkhnaflohjpaaDoor

