/- A region that draws its order and only reads, in a round of a range over a function. -/
import Derived.Sort.QuietTacIn
namespace Go.Proofs.YtmcdnjhdmifpeaaDoor
open Go
variable {F : Fence} {n : Nat} {P : Program} {ops : Array Oper} {C : World → Prop} {md : Region.Mode}

theorem rd_op {o : Oper} {a : Act} {K : Act → Prop} {K' : Act → World → Prop} {Q' : Exit → Act → World → Prop} {w : World} (hs : ∀ ρ, o.semAt F.round ρ = execOp ρ o) (hw : C w) (h : ∀ a w', C w' → K a → K' a w')
    (ha : o.askedIn F P a C) (hq : o.quietIn F n P a C K) : o.wpIn F n P a w K' Q' := by
  obtain ⟨v, h1, h2⟩ := hq
  have h3 := h1 w hw
  unfold Oper.quietAtIn at h3
  refine ⟨ha w hw, ?_⟩
  rw [hs]
  revert h3
  generalize (execOp a.eval o).run P w = r
  intro h3
  rcases r with ⟨x, w'⟩ | ⟨x, w'⟩
  · cases x <;> simp only [Oper.quietUponIn] at h3
    · rw [h3.1, h3.2]; exact h _ _ hw h2
    · rw [h3.1]
      show K' (a.put o.dst undef) w
      rw [← h3.2]; exact h _ _ hw h2
    · rw [h3.1]
      exact ⟨h3.2.1, h3.2.2.mono fun e w'' he => by obtain ⟨rfl, hw''⟩ := he; exact h _ _ hw'' h2⟩
  · simp only [Oper.quietUponIn] at h3

theorem rd_num {i : Nat} {a : Act} {K : Act → Prop} {K' : Act → World → Prop} {Q' : Exit → Act → World → Prop} {w : World} (hs : ∀ (j : Nat) o, ops[j]? = some o → ∀ ρ, o.semAt F.round ρ = execOp ρ o) (hC : C w) (h : ∀ a w', C w' → K a → K' a w')
    (hq : qOpIn F n P ops C i K a) : wpOpIn F n P ops Q' i K' a w := by
  unfold qOpIn at hq
  unfold wpOpIn
  cases ho : ops[i]? with
  | none => simp only [ho] at hq; exact h _ _ hC hq
  | some o =>
    simp only [ho] at hq
    by_cases hw : Region.wanted o (yielded ops a.tmps) = true
    · simp only [hw, if_true] at hq ⊢
      exact rd_op (hs i o ho) hC h hq.1 hq.2
    · simp only [hw] at hq ⊢
      exact ⟨hq.1 w hC, h _ _ hC hq.2⟩

theorem rd_any {Q : Act → Prop} {Q' : Exit → Act → World → Prop} (hs : ∀ (j : Nat) o, ops[j]? = some o → ∀ ρ, o.semAt F.round ρ = execOp ρ o) (hQ : ∀ a w, C w → Q a → Q' .normal a w) : ∀ (fuel : Nat) (listed : Array Bool) (a : Act) (w : World), C w →
    wpAnyQIn F n P md ops C Q fuel listed a → wpAnyIn F n P md ops Q' fuel listed a w
  | 0, _, _, _, hw, h => ⟨h.1, hQ _ _ hw h.2⟩
  | k + 1, _, _, _, hw, h => ⟨fun h0 => hQ _ _ hw (h.1 h0), fun i hi => rd_num hs hw (fun a' w' hw' => rd_any hs hQ k _ a' w' hw') (h.2 i hi)⟩

/-- No operation of the region is a defer: told by a look at each. -/
def noDefer (l : List Oper) : Bool := l.all fun o => match o.op with | .defer _ => false | _ => true
theorem rd_sem {l : List Oper} (h : noDefer l = true) (r : Nat) : ∀ (j : Nat) o, l.toArray[j]? = some o → ∀ ρ, o.semAt (some r) ρ = execOp ρ o := by
  intro j o ho ρ
  have hm : o ∈ l := by simpa using Array.mem_of_getElem? ho
  have := List.all_eq_true.1 h o hm
  refine Oper.semAt_some r ρ o fun c hc => ?_
  rw [hc] at this
  cases this

theorem wpIn_region_rd {id r : Nat} {Q : Exit → Act → World → Prop} {a : Act} {w : World} {l : List Oper} (hro : F.round = some r) (hd : noDefer l = true) (hm : P.follows .mixedOrders = true) (hB : Region.lexB .any l.toArray = true)
    (h : wpQuietIn F n P l.toArray (fun w' => ∃ n, w' = w.drewN n) (fun a' => ∀ w', (∃ n, w' = w.drewN n) → Q .normal a' w') l a) : (Code.region id l.toArray true).wpIn F n P Q a w := by
  simp only [Region.lexB, Bool.and_eq_true] at hB
  refine wpIn_region_any hm (rd_any (Q := fun a' => ∀ w', (∃ n, w' = w.drewN n) → Q .normal a' w') (C := fun w' => ∃ n, w' = w.drewN n) (by rw [hro]; exact rd_sem hd r) (fun _ w' hw' h => h w' hw') _ _ _ _ ⟨1, rfl⟩ ?_)
  have := wpAnyQIn_lex (F := F) (n := n) (P := P) (C := fun w' => ∃ n, w' = w.drewN n) (md := .any) hB.1 l 0 (Array.replicate l.toArray.size false) a (by simp) (by simpa using hB.2) h
  simpa using this

end Go.Proofs.YtmcdnjhdmifpeaaDoor
