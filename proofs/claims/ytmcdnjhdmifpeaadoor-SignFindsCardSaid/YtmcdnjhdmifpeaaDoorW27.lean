/- Symbols: the places of one kind, in plain words, and the iterator's contract. -/
import Derived.Test.YtmcdnjhdmifpeaaDoorW10
namespace Go.Proofs.YtmcdnjhdmifpeaaDoor
open Go.RowKit Go.Shelf
attribute [local go_sem] Oper.semAt_some

abbrev IxS := Nat × Sm
def ixS (x : IxS) : Array Value := #[.int .i64 (x.1 : Int), .agg #[.string x.2.name, .int .i64 x.2.arity, .bool x.2.pred]]
/-- The symbols of kind p among the first k, with their places. -/
def picks (L : List Sm) (p : Bool) : Nat → List IxS
  | 0 => []
  | k + 1 => picks L p k ++ (match L[k]? with | some x => if x.pred = p then [(k, x)] else [] | none => [])
theorem picks_yes {L : List Sm} {p : Bool} {k : Nat} {x : Sm} (hx : L[k]? = some x) (hp : x.pred = p) : picks L p (k + 1) = picks L p k ++ [(k, x)] := by simp [picks, hx, hp]
theorem picks_no {L : List Sm} {p : Bool} {k : Nat} {x : Sm} (hx : L[k]? = some x) (hp : x.pred ≠ p) : picks L p (k + 1) = picks L p k := by simp [picks, hx, hp]
theorem picks_le (L : List Sm) (p : Bool) : ∀ k, (picks L p k).length ≤ k
  | 0 => Nat.le_refl _
  | k + 1 => by
    have := picks_le L p k
    simp only [picks, List.length_append]
    split
    · split <;> simp <;> omega
    · simp; omega
theorem picks_pre (L : List Sm) (p : Bool) {k : Nat} : ∀ {k'}, k ≤ k' → picks L p k <+: picks L p k'
  | 0, h => by obtain rfl : k = 0 := by omega
               exact List.prefix_refl _
  | k' + 1, h => by
    by_cases e : k = k' + 1
    · subst e; exact List.prefix_refl _
    · exact (picks_pre L p (by omega)).trans (List.prefix_append _ _)

/-- All cells but those of two blocks stay as they are. -/
def KX (ba bm : Nat) (A B : World) : Prop := ∀ q v, q.block ≠ ba → q.block ≠ bm → A.cell? q = some v → B.cell? q = some v
theorem KX.refl (ba bm : Nat) (A : World) : KX ba bm A A := fun _ _ _ _ h => h
theorem KX.trans {ba bm : Nat} {A B C : World} (h : KX ba bm A B) (k : KX ba bm B C) : KX ba bm A C := fun q v h1 h2 e => k q v h1 h2 (h q v h1 h2 e)
theorem CK.kx {ba bm : Nat} {A B : World} (h : CK A B) : KX ba bm A B := fun q v _ _ e => h q v e
theorem kx_put {ba bm : Nat} {w : World} (W : World) (l : Nat) (o o' : Obj) (h0 : w.heap.size ≤ l) (h : W.heap[l]? = some o) (hc : o.isCells = false) (hw : o.isWalk = false) : KX ba bm W (W.putObj l o') := (ck_put (w := w) W l o o' h0 h hc hw).kx

set_option maxRecDepth 100000 in
set_option maxHeartbeats 2000000 in
theorem symbols1_in (F : Fence) (n : Nat) (hf : F.fn 29) (hro : F.round = none) (hn : 1 ≤ n) (l Bs Bp ba bm : Nat) (A : Option Addr) (c B : Nat) (L : List Sm) (hL : L.length * 32 ≤ 140737488351232) (p : Bool)
    (n1 : Bs ≠ ba) (n2 : Bs ≠ bm) (n3 : Bp ≠ ba) (n4 : Bp ≠ bm) (hA : ∀ a, A = some a → a.block ≠ ba ∧ a.block ≠ bm) (J Jx : List IxS → World → Prop)
    (hJ : ∀ pre W o, J pre W → J pre (W.alloc o))
    (hY : ∀ pre x W, J pre W → pre.length < L.length → YieldAt F (n - 1) Tryd.prog l (ixS x) W fun e W' =>
      (e = .returned (.bool true) ∧ J (pre ++ [x]) W' ∧ KX ba bm W W') ∨ (e = .returned (.bool false) ∧ Jx (pre ++ [x]) W'))
    (W : World) (hBs : W.cell? ⟨Bs, 0, none⟩ = some (.slice A L.length c)) (hBp : W.cell? ⟨Bp, 0, none⟩ = some (.bool p)) (hS : Syms W B A L.length L) (h0 : J [] W) :
    CallsIn F n Tryd.prog 29 #[.func (.yield l) #[] #[], .pointer (some ⟨Bs, 0, none⟩), .pointer (some ⟨Bp, 0, none⟩)] W fun e W' => (∃ v, e = .returned v) ∧
      ((∃ ys, ys = picks L p L.length ∧ J ys W') ∨ (∃ pre, pre <+: picks L p L.length ∧ Jx pre W')) := by
  refine callsIn_of_wp Tryd.func29 rfl hf ?_ hro
  simp only [Tryd.ntmps29, List.size_toArray, List.length_cons, List.length_nil, Nat.reduceAdd, Nat.reduceSub, Array.replicate_succ, Array.replicate_zero, List.push_toArray, List.append_toArray, List.nil_append, List.cons_append]
  gi_wp2
  gi_loopw [8] (fun i wr => ∃ k : Nat, k ≤ L.length ∧ i = .int .i64 (k : Int) ∧ J (picks L p k) wr ∧ KX ba bm W wr)
    (fun i _ => L.length - (intOf i).toNat)
  case atStart => exact ⟨0, Nat.zero_le _, by simp, h0, KX.refl _ _ _⟩
  case round =>
    obtain ⟨k, hk, rfl, hJs, hck⟩ := hrel
    have hb1 := hck _ _ n1 n2 hBs
    have hb2 := hck _ _ n3 n4 hBp
    by_cases hlt : k < L.length
    · obtain ⟨y, hy⟩ : ∃ y, L[k]? = some y := ⟨_, List.getElem?_eq_getElem hlt⟩
      obtain ⟨b, off, rfl, hb, hc⟩ := hS.ad (by omega)
      obtain ⟨c1, c2, c3⟩ := hc _ _ hy
      obtain ⟨na, nm⟩ := hA _ rfl
      have d1 := hck _ _ (by exact na) (by exact nm) c1
      have d2 := hck _ _ (by exact na) (by exact nm) c2
      have d3 := hck _ _ (by exact na) (by exact nm) c3
      have hb2' : (wr.alloc (.cells #[.string y.name, .int .i64 y.arity, .bool y.pred] 33)).cell? ⟨Bp, 0, none⟩ = some (.bool p) := ck_alloc _ _ _ _ hb2
      have hlen : (picks L p k).length < L.length := Nat.lt_of_le_of_lt (picks_le L p k) hlt
      by_cases hp : y.pred = p
      · have hpb : (y.pred == p) = true := by simp [hp]
        have Hts := Lib.hid (picks_yes hy hp)
        have hyk : KX ba bm W (wr.alloc (.cells #[.string y.name, .int .i64 y.arity, .bool y.pred] 33)) := hck.trans (ck_alloc _ _).kx
        obtain ⟨fn, tmps, assign, body, hy', hR⟩ := hY _ (k, y) (wr.alloc (.cells #[.string y.name, .int .i64 y.arity, .bool y.pred] 33)) (hJ _ _ _ hJs) hlen
        simp only [ixS] at hy'
        have Hy := Lib.hid hy
        clear hy hp hc c1 c2 c3 hS hY
        gi_wp2
        refine hR.mono ?_
        rintro e W3 (⟨rfl, hJ3, hk3⟩ | ⟨rfl, hJx3⟩)
        · gi_wp2
          go_roundw
          case rel => exact ⟨k + 1, by omega, by go_num, by rw [Hts.out]; exact hJ3, hyk.trans hk3⟩
          case measure => simp [intOf]; omega
        · gi_wp2
          refine bodyPost_ret (results_none rfl _ _ _) rfl ?_
          exact ⟨⟨_, rfl⟩, .inr ⟨_, by rw [← Hts.out]; exact picks_pre L p (by omega), hJx3⟩⟩
      · have hpb : (y.pred == p) = false := by simpa using hp
        have Hts := Lib.hid (picks_no hy hp)
        clear hy hp hc c1 c2 c3 hS hY
        gi_wp2
        refine ⟨(by simp), ?_⟩
        gi_wp2
        go_roundw
        case rel => exact ⟨k + 1, by omega, by go_num, by rw [Hts.out]; exact hJ _ _ _ hJs, hck.trans (ck_alloc _ _).kx⟩
        case measure => simp [intOf]; omega
    · have : k = L.length := by omega
      subst this
      gi_wp2
      go_end0
      exact ⟨⟨_, rfl⟩, .inl ⟨_, rfl, hJs⟩⟩
end Go.Proofs.YtmcdnjhdmifpeaaDoor
