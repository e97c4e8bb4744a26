/- walk; Size. -/
import Derived.Test.YtimgomoafeaoiaaDoorR3
import Derived.Deep.DeepCutAuto
import Derived.RangeFuncBox
import Derived.Laws.EntriesVeiled
namespace Go.Proofs.YtimgomoafeaoiaaDoor
open Go.RowKit Go.Shelf
attribute [local go_sem] Oper.semAt_some
set_option maxRecDepth 100000

theorem walk_any (t : Tm) (A : Option Addr) (c : Nat) (w : World) :
    Calls Tryd.prog 26 #[.agg #[.int .i64 t.fn, .slice A t.args.length c]] w fun e w' => e = .returned (.func (.func 35) #[] #[.pointer (some ⟨w.heap.size, 0, none⟩)]) ∧ w' = w.alloc (.cells #[.int .i64 t.fn, .slice A t.args.length c] 24) := by
  go_enter Tryd.func26, Tryd.ntmps26
  go_wp2
  go_ret
  exact ⟨rfl, rfl⟩

set_option maxHeartbeats 1000000 in
theorem walk1_seq (F : Fence) (hd : F.depth = none) (h64 : F.fn 35) (h65 : F.fn 36) (hro : F.round = none) (m : Nat) (B : Nat) (t : Tm) (A : Option Addr) (c : Nat) (N : Nat → Prop) (w0 : World)
    (hb : w0.heap[B]? = some (.cells #[.int .i64 t.fn, .slice A t.args.length c] 24)) (hf : I64 t.fn) (hA : ArgsN w0 N A t.args) (hN : ∀ g, N g → g < w0.heap.size) (hdp : t.depth ≤ 1099511627776) :
    SeqC F m Tryd.prog 35 #[.pointer (some ⟨B, 0, none⟩)] visEnc VisFx N (fun xs => xs.map Vis.key = vis [] t) (fun pre => pre.map Vis.key <+: vis [] t) w0 := by
  intro l C J Jx W hW hJ hB hY h0
  have hdd : ∀ k : Nat, (F.depth.isSome = true → 1 ≤ k) := fun k h => by rw [hd] at h; cases h
  have hBl : B < w0.heap.size := (Array.getElem?_eq_some_iff.1 hb).1
  have hbW : W.heap[B]? = some (.cells #[.int .i64 t.fn, .slice A t.args.length c] 24) := (hW.block B hBl).trans hb
  obtain ⟨b0, b1, _, _⟩ := cells_two hbW
  have hWs := hW.size
  have hAW : ArgsN W N A t.args := hA.keep fun g e => hW.block g (hN g e)
  have hvis := visit_in F hd h65 hro l W.heap.size 1099511627776 (Nat.le_refl _) N C J Jx (vis [] t) hJ hB (fun g e => by have := hN g e; omega) hY t
  refine callsIn_of_wp Tryd.func35 rfl h64 ?_ hro
  simp only [Tryd.ntmps35, List.size_toArray, List.length_cons, List.length_nil, Nat.reduceAdd, Nat.reduceSub, Array.replicate_succ, Array.replicate_zero, List.push_toArray, List.append_toArray, List.nil_append, List.cons_append]
  have hK0 : Keeps (· < W.heap.size) W (((W.alloc (.cells #[.func (.yield l) #[] #[]] 55)).alloc (.cells #[.slice none 0 0] 26)).alloc (.cells #[.func (.func 36) #[] #[.pointer (some ⟨W.heap.size, 0, none⟩), .pointer (some ⟨W.heap.size + 1, 0, none⟩), .pointer (some ⟨W.heap.size + 1 + 1, 0, none⟩)]] 27)) := Keeps.of_below ((((Below.refl _ _).alloc (Nat.le_refl _) _).alloc (by simp) _).alloc (by simp; omega) _)
  obtain ⟨q0, q1, _, _⟩ := cells_two ((hK0.block B (by show B < W.heap.size; omega)).trans hbW)
  gi_wp2
  obtain ⟨W3, hW3⟩ : ∃ W3, (((W.alloc (.cells #[.func (.yield l) #[] #[]] 55)).alloc (.cells #[.slice none 0 0] 26)).alloc (.cells #[.func (.func 36) #[] #[.pointer (some ⟨W.heap.size, 0, none⟩), .pointer (some ⟨W.heap.size + 1, 0, none⟩), .pointer (some ⟨W.heap.size + 1 + 1, 0, none⟩)]] 27)) = W3 := ⟨_, rfl⟩
  have hK3 : Keeps (· < W.heap.size) W W3 := by rw [← hW3]; exact Keeps.of_below ((((Below.refl _ _).alloc (Nat.le_refl _) _).alloc (by simp) _).alloc (by simp; omega) _)
  obtain ⟨p0, p1, p2⟩ := heap3 W (.cells #[.func (.yield l) #[] #[]] 55) (.cells #[.slice none 0 0] 26) (.cells #[.func (.func 36) #[] #[.pointer (some ⟨W.heap.size, 0, none⟩), .pointer (some ⟨W.heap.size + 1, 0, none⟩), .pointer (some ⟨W.heap.size + 1 + 1, 0, none⟩)]] 27)
  rw [hW3] at p0 p1 p2 ⊢
  obtain ⟨hJ3, hC3⟩ := hJ [] W W3 h0 (hK3.mono fun g e => hB [] W h0 g e)
  have hCb : ∀ g, W.heap.size ≤ g → ¬ C W3 g := fun g h e => by have := hB [] W h0 g (hC3 g e); omega
  have hI : ItSt W3 C l W.heap.size [] := ⟨p0, ⟨none, 0, p1, ⟨rfl, .inl ⟨rfl, rfl⟩⟩, fun g e => by cases e⟩, p2, hCb _ (Nat.le_refl _), hCb _ (by omega), hCb _ (by omega)⟩
  refine (hvis (m - 1) [] [] A c W3 hf (hAW.keep fun g e => hK3.block g (by have := hN g e; show g < W.heap.size; omega)) hJ3 hI (by simp) (by simpa using hdp) (by simp)).mono ?_
  rintro e W' (⟨rfl, q, hq, hJq, _, _⟩ | ⟨rfl, q, hq, hJx⟩)
  · gi_wp2
    go_end0
    exact ⟨⟨_, rfl⟩, .inl ⟨q, hq, by simpa using hJq⟩⟩
  · gi_wp2
    go_end0
    exact ⟨⟨_, rfl⟩, .inr ⟨q, by simpa using hq, by simpa using hJx⟩⟩
end Go.Proofs.YtimgomoafeaoiaaDoor
