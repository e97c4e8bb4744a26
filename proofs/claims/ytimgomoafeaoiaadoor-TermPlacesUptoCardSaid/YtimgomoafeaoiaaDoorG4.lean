/- The law's own signature and term: what the document says of two terms (wakes). -/
import Derived.Test.YtimgomoafeaoiaaDoorG3
import Derived.Test.YtimgomoafeaoiaaDoorR5
import Derived.Test.YtimgomoafeaoiaaDoorT6
import Derived.Test.YtimgomoafeaoiaaDoorT3
namespace Go.Proofs.YtimgomoafeaoiaaDoor
open Go.RowKit
set_option maxRecDepth 100000

def sA : Sm := ⟨⟨#[97]⟩, 0, false⟩
def sF : Sm := ⟨⟨#[102]⟩, 2, false⟩
def sP : Sm := ⟨⟨#[112]⟩, 1, true⟩
def wsL : List Sm := [truthSm, sA, sF, sP]
def wT1 : Tm := .node (-2) []
def wT2 : Tm := .node 1 []
def wTF : Tm := .node 2 [wT1, wT2]
def wTm : Tm := .node 3 [wTF]
theorem w_chk : chkT wsL wTm = 0 := by decide +kernel
theorem w_txt : textS wsL wTm = ⟨#[112, 40, 102, 40, 88, 49, 44, 97, 41, 41]⟩ := by decide +kernel
theorem w_bad : chkT wsL (.node 2 []) = 2 := by decide +kernel
theorem w_cmp : cmpT (.node (-1) []) (.node (-2) []) = -1 := by decide +kernel
theorem w_size : wTm.size = 4 := by decide +kernel
theorem w_depth : wTm.depth = 3 := by decide +kernel

theorem cells_row {W : World} {b : Nat} {cs : Array Value} {t : TypeId} (h : W.heap[b]? = some (.cells cs t)) {j : Nat} {u : Value} (hu : cs[j]? = some u) : W.cell? ⟨b, 0 + j, none⟩ = some u := by
  simp only [World.cell?, h, Nat.zero_add]
  simpa using hu

set_option maxHeartbeats 1000000 in
theorem sig_any (w : World) :
    Calls Tryd.prog 17 #[] w fun e w' => ∃ b, e = .returned (.agg #[.slice (some ⟨b, 0, none⟩) 4 4]) ∧ Syms w' w'.heap.size (some ⟨b, 0, none⟩) 4 wsL ∧ Below w.heap.size w w' := by
  go_enter Tryd.func17, Tryd.ntmps17
  go_wp2
  obtain ⟨p0, p1⟩ := heap2 w (.cells #[.slice (some ⟨w.heap.size + 1, 0, none⟩) 4 4] 48) (.cells #[.string ⟨#[36, 116, 114, 117, 101]⟩, .int .i64 0, .bool true, .string ⟨#[97]⟩, .int .i64 0, .bool false, .string ⟨#[102]⟩, .int .i64 2, .bool false, .string ⟨#[112]⟩, .int .i64 1, .bool true] 59)
  refine bodyPost_ret (v := .agg #[.slice (some ⟨w.heap.size + 1, 0, none⟩) 4 4]) (by simp [results, Tryd.results17, go_sem]) rfl ⟨w.heap.size + 1, rfl, Syms.of_flat rfl ?_ fun _ => ⟨w.heap.size + 1, 0, rfl, by simp, fun j u hu => cells_row p1 ?_⟩, ((Below.refl _ _).alloc (Nat.le_refl _) _).alloc (by simp) _⟩
  · intro x hx
    simp only [wsL, List.mem_cons, List.not_mem_nil, or_false] at hx
    rcases hx with rfl | rfl | rfl | rfl <;> exact ⟨by decide, by decide, by decide⟩
  · have e : (wsL.flatMap Sm.cells) = [.string ⟨#[36, 116, 114, 117, 101]⟩, .int .i64 0, .bool true, .string ⟨#[97]⟩, .int .i64 0, .bool false, .string ⟨#[102]⟩, .int .i64 2, .bool false, .string ⟨#[112]⟩, .int .i64 1, .bool true] := rfl
    rw [e] at hu
    simpa using hu

theorem i64_small {i : Int} (h0 : -1000 ≤ i) (h1 : i ≤ 1000) : I64 i := ⟨by omega, by omega⟩
theorem args_w {W : World} {s : Nat} (q0 : W.heap[s]? = some (.cells #[.int .i64 (-2), .slice none 0 0, .int .i64 1, .slice none 0 0] 24)) (q1 : W.heap[s + 1]? = some (.cells #[.int .i64 2, .slice (some ⟨s, 0, none⟩) 2 2] 24)) : Args W W.heap.size (some ⟨s + 1, 0, none⟩) wTm.args := by
  have h0 := (Array.getElem?_eq_some_iff.1 q0).1
  have h1 := (Array.getElem?_eq_some_iff.1 q1).1
  have hin : Args W W.heap.size (some ⟨s, 0, none⟩) wTF.args := by
    refine .row s 0 [wT1, wT2] (fun _ => none) (fun _ => 0) h0 (by decide) (fun i t e => ?_) (fun i t e => ?_) (fun i t e => ?_) (fun i t e => ?_)
    all_goals
      match i, e with
      | 0, e => simp at e; subst e; first | exact i64_small (by decide) (by decide) | exact cells_row q0 (j := 0) rfl | exact cells_row q0 (j := 1) rfl | exact .nil _
      | 1, e => simp at e; subst e; first | exact i64_small (by decide) (by decide) | exact cells_row q0 (j := 2) rfl | exact cells_row q0 (j := 3) rfl | exact .nil _
      | i + 2, e => simp at e
  refine .row (s + 1) 0 [wTF] (fun _ => some ⟨s, 0, none⟩) (fun _ => 2) h1 (by decide) (fun i t e => ?_) (fun i t e => ?_) (fun i t e => ?_) (fun i t e => ?_)
  all_goals
    match i, e with
    | 0, e => simp at e; subst e; first | exact i64_small (by decide) (by decide) | exact cells_row q1 (j := 0) rfl | exact cells_row q1 (j := 1) rfl | exact hin
    | i + 1, e => simp at e

theorem w_at : atT wTm [0, 1] = wT2 := by rfl
theorem w_sub : (subT wTm [0, 1]).isSome = true := by rfl

set_option maxHeartbeats 2000000 in
theorem wakes_any (w : World) (ht : tru w) :
    Calls Tryd.prog 5 #[] w fun e w' => e = .returned (.bool true) ∧ Below w.heap.size w w' := by
  obtain ⟨q0, q1, q2⟩ := heap3 w (.cells #[.int .i64 (-2), .slice none 0 0, .int .i64 1, .slice none 0 0] 24) (.cells #[.int .i64 2, .slice (some ⟨w.heap.size, 0, none⟩) 2 2] 24) (.cells #[.int .i64 3, .slice (some ⟨w.heap.size + 1, 0, none⟩) 1 1] 24)
  obtain ⟨W, hW⟩ : ∃ W, (((w.alloc (.cells #[.int .i64 (-2), .slice none 0 0, .int .i64 1, .slice none 0 0] 24)).alloc (.cells #[.int .i64 2, .slice (some ⟨w.heap.size, 0, none⟩) 2 2] 24)).alloc (.cells #[.int .i64 3, .slice (some ⟨w.heap.size + 1, 0, none⟩) 1 1] 24)) = W := ⟨_, rfl⟩
  have hB : Below w.heap.size w W := by rw [← hW]; exact (((Below.refl _ _).alloc (Nat.le_refl _) _).alloc (by simp) _).alloc (by simp; omega) _
  rw [hW] at q0 q1 q2
  have hWs : w.heap.size + 1 + 1 < W.heap.size := (Array.getElem?_eq_some_iff.1 q2).1
  have hA := Lib.hid (args_w q0 q1)
  have HW := Lib.hid hW
  have hT := Lib.hid (tru_below ht hB)
  obtain ⟨x0, x1, _, _⟩ := cells_two q2
  clear hW ht q0 q1
  go_enter Tryd.func5, Tryd.ntmps5
  go_upto_region 2 with fail
  rw [HW.out]
  go_region_held3 (fun w' => w'.cell? ⟨w.heap.size + 1 + 1, 0, none⟩ = some (.int .i64 3) ∧ w'.cell? ⟨w.heap.size + 1 + 1, 1, none⟩ = some (.slice (some ⟨w.heap.size + 1, 0, none⟩) 1 1))
    (first | exact ⟨x0, x1⟩ | exact ⟨cell_on hB2 hWs x0, cell_on hB2 hWs x1⟩ | exact ⟨cell_on hB1 hWs x0, cell_on hB1 hWs x1⟩)
    (first
      | (go_at_call 17
         refine (sig_any W.drew).mono ?_
         rintro e w1 ⟨b1, rfl, hs1, hb1⟩
         have hB1 : Below W.heap.size W w1 := ⟨hb1.os, hb1.tape, hb1.output, hb1.size, hb1.block⟩)
      | (go_at_call 16
         refine (termText_any wsL wTm (some ⟨b1, 0, none⟩) (some ⟨w.heap.size + 1, 0, none⟩) 4 4 1 w1 hs1 (by decide) (tru_below hT.out hB1) (i64_small (by decide) (by decide)) (hA.out.on hB1)).mono ?_
         rintro e w2 ⟨rfl, hb2⟩
         rw [w_txt, w_chk]
         have hB2 := bl_step hB1 hb2))
  have y0 := cell_on hB2 hWs x0
  have y1 := cell_on hB2 hWs x1
  have hBa : Below w2.heap.size w2 (w2.alloc (.cells #[.int .i64 0, .int .i64 1] 3)) := (Below.refl _ _).alloc (Nat.le_refl _) _
  have hin : Hid (Ints (w2.alloc (.cells #[.int .i64 0, .int .i64 1] 3)) (w2.alloc (.cells #[.int .i64 0, .int .i64 1] 3)).heap.size (some ⟨w2.heap.size, 0, none⟩) [0, 1]) := by
    refine ⟨by decide, fun x hx => ?_, fun _ => ⟨w2.heap.size, 0, rfl, by simp, fun i x hx => ?_⟩⟩
    · simp only [List.mem_cons, List.not_mem_nil, or_false] at hx
      rcases hx with rfl | rfl <;> exact i64_small (by decide) (by decide)
    · refine cells_row (heap_alloc_new w2 _) ?_
      match i, hx with
      | 0, hx => simp at hx; subst hx; rfl
      | 1, hx => simp at hx; subst hx; rfl
      | i + 2, hx => simp at hx
  have hA2 := Lib.hid ((hA.out.on hB2).on hBa)
  have hB2s := hB2.size
  clear hb1 hs1
  go_wp2_with (first
    | (go_at_call 6
       go_must (
       refine (termAt_any wTm [0, 1] (some ⟨w.heap.size + 1, 0, none⟩) 1 (some ⟨w2.heap.size, 0, none⟩) 2 _ (by rw [w_size]; decide) (i64_small (by decide) (by decide)) hA2.out hin.out).mono ?_
       rintro e w3 ⟨A3, c3, rfl, _, _, hb3⟩
       rw [w_at, w_sub, show wT2.fn = 1 from rfl]
       have hB3 : Below w2.heap.size w2 w3 := hBa.trans (hb3.mono hBa.size)
       have hb3s := hB3.size
       have hBb : Below w3.heap.size w3 (w3.alloc (.cells #[.int .i64 1, .slice A3 wT2.args.length c3] 24)) := (Below.refl _ _).alloc (Nat.le_refl _) _
       have z0 := cell_on hBb (b := w.heap.size + 1 + 1) (o := 0) (by omega) (cell_on hB3 (b := w.heap.size + 1 + 1) (o := 0) (by omega) y0)
       have z1 := cell_on hBb (b := w.heap.size + 1 + 1) (o := 1) (by omega) (cell_on hB3 (b := w.heap.size + 1 + 1) (o := 1) (by omega) y1)
       have hB3' := bl_step hB2 hB3
       have hB4 := bl_step hB3' hBb))
    | (go_at_call 18
       go_must (
       refine (Size_any wTm (some ⟨w.heap.size + 1, 0, none⟩) 1 _ (i64_small (by decide) (by decide)) (hA.out.on hB4) (by rw [w_depth]; decide) (by rw [w_size]; decide)).mono ?_
       rintro e w5 ⟨rfl, hb5⟩
       rw [w_size]
       have hB5 := bl_step hB4 hb5))
    | (go_at_call 17
       go_must (
       refine (sig_any w5).mono ?_
       rintro e w6 ⟨b6, rfl, hs6, hb6⟩
       have hB6 := bl_step hB5 hb6))
    | (go_at_call 19
       go_must (
       refine (termCheck_any wsL (.node 2 []) (some ⟨b6, 0, none⟩) none 4 4 0 w6 hs6 (by decide) (tru_below hT.out hB6) (i64_small (by decide) (by decide)) (.nil _)).mono ?_
       rintro e w7 ⟨rfl, hb7⟩
       rw [w_bad]
       have hB7 := bl_step hB6 hb7))
    | (go_at_call 20
       go_must (
       refine (Compare_any (.node (-1) []) (.node (-2) []) none none 0 0 w7 (i64_small (by decide) (by decide)) (i64_small (by decide) (by decide)) (.nil _) (.nil _)).mono ?_
       rintro e w8 ⟨rfl, hb8⟩
       rw [w_cmp]
       have hB8 := bl_step hB7 hb8))
    | fail)

  go_ret
  exact ⟨rfl, hB.trans (hB8.mono hB.size)⟩
end Go.Proofs.YtimgomoafeaoiaaDoor
