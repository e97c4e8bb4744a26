/- The document's own answers: Check, Digits. -/
import Derived.Test.YtkgikjjngbifjaaDoorD3
import Derived.Test.YtkgikjjngbifjaaDoorG4
import Derived.Laws.IdiomStrings
namespace Go.Proofs.YtkgikjjngbifjaaDoor
open Go.RowKit
set_option maxRecDepth 100000

theorem chk_parts (l : List Sm) (t : Tm) : chkT l t = if checkI l = 0 then (if smallT t = true then (if overT l t true = true then 0 else 2) else 2) else 2 := by
  have h := fit_iff l t 1 300 (by decide)
  rw [show decide ((1 : Int) ≤ 1) = true from by decide] at h
  unfold chkT
  by_cases h0 : checkI l = 0
  · rw [if_neg (fun e => e h0), if_pos h0]
    by_cases hs : smallT t = true
    · rw [if_pos hs]
      simp only [smallT, Bool.and_eq_true, decide_eq_true_eq] at hs
      by_cases ho : overT l t true = true
      · rw [if_pos ho, if_pos (h.2 ⟨by omega, by omega, hs.2, ho⟩)]
      · rw [if_neg ho, if_neg (fun e => ho (h.1 e).2.2.2)]
    · rw [if_neg hs, if_neg (fun e => hs ?_)]
      obtain ⟨a, b, c, _⟩ := h.1 e
      simp only [smallT, Bool.and_eq_true, decide_eq_true_eq]
      exact ⟨⟨by omega, by omega⟩, c⟩
  · rw [if_pos h0, if_neg h0]

set_option maxHeartbeats 2000000 in
theorem ref2Check_any (l : List Sm) (t : Tm) (As A : Option Addr) (n cs c : Nat) (w : World) (hsz : t.size ≤ 4611686018427387904) (hS : Syms w w.heap.size As n l) (hn : n * 32 ≤ 140737488351232) (hf : I64 t.fn) (hA : Args w w.heap.size A t.args) :
    Calls Tryd.prog 12 #[.agg #[.slice As n cs], .agg #[.int .i64 t.fn, .slice A t.args.length c]] w fun e w' => e = .returned (.int .i64 (chkT l t)) ∧ Below w.heap.size w w' := by
  obtain rfl := hS.len
  have hl64 : l.length ≤ 9223372036854775807 := by omega
  obtain ⟨p0, p1⟩ := heap2 w (.cells #[.slice As l.length cs] 24) (.cells #[.int .i64 t.fn, .slice A t.args.length c] 27)
  obtain ⟨W, hW⟩ : ∃ W, ((w.alloc (.cells #[.slice As l.length cs] 24)).alloc (.cells #[.int .i64 t.fn, .slice A t.args.length c] 27)) = W := ⟨_, rfl⟩
  have hB : Below w.heap.size w W := by rw [← hW]; exact ((Below.refl _ _).alloc (Nat.le_refl _) _).alloc (by simp) _
  rw [hW] at p0 p1
  have hWs : w.heap.size + 1 < W.heap.size := (Array.getElem?_eq_some_iff.1 p1).1
  have HW := Lib.hid hW
  have hS' := Lib.hid (hS.on hB)
  have hA' := Lib.hid (hA.on hB)
  have hSS : ∀ w', Below W.heap.size W w' → w'.cell? ⟨w.heap.size, 0, none⟩ = some (.slice As l.length cs) ∧ w'.cell? ⟨w.heap.size + 1, 0, none⟩ = some (.int .i64 t.fn) ∧ w'.cell? ⟨w.heap.size + 1, 1, none⟩ = some (.slice A t.args.length c) := fun w' h =>
    ⟨(cells_one ((h.block _ (by omega)).trans p0)).1, (cells_two ((h.block _ hWs).trans p1)).1, (cells_two ((h.block _ hWs).trans p1)).2.1⟩
  have hc := chk_parts l t
  clear hW hS hA
  by_cases h0 : checkI l = 0
  · rw [if_pos h0] at hc
    cases hs : smallT t with
    | true =>
      rw [if_pos hs] at hc
      cases ho : overT l t true with
      | true =>
        rw [if_pos ho] at hc
        have Hc := Lib.hid hc
        clear hc
        go_enter Tryd.func12, Tryd.ntmps12
        go_wp2_with (first
          | (go_at_call 37; go_must (rw [HW.out]; refine (refCheck_any As l.length cs l W hS'.out hn).mono ?_; rintro e w1 ⟨rfl, hb1⟩; rw [h0]; obtain ⟨x0, x1, x2⟩ := hSS _ hb1))
          | (go_at_call 38; go_must (refine (refSmall_any t A c w1 hsz hf (hA'.out.on hb1)).mono ?_; rintro e w2 ⟨rfl, hb2⟩; rw [hs]; have hB2 := bl_step hb1 hb2; obtain ⟨y0, y1, y2⟩ := hSS _ hB2))
          | (go_at_call 39; go_must (refine (refOver_any l hl64 t As A cs c true w2 hf (hS'.out.on hB2) (hA'.out.on hB2)).mono ?_; rintro e w3 ⟨rfl, hb3⟩; rw [ho]; have hB3 := bl_step hB2 hb3))
          | fail)
        go_ret
        exact ⟨ret_int Hc.out.symm, hB.trans (hB3.mono hB.size)⟩
      | false =>
        rw [if_neg (by rw [ho]; decide)] at hc
        have Hc := Lib.hid hc
        clear hc
        go_enter Tryd.func12, Tryd.ntmps12
        go_wp2_with (first
          | (go_at_call 37; go_must (rw [HW.out]; refine (refCheck_any As l.length cs l W hS'.out hn).mono ?_; rintro e w1 ⟨rfl, hb1⟩; rw [h0]; obtain ⟨x0, x1, x2⟩ := hSS _ hb1))
          | (go_at_call 38; go_must (refine (refSmall_any t A c w1 hsz hf (hA'.out.on hb1)).mono ?_; rintro e w2 ⟨rfl, hb2⟩; rw [hs]; have hB2 := bl_step hb1 hb2; obtain ⟨y0, y1, y2⟩ := hSS _ hB2))
          | (go_at_call 39; go_must (refine (refOver_any l hl64 t As A cs c true w2 hf (hS'.out.on hB2) (hA'.out.on hB2)).mono ?_; rintro e w3 ⟨rfl, hb3⟩; rw [ho]; have hB3 := bl_step hB2 hb3))
          | fail)
        go_ret
        exact ⟨ret_int Hc.out.symm, hB.trans (hB3.mono hB.size)⟩
    | false =>
      rw [if_neg (by rw [hs]; decide)] at hc
      have Hc := Lib.hid hc
      clear hc
      go_enter Tryd.func12, Tryd.ntmps12
      go_wp2_with (first
        | (go_at_call 37; go_must (rw [HW.out]; refine (refCheck_any As l.length cs l W hS'.out hn).mono ?_; rintro e w1 ⟨rfl, hb1⟩; rw [h0]; obtain ⟨x0, x1, x2⟩ := hSS _ hb1))
        | (go_at_call 38; go_must (refine (refSmall_any t A c w1 hsz hf (hA'.out.on hb1)).mono ?_; rintro e w2 ⟨rfl, hb2⟩; rw [hs]; have hB2 := bl_step hb1 hb2; obtain ⟨y0, y1, y2⟩ := hSS _ hB2))
        | fail)
      go_ret
      exact ⟨ret_int Hc.out.symm, hB.trans (hB2.mono hB.size)⟩
  · rw [if_neg h0] at hc
    have Hc := Lib.hid hc
    clear hc
    go_enter Tryd.func12, Tryd.ntmps12
    go_wp2_with (first
      | (go_at_call 37; go_must (rw [HW.out]; refine (refCheck_any As l.length cs l W hS'.out hn).mono ?_; rintro e w1 ⟨rfl, hb1⟩))
      | fail)
    go_ret
    exact ⟨ret_int Hc.out.symm, hB.trans (hb1.mono hB.size)⟩

def digB (d : Nat) : ByteArray := ⟨#[UInt8.ofNat (48 + d)]⟩
theorem itoa_one : ∀ k, k < 10 → itoaB k = digB k := by decide +kernel
theorem itoa_two : ∀ k, k < 100 → 10 ≤ k → itoaB k = digB (k / 10) ++ digB (k % 10) := by decide +kernel
theorem conv_dig (wr : World) (d : Nat) (hd : d < 10) : (convert 94 9 (.slice (some ⟨wr.heap.size, 0, none⟩) 1 1)).run Tryd.prog (wr.alloc (.cells #[.int .u8 (48 + (d : Int))] 5)) = .ok (.string (digB d)) (wr.alloc (.cells #[.int .u8 (48 + (d : Int))] 5)) := by
  refine run_convert_bytes_back _ 94 9 5 ⟨wr.heap.size, 0, none⟩ 1 [UInt8.ofNat (48 + d)] Tryd.underlying94 Tryd.underlying5 Tryd.underlying9 fun j hj => ?_
  obtain rfl : j = 0 := by simp at hj; omega
  have := cells_row (heap_alloc_new wr (.cells #[.int .u8 (48 + (d : Int))] 5)) (j := 0) (u := .int .u8 (48 + (d : Int))) rfl
  simp only [Addr.add, if_true]
  rw [this]
  simp only [List.getElem_cons_zero]
  congr 2
  simp only [UInt8.toNat_ofNat']
  omega

set_option maxHeartbeats 1000000 in
theorem Digits_any (k : Nat) (hk : k < 100) (w : World) :
    Calls Tryd.prog 57 #[.int .i64 (k : Int)] w fun e w' => e = .returned (.string (itoaB k)) ∧ Below w.heap.size w w' := by
  by_cases h9 : k ≤ 9
  · have h9' : ¬ ((k : Int) > 9) := by omega
    have hconv := conv_dig w k (by omega)
    have hone := Lib.hid (itoa_one k (by omega))
    have hs1 : ¬ ((digB k).size + (⟨#[]⟩ : ByteArray).size > 9223372036854775807) := by show ¬ (1 + 0 > _); omega
    go_enter Tryd.func57, Tryd.ntmps57
    go_wp2
    go_loopw [0, 3] (fun n s wr => n = .int .i64 (k : Int) ∧ s = .string ⟨#[]⟩ ∧ wr = w) (fun _ _ _ => 0)
    case atStart => exact ⟨rfl, rfl, rfl⟩
    case round =>
      obtain ⟨rfl, rfl, rfl⟩ := hrel
      go_wp2
      go_ret
      exact ⟨by rw [hone.out]; rfl, (Below.refl _ _).alloc (Nat.le_refl _) _⟩
  · have hconv : ∀ wr : World, (convert 94 9 (.slice (some ⟨wr.heap.size, 0, none⟩) 1 1)).run Tryd.prog (wr.alloc (.cells #[.int .u8 (48 + (k : Int) % 10)] 5)) = .ok (.string (digB (k % 10))) (wr.alloc (.cells #[.int .u8 (48 + (k : Int) % 10)] 5)) := fun wr => by
      rw [show (k : Int) % 10 = ((k % 10 : Nat) : Int) by omega]; exact conv_dig wr (k % 10) (by omega)
    have hconv2 : ∀ wr : World, (convert 94 9 (.slice (some ⟨wr.heap.size, 0, none⟩) 1 1)).run Tryd.prog (wr.alloc (.cells #[.int .u8 (48 + (k : Int) / 10)] 5)) = .ok (.string (digB (k / 10))) (wr.alloc (.cells #[.int .u8 (48 + (k : Int) / 10)] 5)) := fun wr => by
      rw [show (k : Int) / 10 = ((k / 10 : Nat) : Int) by omega]; exact conv_dig wr (k / 10) (by omega)
    have hs1 : ¬ ((digB (k % 10)).size + (⟨#[]⟩ : ByteArray).size > 9223372036854775807) := by show ¬ (1 + 0 > _); omega
    have hs2 : ¬ ((digB (k / 10)).size + (digB (k % 10)).size > 9223372036854775807) := by show ¬ (1 + 1 > _); omega
    have htwo := Lib.hid (itoa_two k hk (by omega))
    go_enter Tryd.func57, Tryd.ntmps57
    go_wp2
    go_loopw [0, 3] (fun n s wr => (n = .int .i64 (k : Int) ∧ s = .string ⟨#[]⟩ ∧ wr = w) ∨ (n = .int .i64 ((k / 10 : Nat) : Int) ∧ s = .string (digB (k % 10)) ∧ Below w.heap.size w wr)) (fun n _ _ => (intOf n).toNat)
    case atStart => exact .inl ⟨rfl, rfl, rfl⟩
    case round =>
      rcases hrel with ⟨rfl, rfl, rfl⟩ | ⟨rfl, rfl, hB⟩
      · go_wp2
        refine ⟨.inr ⟨by go_num, ?_, (Below.refl _ _).alloc (Nat.le_refl _) _⟩, by simp [intOf]; omega⟩
        first | exact congrArg Value.string (ByteArray.append_empty (b := digB (k % 10))) | rfl
      · have h9' : ¬ (((k / 10 : Nat) : Int) > 9) := by omega
        go_wp2
        go_ret
        exact ⟨by rw [htwo.out]; rfl, hB.trans (((Below.refl _ _).alloc (Nat.le_refl _) _).mono hB.size)⟩
end Go.Proofs.YtkgikjjngbifjaaDoor
