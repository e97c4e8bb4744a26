/- Fresh. -/
import Derived.Test.YtmcdnjhdmifpeaaDoorW19
namespace Go.Proofs.YtmcdnjhdmifpeaaDoor
open Go.RowKit

/-- The result's block, as it lies while the call runs. -/
structure Res (w : World) (b : Nat) : Prop where
  c0 : w.cell? ⟨b, 0, none⟩ = some (.string ⟨#[]⟩)
  c1 : w.cell? ⟨b, 1, none⟩ = some (.int .i64 0)
  c2 : w.cell? ⟨b, 2, none⟩ = some (.bool false)
  f0 : w.frozen? ⟨b, 0, none⟩ = false
  f1 : w.frozen? ⟨b, 1, none⟩ = false
  f2 : w.frozen? ⟨b, 2, none⟩ = false
theorem Res.on {B : Nat} {W w1 : World} {b : Nat} (h : Res W b) (hb : Below B W w1) (hlt : b < B) : Res w1 b :=
  ⟨cell_on hb hlt h.c0, cell_on hb hlt h.c1, cell_on hb hlt h.c2, frozen_on hb hlt h.f0, frozen_on hb hlt h.f1, frozen_on hb hlt h.f2⟩

set_option maxRecDepth 100000 in
set_option maxHeartbeats 4000000 in
theorem Fresh_any (A : Option Addr) (n c : Nat) (l : List Sm) (s : ByteArray) (a : Int) (p : Bool) (w : World) (h : Syms w w.heap.size A n l) (hn : n * 32 ≤ 140737488351232) (hs : s.size ≤ maxLen) (ht : tru w) :
    Calls Tryd.prog 21 #[.agg #[.slice A n c], .string s, .int .i64 a, .bool p] w (FreshPost l s a p w) := by
  have hbx : Below w.heap.size w ((w.alloc (.cells #[.slice A n c] 24)).alloc (.cells #[.string ⟨#[]⟩, .int .i64 0, .bool false] 33)) := ((Below.refl _ _).alloc (Nat.le_refl _) _).alloc (by simp) _
  by_cases hchk : checkI l = 0
  · have hchk' : (checkI l != 0) = false := by simp [hchk]
    have Hchk := Lib.hid hchk
    clear hchk
    by_cases h1 : oneI s a = 0
    · have h1' : (oneI s a != 0) = false := by simp [h1]
      have H1 := Lib.hid h1
      have hs40 := named_size (one_named h1)
      clear h1
      go_enter Tryd.func21, Tryd.ntmps21
      go_wp2_with (first
        | (go_at_call 9
           refine (Check_any _ _ _ l _ (h.on hbx) hn (tru_below ht hbx)).mono ?_
           rintro e w1 ⟨rfl, hb1⟩
           have hz1 := hb1.size
           have z0 := cell_on hb1 (b := w.heap.size) (o := 0) (v := .slice A n c) (by simp; omega) (by go_simp)
           have hr : Res w1 (w.heap.size + 1) := by
             refine Res.on ⟨?_, ?_, ?_, ?_, ?_, ?_⟩ hb1 (by simp) <;> go_simp
           simp at hz1
           have hB1 := bl_step hbx hb1)
        | (go_at_call 24; refine (fits_any _ _ _ hs).mono ?_; rintro e w' ⟨rfl, rfl⟩)
        | fail)
      have hl96 := Lib.hid (check_len Hchk.out)
      have hlt0 : w.heap.size < w1.heap.size := by omega
      go_loopw [12] (fun i wr => ∃ k : Nat, 1 ≤ k ∧ k ≤ 97 ∧ i = .int .i64 k ∧ Below w1.heap.size w1 wr ∧ Hid (∀ j, 1 ≤ j → j < k → bearsB l (nameN s j) = true)) (fun i _ => 98 - (intOf i).toNat)
      case atStart => exact ⟨1, by omega, by omega, rfl, Below.refl _ _, fun j h1 h2 => by omega⟩
      case round =>
        obtain ⟨k, hk1, hk97, rfl, hBr0, HA⟩ := hrel
        have hBr : Below w.heap.size w wr := hB1.trans (hBr0.mono (Nat.le_of_lt hlt0))
        have hltr : w.heap.size < wr.heap.size := Nat.lt_of_lt_of_le hlt0 hBr0.size
        have y0 := cell_on hBr0 hlt0 z0
        have g := Lib.hid (h.on hBr)
        have hi64 : n ≤ 9223372036854775807 := by omega
        have hit := itoa_size k (by omega)
        have hsum : ¬ (s.size + (itoaB k).size > 9223372036854775807) := by omega
        by_cases hb : bearsB l (nameN s k) = true
        · have hb' : bearsB l (s ++ itoaB k) = true := hb
          have Hb := Lib.hid hb
          clear hb
          go_wp2
          go_region_held3 (fun w' => w'.cell? ⟨w.heap.size, 0, none⟩ = some (.slice A n c))
            (first | exact y0 | exact cell_on hB2 hltr y0)
            (first | (go_at_call 31; refine (Itoa_any k (by omega) _).mono ?_; rintro e w' ⟨rfl, rfl⟩) | (go_at_call 30; refine (named_any A n c l _ wr.drew (g.out.drewN 1) hi64).mono ?_; rintro e w2 ⟨rfl, hb2⟩; have hB2 : Below wr.heap.size wr w2 := ⟨hb2.os, hb2.tape, hb2.output, hb2.size, hb2.block⟩))
          go_wp2
          go_roundw
          case rel => exact ⟨k + 1, by omega, pigeon hl96.out (by omega) (bears_before HA.out Hb.out), by go_num, hBr0.trans (hB2.mono hBr0.size), bears_before HA.out Hb.out⟩
          case measure => simp [intOf]; omega
        · have hb' : bearsB l (s ++ itoaB k) = false := by simpa [nameN] using hb
          have Hf := Lib.hid (freshI_at hk1 hk97 hb' HA.out)
          go_wp2
          go_region_held3 (fun w' => w'.cell? ⟨w.heap.size, 0, none⟩ = some (.slice A n c))
            (first | exact y0 | exact cell_on hB2 hltr y0)
            (first | (go_at_call 31; refine (Itoa_any k (by omega) _).mono ?_; rintro e w' ⟨rfl, rfl⟩) | (go_at_call 30; refine (named_any A n c l _ wr.drew (g.out.drewN 1) hi64).mono ?_; rintro e w2 ⟨rfl, hb2⟩; have hB2 : Below wr.heap.size wr w2 := ⟨hb2.os, hb2.tape, hb2.output, hb2.size, hb2.block⟩))
          have hnl := nameN_size hs40 (n := k) (by omega)
          have hnl' : (s ++ itoaB k).size ≤ maxLen := Nat.le_trans hnl (by decide)
          have hB02 : Below w.heap.size w w2 := hBr.trans (hB2.mono (Nat.le_of_lt hltr))
          have hlt2 : w.heap.size + 1 < w2.heap.size := by have := hBr0.size; have := hB2.size; omega
          obtain ⟨q0, q1, q2, g0, g1, g2⟩ := (hr.on hBr0 (by omega)).on hB2 (by have := hBr0.size; omega)
          have hnB : oneI (s ++ itoaB k) a = if namedB (nameN s k) = false then 111 else 0 := one_long H1.out
          by_cases hnm : namedB (nameN s k) = true
          · rw [if_neg (by rw [hnm]; decide)] at hnB
            have hnB' : (oneI (s ++ itoaB k) a != 0) = false := by simp [hnB]
            have HN := Lib.hid hnB
            have HM := Lib.hid hnm
            clear hnB hnm
            go_wp2_with (first | (go_at_call 31; refine (Itoa_any k (by omega) _).mono ?_; rintro e w' ⟨rfl, rfl⟩) | (go_at_call 24; refine (fits_any _ _ _ hnl').mono ?_; rintro e w' ⟨rfl, rfl⟩) | fail)
            refine bodyPost_ret (v := .tuple #[.agg #[.string (s ++ itoaB k), .int .i64 a, .bool p], .int .i64 0]) (by simp [results, Tryd.results21, go_sem, q0, q1, q2, hlt2]) rfl (freshPost_ok (freshE_ok Hchk.out H1.out Hf.out HM.out) Hf.out rfl ?_)
            repeat first | exact hB02 | refine Below.setCell ?_ (by first | (simp; done) | (simp; omega)) _ | refine Below.alloc ?_ (by first | (simp; done) | (simp; omega)) _
          · rw [if_pos (by simpa using hnm)] at hnB
            have hnB' : (oneI (s ++ itoaB k) a != 0) = true := by simp [hnB]
            have HN := Lib.hid hnB
            have HM := Lib.hid (show namedB (nameN s k) = false by simpa using hnm)
            clear hnB hnm
            go_wp2_with (first | (go_at_call 31; refine (Itoa_any k (by omega) _).mono ?_; rintro e w' ⟨rfl, rfl⟩) | (go_at_call 24; refine (fits_any _ _ _ hnl').mono ?_; rintro e w' ⟨rfl, rfl⟩) | fail)
            refine bodyPost_ret (v := .tuple #[.agg #[.string ⟨#[]⟩, .int .i64 0, .bool false], .int .i64 (oneI (s ++ itoaB k) a)]) (by simp [results, Tryd.results21, go_sem, q0, q1, q2, hlt2]) rfl (freshPost_err ((freshE_long Hchk.out H1.out Hf.out HM.out).trans HN.out.symm) (by rw [HN.out]; decide) ?_)
            repeat first | exact hB02 | refine Below.setCell ?_ (by first | (simp; done) | (simp; omega)) _ | refine Below.alloc ?_ (by first | (simp; done) | (simp; omega)) _
    · have h1' : (oneI s a != 0) = true := by simp [h1]
      have H1 := Lib.hid h1
      clear h1
      go_enter Tryd.func21, Tryd.ntmps21
      go_wp2_with (first
        | (go_at_call 9
           refine (Check_any _ _ _ l _ (h.on hbx) hn (tru_below ht hbx)).mono ?_
           rintro e w1 ⟨rfl, hb1⟩
           have hr : Res w1 (w.heap.size + 1) := by
             refine Res.on ⟨?_, ?_, ?_, ?_, ?_, ?_⟩ hb1 (by simp) <;> go_simp
           obtain ⟨q0, q1, q2, g0, g1, g2⟩ := hr
           have hB1 := bl_step hbx hb1)
        | (go_at_call 24; refine (fits_any _ _ _ hs).mono ?_; rintro e w' ⟨rfl, rfl⟩)
        | fail)
      refine bodyPost_ret (v := .tuple #[.agg #[.string ⟨#[]⟩, .int .i64 0, .bool false], .int .i64 (oneI s a)]) (by simp [results, Tryd.results21, go_sem, q0, q1, q2]) rfl (freshPost_err (freshE_one Hchk.out H1.out) H1.out ?_)
      repeat first | exact hB1 | refine Below.setCell ?_ (by simp) _
  · have hchk' : (checkI l != 0) = true := by simp [hchk]
    have Hchk := Lib.hid hchk
    clear hchk
    go_enter Tryd.func21, Tryd.ntmps21
    go_wp2_with (first
      | (go_at_call 9
         refine (Check_any _ _ _ l _ (h.on hbx) hn (tru_below ht hbx)).mono ?_
         rintro e w1 ⟨rfl, hb1⟩
         have hr : Res w1 (w.heap.size + 1) := by
           refine Res.on ⟨?_, ?_, ?_, ?_, ?_, ?_⟩ hb1 (by simp) <;> go_simp
         obtain ⟨q0, q1, q2, g0, g1, g2⟩ := hr
         have hB1 := bl_step hbx hb1)
      | fail)
    refine bodyPost_ret (v := .tuple #[.agg #[.string ⟨#[]⟩, .int .i64 0, .bool false], .int .i64 (checkI l)]) (by simp [results, Tryd.results21, go_sem, q0, q1, q2]) rfl (freshPost_err (freshE_check Hchk.out) Hchk.out ?_)
    repeat first | exact hB1 | refine Below.setCell ?_ (by simp) _
end Go.Proofs.YtmcdnjhdmifpeaaDoor
