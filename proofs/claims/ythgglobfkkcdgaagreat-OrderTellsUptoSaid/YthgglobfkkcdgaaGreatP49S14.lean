import Derived.Test.YthgglobfkkcdgaaGreatP49S13
import Derived.Test.YthgglobfkkcdgaaGreatP49S12
namespace Go.Proofs.YthgglobfkkcdgaaGreat
open Go.RowKit Go.Shelf Go.Maps
set_option maxRecDepth 100000
section
variable {n bp bf : Nat} {P : Option Addr} {rk : List Int} {pc : Nat} {A : Option Addr} {H : List Hd} {hc : Nat} {ml : Value} {M : List (Int × Int)}
def rsn4 (rk : List Int) (s t : Tm) : Nat → Bool
  | 0 => contB s t
  | 1 => outB rk s t
  | 2 => leadB rk s t
  | _ => covB rk s t
set_option maxHeartbeats 1000000 in
theorem lpoFind_any {m : Nat} (h : AbvAt n bp bf P rk pc A H hc ml M m) (hM : M.Nodup) (hH : H.length ≤ 1099511627776) {s t : Tm} {i j : Nat} (w : World) (hs : OkT rk.length M s) (ht : OkT rk.length M t) (his : AtT rk.length M H i s) (hjt : AtT rk.length M H j t) (hz : s.size + t.size ≤ m + 1) (hI : FdW w n bp bf P rk pc A H hc ml (fdF rk rk.length M)) :
    Calls Tryz.prog 66 #[.agg #[.pointer (some ⟨bp, 0, none⟩), .int .i64 (i : Int)], .agg #[.pointer (some ⟨bp, 0, none⟩), .int .i64 (j : Int)]] w fun e w' => e = .returned (.int .i64 (if fndB rk s t = true then 3 else 0)) ∧ KeepsC (· = bf) w w' ∧ FdW w' n bp bf P rk pc A H hc ml (fdF rk rk.length M) := by
  obtain ⟨q0, q1⟩ := heap2 w (.cells #[.pointer (some ⟨bp, 0, none⟩), .int .i64 (i : Int)] 74) (.cells #[.pointer (some ⟨bp, 0, none⟩), .int .i64 (j : Int)] 74)
  obtain ⟨W, hW⟩ : ∃ W, (w.alloc (.cells #[.pointer (some ⟨bp, 0, none⟩), .int .i64 (i : Int)] 74)).alloc (.cells #[.pointer (some ⟨bp, 0, none⟩), .int .i64 (j : Int)] 74) = W := ⟨_, rfl⟩
  have hB : Below w.heap.size w W := by rw [← hW]; exact ((Below.refl _ _).alloc (Nat.le_refl _) _).alloc (by simp) _
  rw [hW] at q0 q1
  have hlt := (Array.getElem?_eq_some_iff.1 q1).1
  obtain ⟨x0, x1, _, _⟩ := cells_two q0
  have hIW := hI.on hB
  have hnl0 := hI.nl
  have hlf0 := hI.lf
  have C0 : Hid (∀ w1, FdW w1 n bp bf P rk pc A H hc ml (fdF rk rk.length M) → Calls Tryz.prog 82 #[.agg #[.pointer (some ⟨bp, 0, none⟩), .int .i64 (i : Int)], .agg #[.pointer (some ⟨bp, 0, none⟩), .int .i64 (j : Int)]] w1 fun e w' => e = .returned (.bool (rsn4 rk s t 0)) ∧ KeepsC (· = bf) w1 w' ∧ FdW w' n bp bf P rk pc A H hc ml (fdF rk rk.length M)) := Lib.hid fun w1 h1 => lpoContains_any hM hH w1 hs ht his hjt h1
  have C1 : Hid (∀ w1, FdW w1 n bp bf P rk pc A H hc ml (fdF rk rk.length M) → Calls Tryz.prog 83 #[.agg #[.pointer (some ⟨bp, 0, none⟩), .int .i64 (i : Int)], .agg #[.pointer (some ⟨bp, 0, none⟩), .int .i64 (j : Int)]] w1 fun e w' => e = .returned (.bool (rsn4 rk s t 1)) ∧ KeepsC (· = bf) w1 w' ∧ FdW w' n bp bf P rk pc A H hc ml (fdF rk rk.length M)) := Lib.hid fun w1 h1 => lpoOutranks_any h hH w1 hs ht his hjt hz h1
  have C2 : Hid (∀ w1, FdW w1 n bp bf P rk pc A H hc ml (fdF rk rk.length M) → Calls Tryz.prog 84 #[.agg #[.pointer (some ⟨bp, 0, none⟩), .int .i64 (i : Int)], .agg #[.pointer (some ⟨bp, 0, none⟩), .int .i64 (j : Int)]] w1 fun e w' => e = .returned (.bool (rsn4 rk s t 2)) ∧ KeepsC (· = bf) w1 w' ∧ FdW w' n bp bf P rk pc A H hc ml (fdF rk rk.length M)) := Lib.hid fun w1 h1 => lpoLeads_any h hM hH w1 hs ht his hjt hz h1
  have C3 : Hid (∀ w1, FdW w1 n bp bf P rk pc A H hc ml (fdF rk rk.length M) → Calls Tryz.prog 85 #[.agg #[.pointer (some ⟨bp, 0, none⟩), .int .i64 (i : Int)], .agg #[.pointer (some ⟨bp, 0, none⟩), .int .i64 (j : Int)]] w1 fun e w' => e = .returned (.bool (rsn4 rk s t 3)) ∧ KeepsC (· = bf) w1 w' ∧ FdW w' n bp bf P rk pc A H hc ml (fdF rk rk.length M)) := Lib.hid fun w1 h1 => lpoCovers_any h hM hH w1 hs ht his hjt hz h1
  have hix0 : ∀ w : World, (Instr.index 123 (.agg #[.func (.func 82) #[.agg #[.pointer (some ⟨bp, 0, none⟩), .int .i64 (i : Int)]] #[], .func (.func 83) #[.agg #[.pointer (some ⟨bp, 0, none⟩), .int .i64 (i : Int)]] #[], .func (.func 84) #[.agg #[.pointer (some ⟨bp, 0, none⟩), .int .i64 (i : Int)]] #[], .func (.func 85) #[.agg #[.pointer (some ⟨bp, 0, none⟩), .int .i64 (i : Int)]] #[]]) (.int .i64 0)).run Tryz.prog w = .ok (.func (.func 82) #[.agg #[.pointer (some ⟨bp, 0, none⟩), .int .i64 (i : Int)]] #[]) w := fun w => by kernel_rfl
  have hix1 : ∀ w : World, (Instr.index 123 (.agg #[.func (.func 82) #[.agg #[.pointer (some ⟨bp, 0, none⟩), .int .i64 (i : Int)]] #[], .func (.func 83) #[.agg #[.pointer (some ⟨bp, 0, none⟩), .int .i64 (i : Int)]] #[], .func (.func 84) #[.agg #[.pointer (some ⟨bp, 0, none⟩), .int .i64 (i : Int)]] #[], .func (.func 85) #[.agg #[.pointer (some ⟨bp, 0, none⟩), .int .i64 (i : Int)]] #[]]) (.int .i64 1)).run Tryz.prog w = .ok (.func (.func 83) #[.agg #[.pointer (some ⟨bp, 0, none⟩), .int .i64 (i : Int)]] #[]) w := fun w => by kernel_rfl
  have hix2 : ∀ w : World, (Instr.index 123 (.agg #[.func (.func 82) #[.agg #[.pointer (some ⟨bp, 0, none⟩), .int .i64 (i : Int)]] #[], .func (.func 83) #[.agg #[.pointer (some ⟨bp, 0, none⟩), .int .i64 (i : Int)]] #[], .func (.func 84) #[.agg #[.pointer (some ⟨bp, 0, none⟩), .int .i64 (i : Int)]] #[], .func (.func 85) #[.agg #[.pointer (some ⟨bp, 0, none⟩), .int .i64 (i : Int)]] #[]]) (.int .i64 2)).run Tryz.prog w = .ok (.func (.func 84) #[.agg #[.pointer (some ⟨bp, 0, none⟩), .int .i64 (i : Int)]] #[]) w := fun w => by kernel_rfl
  have hix3 : ∀ w : World, (Instr.index 123 (.agg #[.func (.func 82) #[.agg #[.pointer (some ⟨bp, 0, none⟩), .int .i64 (i : Int)]] #[], .func (.func 83) #[.agg #[.pointer (some ⟨bp, 0, none⟩), .int .i64 (i : Int)]] #[], .func (.func 84) #[.agg #[.pointer (some ⟨bp, 0, none⟩), .int .i64 (i : Int)]] #[], .func (.func 85) #[.agg #[.pointer (some ⟨bp, 0, none⟩), .int .i64 (i : Int)]] #[]]) (.int .i64 3)).run Tryz.prog w = .ok (.func (.func 85) #[.agg #[.pointer (some ⟨bp, 0, none⟩), .int .i64 (i : Int)]] #[]) w := fun w => by kernel_rfl
  have hmf : ∀ (fn : Fn) (first cap : Array Value) (w : World), (Instr.makeFunc fn first cap).run Tryz.prog w = .ok (.func fn first cap) w := fun _ _ _ _ => rfl
  have hor : fndB rk s t = (rsn4 rk s t 0 || (rsn4 rk s t 1 || (rsn4 rk s t 2 || rsn4 rk s t 3))) := rfl
  have Hor := Lib.hid hor
  have HW := Lib.hid hW
  have HI := Lib.hid hIW
  have HB := Lib.hid hB
  have Hq1 := Lib.hid q1
  obtain ⟨r, hr⟩ : ∃ r, rsn4 rk s t = r := ⟨_, rfl⟩
  rw [hr] at C0 C1 C2 C3 Hor
  obtain ⟨v, hv⟩ : ∃ v, (if fndB rk s t = true then (3 : Int) else 0) = v := ⟨_, rfl⟩
  rw [hv]
  have Hv := Lib.hid hv
  clear hv
  have HK0 : Hid (KeepsC (· = bf) W W) := Lib.hid (KeepsC.refl _ _)
  clear hW q0 q1 hI hIW hB hor hr h
  go_enter Tryz.func66, Tryz.ntmps66
  go_upto_region 1 with fail
  rw [HW.out]
  go_upto_region 2 with fail
  go_loopw [16] (fun ix wr => ∃ k : Nat, k ≤ 4 ∧ ix = .int .i64 (k : Int) ∧ Hid ((∀ q, q < k → r q = false) ∧ KeepsC (· = bf) W wr ∧ FdW wr n bp bf P rk pc A H hc ml (fdF rk rk.length M))) (fun ix _ => 4 - (intOf ix).toNat)
  case atStart => exact ⟨0, Nat.zero_le _, rfl, Lib.hid ⟨fun q hq => by omega, HK0.out, HI.out⟩⟩
  case round =>
    obtain ⟨k, hk, rfl, HR⟩ := hrel
    obtain ⟨hno, hkr, hir⟩ := HR.out
    have hsr := hkr.size
    obtain ⟨y0, y1, _, _⟩ := cells_two ((hkr.block hlt (show ¬ w.heap.size + 1 = bf by omega)).trans Hq1.out)
    have Hno := Lib.hid hno
    have Hir := Lib.hid hir
    have Hkr := Lib.hid hkr
    clear hno hkr hir HR
    obtain rfl | rfl | rfl | rfl | rfl : k = 0 ∨ k = 1 ∨ k = 2 ∨ k = 3 ∨ k = 4 := by omega
    · have HC := C0.out wr Hir.out
      cases hq : r 0 with
      | true =>
        rw [hq] at HC
        have hfin := Lib.hid (show v = 3 by rw [← Hv.out, Hor.out, hq]; rfl)
        have HC := Lib.hid HC
        clear hq
        go_wp2_with (first
          | (go_at_call 82; (with_reducible refine HC.out.mono ?_); go_must (rintro e w5 ⟨rfl, hk5, hI5⟩; have hI5 := Lib.hid hI5))
          | fail)
        go_ret
        exact ⟨ret_int hfin.out.symm, (KeepsC.of_below HB.out).trans (Hkr.out.trans hk5), hI5.out⟩
      | false =>
        rw [hq] at HC
        have HC := Lib.hid HC
        have Hq := Lib.hid hq
        clear hq
        go_wp2_with (first
          | (go_at_call 82; (with_reducible refine HC.out.mono ?_); go_must (rintro e w5 ⟨rfl, hk5, hI5⟩; have hI5 := Lib.hid hI5))
          | fail)
        go_roundw
        case rel => exact ⟨1, by omega, rfl, Lib.hid ⟨fun q hq => by
          rcases Nat.lt_or_ge q 0 with h1 | h1
          · exact Hno.out q h1
          · obtain rfl : q = 0 := by omega
            exact Hq.out, Hkr.out.trans hk5, hI5.out⟩⟩
        case measure => simp [intOf]
    · have HC := C1.out wr Hir.out
      cases hq : r 1 with
      | true =>
        rw [hq] at HC
        have hfin := Lib.hid (show v = 3 by rw [← Hv.out, Hor.out, hq, Hno.out 0 (by omega)]; rfl)
        have HC := Lib.hid HC
        clear hq
        go_wp2_with (first
          | (go_at_call 83; (with_reducible refine HC.out.mono ?_); go_must (rintro e w5 ⟨rfl, hk5, hI5⟩; have hI5 := Lib.hid hI5))
          | fail)
        go_ret
        exact ⟨ret_int hfin.out.symm, (KeepsC.of_below HB.out).trans (Hkr.out.trans hk5), hI5.out⟩
      | false =>
        rw [hq] at HC
        have HC := Lib.hid HC
        have Hq := Lib.hid hq
        clear hq
        go_wp2_with (first
          | (go_at_call 83; (with_reducible refine HC.out.mono ?_); go_must (rintro e w5 ⟨rfl, hk5, hI5⟩; have hI5 := Lib.hid hI5))
          | fail)
        go_roundw
        case rel => exact ⟨2, by omega, rfl, Lib.hid ⟨fun q hq => by
          rcases Nat.lt_or_ge q 1 with h1 | h1
          · exact Hno.out q h1
          · obtain rfl : q = 1 := by omega
            exact Hq.out, Hkr.out.trans hk5, hI5.out⟩⟩
        case measure => simp [intOf]
    · have HC := C2.out wr Hir.out
      cases hq : r 2 with
      | true =>
        rw [hq] at HC
        have hfin := Lib.hid (show v = 3 by rw [← Hv.out, Hor.out, hq, Hno.out 0 (by omega), Hno.out 1 (by omega)]; rfl)
        have HC := Lib.hid HC
        clear hq
        go_wp2_with (first
          | (go_at_call 84; (with_reducible refine HC.out.mono ?_); go_must (rintro e w5 ⟨rfl, hk5, hI5⟩; have hI5 := Lib.hid hI5))
          | fail)
        go_ret
        exact ⟨ret_int hfin.out.symm, (KeepsC.of_below HB.out).trans (Hkr.out.trans hk5), hI5.out⟩
      | false =>
        rw [hq] at HC
        have HC := Lib.hid HC
        have Hq := Lib.hid hq
        clear hq
        go_wp2_with (first
          | (go_at_call 84; (with_reducible refine HC.out.mono ?_); go_must (rintro e w5 ⟨rfl, hk5, hI5⟩; have hI5 := Lib.hid hI5))
          | fail)
        go_roundw
        case rel => exact ⟨3, by omega, rfl, Lib.hid ⟨fun q hq => by
          rcases Nat.lt_or_ge q 2 with h1 | h1
          · exact Hno.out q h1
          · obtain rfl : q = 2 := by omega
            exact Hq.out, Hkr.out.trans hk5, hI5.out⟩⟩
        case measure => simp [intOf]
    · have HC := C3.out wr Hir.out
      cases hq : r 3 with
      | true =>
        rw [hq] at HC
        have hfin := Lib.hid (show v = 3 by rw [← Hv.out, Hor.out, hq, Hno.out 0 (by omega), Hno.out 1 (by omega), Hno.out 2 (by omega)]; rfl)
        have HC := Lib.hid HC
        clear hq
        go_wp2_with (first
          | (go_at_call 85; (with_reducible refine HC.out.mono ?_); go_must (rintro e w5 ⟨rfl, hk5, hI5⟩; have hI5 := Lib.hid hI5))
          | fail)
        go_ret
        exact ⟨ret_int hfin.out.symm, (KeepsC.of_below HB.out).trans (Hkr.out.trans hk5), hI5.out⟩
      | false =>
        rw [hq] at HC
        have HC := Lib.hid HC
        have Hq := Lib.hid hq
        clear hq
        go_wp2_with (first
          | (go_at_call 85; (with_reducible refine HC.out.mono ?_); go_must (rintro e w5 ⟨rfl, hk5, hI5⟩; have hI5 := Lib.hid hI5))
          | fail)
        go_roundw
        case rel => exact ⟨4, by omega, rfl, Lib.hid ⟨fun q hq => by
          rcases Nat.lt_or_ge q 3 with h1 | h1
          · exact Hno.out q h1
          · obtain rfl : q = 3 := by omega
            exact Hq.out, Hkr.out.trans hk5, hI5.out⟩⟩
        case measure => simp [intOf]
    · have hfin := Lib.hid (show v = 0 by rw [← Hv.out, Hor.out, Hno.out 0 (by omega), Hno.out 1 (by omega), Hno.out 2 (by omega), Hno.out 3 (by omega)]; rfl)
      go_wp2
      go_ret
      exact ⟨ret_int hfin.out.symm, (KeepsC.of_below HB.out).trans Hkr.out, Hir.out⟩
end
end Go.Proofs.YthgglobfkkcdgaaGreat
namespace Go.Proofs.YthgglobfkkcdgaaGreat
open Go Go.RowKit Go.Shelf Go.Maps
set_option maxRecDepth 100000
theorem ownsMap_tight {w : World} {k : TypeId} {R : Value → Option (DataW Unit × List MemPlace)} {b n : Nat} {D : DataW Unit} (h : w.ownsMap Tryz.prog k R b n D) : w.ownsMap Tryz.prog k R b (Maps.size D) D := by
  obtain ⟨es, clock, hb, F, hs, rfl⟩ := h
  refine ⟨es, clock, hb, F, ?_, rfl⟩
  show es.size ≤ ((es.toList.map (Go.WideElems.rg Tryz.prog k R)).foldr DataW.insert []).length
  rw [length_sorted]; simp
theorem FMap.put_any {w : World} {b : Nat} {K : List (Int × Int)} {F : Int × Int → Int} (h : FMap w b K F) (hn : K.length < 9223372036854775807) {x y : Int} (h1 : I64 x) (h2 : I64 y) (hF : I64 (F (x, y))) :
    ∃ w', (Instr.mapUpdate 91 (.map (some b)) (.agg #[.int .i64 x, .int .i64 y]) (.int .i64 (F (x, y)))).run Tryz.prog w = .ok () w' ∧ FMap w' b (if (x, y) ∈ K then K else K ++ [(x, y)]) F ∧ w.grownBy w' (some b) := by
  by_cases hx : (x, y) ∈ K
  · rw [if_pos hx]
    obtain ⟨D, hown, hsz, hat⟩ := h
    obtain ⟨kl, hk⟩ := keyOf_plc (x := (x, y)) h1 h2
    obtain ⟨w', hrun, hown', hgr⟩ := hown.update plcLaw Tryz.underlying91 (by unfold maxLen; omega) hk (plainElem_int Tryz.underlying30 (a := F (x, y)) (WalkArith.wf_i64 ⟨by have := hF.1; omega, by have := hF.2; omega⟩))
    have hsz' : Maps.size (D.put kl (.lit (.int .i64 (F (x, y))))) = K.length := by
      rw [size_put (hown.tidy plcLaw), has_true_of_atKey (y := .lit (.int .i64 (F (x, y)))) (fun z => by rw [hat (x, y) kl hk z, if_pos hx]), if_pos rfl, hsz]
    have ht := ownsMap_tight hown'
    rw [hsz'] at ht
    refine ⟨w', hrun, ⟨_, ht, hsz', fun z kz hz d => ?_⟩, hgr⟩
    by_cases e : z = (x, y)
    · subst e
      rw [hk] at hz
      injection hz with hz
      subst hz
      rw [atKey_put_same (hown.tidy plcLaw).isMap (plcLaw.key hk), if_pos hx]
    · have hne : kz ≠ kl := by
        rintro rfl
        have := plcLaw.inj hz hk
        simp only [pvL, Value.agg.injEq] at this
        simp at this
        exact e (Prod.ext this.1 this.2)
      rw [atKey_put_other hne, hat z kz hz d]
  · rw [if_neg hx]
    exact h.put hn h1 h2 hx hF
section
variable {Fs : List Fct} {a0 : Act} {W : World} {dst : Option Tmp} {ty : TypeId} {pos : String} {after : Array Edge}
theorem sb_field2 {s j : Nat} {x y z : Value} (hF : Fs.getD j Fct.any = Fct.eq (.agg #[x, y, z])) : stepB Tryz.prog Fs a0 W ⟨dst, .field 97 (.tmp s) 2, ty, pos, after, none⟩ [(s, some j)] (.val z) := by
  refine ⟨rfl, fun a w hb hl => ?_⟩
  have h0 := hl.1
  rw [hF] at h0
  have e1 := ev_get h0
  have hf : (Instr.field 97 (.agg #[x, y, z]) 2).run Tryz.prog w = .ok z w := by kernel_rfl
  simp [go_sem, leaves, e1, hf]
  exact Below.refl _ _
theorem sb_build2 {s s2 j j2 : Nat} {x y : Int} (hF : Fs.getD j Fct.any = Fct.eq (.int .i64 x)) (hF2 : Fs.getD j2 Fct.any = Fct.eq (.int .i64 y)) : stepB Tryz.prog Fs a0 W ⟨dst, .build 100 #[(0, .tmp s), (1, .tmp s2)], ty, pos, after, none⟩ [(s, some j), (s2, some j2)] (.val (.agg #[.int .i64 x, .int .i64 y])) := by
  refine ⟨rfl, fun a w hb hl => ?_⟩
  obtain ⟨h0, h1, _⟩ := hl
  rw [hF] at h0
  rw [hF2] at h1
  have e1 := ev_get h0
  have e2 := ev_get h1
  simp [go_sem, leaves, e1, e2]
  exact Below.refl _ _
theorem sb_boxPl {j d k : Nat} {x : Array Value} : stepB Tryz.prog Fs a0 W ⟨dst, .alloc 100, ty, pos, after, none⟩ [] (.box ⟨j, d, k, #[.int .i64 0, .int .i64 0], x, 100⟩) := by
  refine ⟨rfl, fun a w => ?_⟩
  simp [go_sem]
theorem sb_putPl {j d k s i i2 : Nat} {m n : Int} {u v : Value} (hF : Fs.getD i Fct.any = Fct.eq (.agg #[.int .i64 m, .int .i64 n])) : stepB Tryz.prog Fs a0 W ⟨none, .store 100 (.tmp d) (.tmp s), ty, pos, after, none⟩ [(d, some i2), (s, some i)] (.put ⟨j, d, k, #[u, v], #[.int .i64 m, .int .i64 n], 100⟩) := by
  refine ⟨rfl, fun a w b h1 h2 hl => ?_⟩
  have h0 := hl.2.1
  rw [hF] at h0
  have e1 := ev_get h0
  have e2 := ev_get h1
  obtain ⟨c0, c1, f0, f1⟩ := cells_two h2
  have h3 := (set2_two (u := .int .i64 m) (v := .int .i64 n) h2).2
  simp [go_sem, leaves, e1, e2, c0, c1, f0, f1]
  exact ⟨h3, fun g hg => (heap_setCell_other _ _ _ _ hg).trans (heap_setCell_other _ _ _ _ hg), rfl, rfl⟩
end
section
variable {n bp bf : Nat} {P : Option Addr} {rk : List Int} {pc : Nat} {A : Option Addr} {H : List Hd} {hc : Nat} {ml : Value} {M : List (Int × Int)}
def plB (x y : Int) : BoxN := ⟨7, 5, 8, #[.int .i64 0, .int .i64 0], #[.int .i64 x, .int .i64 y], 100⟩
set_option maxHeartbeats 1000000 in
theorem abv_step {m : Nat} (h : AbvAt n bp bf P rk pc A H hc ml M m) (hM : M.Nodup) (hH : H.length ≤ 1073741824) : AbvAt n bp bf P rk pc A H hc ml M (m + 1) := by
  intro s t i j w hz hs ht his hjt hI
  obtain ⟨q0, q1⟩ := heap2 w (.cells #[.pointer (some ⟨bp, 0, none⟩), .int .i64 (i : Int)] 74) (.cells #[.pointer (some ⟨bp, 0, none⟩), .int .i64 (j : Int)] 74)
  obtain ⟨W, hW⟩ : ∃ W, (w.alloc (.cells #[.pointer (some ⟨bp, 0, none⟩), .int .i64 (i : Int)] 74)).alloc (.cells #[.pointer (some ⟨bp, 0, none⟩), .int .i64 (j : Int)] 74) = W := ⟨_, rfl⟩
  have hB : Below w.heap.size w W := by rw [← hW]; exact ((Below.refl _ _).alloc (Nat.le_refl _) _).alloc (by simp) _
  rw [hW] at q0 q1
  have hlt := (Array.getElem?_eq_some_iff.1 q1).1
  have hIW := hI.on hB
  have hnl0 := hI.nl
  have hlf0 := hI.lf
  have hPd := hIW.pr.on (Below.refl _ _).drew
  have C1 : ∀ w1, Below W.drew.heap.size W.drew w1 → Calls Tryz.prog 65 #[.agg #[.pointer (some ⟨bp, 0, none⟩), .int .i64 (i : Int)]] w1 fun e w' => e = .returned (.agg #[.int .i64 s.fn, .int .i64 (s.size : Int), .int .i64 (numO rk.length M s)]) ∧ Below w1.heap.size w1 w' := fun w1 hb => lpoHead_any w1 (hPd.on hb) his.top'
  have C2 : ∀ w1, Below W.drew.heap.size W.drew w1 → Calls Tryz.prog 65 #[.agg #[.pointer (some ⟨bp, 0, none⟩), .int .i64 (j : Int)]] w1 fun e w' => e = .returned (.agg #[.int .i64 t.fn, .int .i64 (t.size : Int), .int .i64 (numO rk.length M t)]) ∧ Below w1.heap.size w1 w' := fun w1 hb => lpoHead_any w1 (hPd.on hb) hjt.top'
  have hms := List.mem_of_getElem? his.top'
  have hmt := List.mem_of_getElem? hjt.top'
  have i1 : I64 (numO rk.length M s) := (hIW.pr.hds.i64 _ hms).2.2
  have i2 : I64 (numO rk.length M t) := (hIW.pr.hds.i64 _ hmt).2.2
  have hpr : (numO rk.length M s, numO rk.length M t) ∈ prs (H.map Hd.no) := prs_mem (List.mem_map.2 ⟨_, hms, rfl⟩) (List.mem_map.2 ⟨_, hmt, rfl⟩)
  have hFv := fdF_eq (p := rk) hM hs ht
  have hFi := fdF_i64 rk rk.length M (numO rk.length M s, numO rk.length M t)
  obtain ⟨F, hF⟩ : ∃ F, fdF rk rk.length M = F := ⟨_, rfl⟩
  have hfind : ∀ w1, FdW w1 n bp bf P rk pc A H hc ml (fdF rk rk.length M) → Calls Tryz.prog 66 #[.agg #[.pointer (some ⟨bp, 0, none⟩), .int .i64 (i : Int)], .agg #[.pointer (some ⟨bp, 0, none⟩), .int .i64 (j : Int)]] w1 fun e w' => e = .returned (.int .i64 (F (numO rk.length M s, numO rk.length M t))) ∧ KeepsC (· = bf) w1 w' ∧ FdW w' n bp bf P rk pc A H hc ml (fdF rk rk.length M) := fun w1 h1 => by
    have := lpoFind_any h hM (by omega) w1 hs ht his hjt hz h1
    rw [find_eq hs.vn ht.vn] at this
    rw [← hF, hFv]
    exact this
  rw [hF] at hFv hFi hIW hfind ⊢
  obtain ⟨ns, hns⟩ : ∃ k, numO rk.length M s = k := ⟨_, rfl⟩
  obtain ⟨nt, hnt⟩ : ∃ k, numO rk.length M t = k := ⟨_, rfl⟩
  rw [hns] at C1 i1 hpr hFv hFi hfind
  rw [hnt] at C2 i2 hpr hFv hFi hfind
  obtain ⟨v, hv⟩ : ∃ v, F (ns, nt) = v := ⟨_, rfl⟩
  have hvb : (v == 3) = lpT rk s t := by
    rw [← hv, hFv]
    cases lpT rk s t <;> rfl
  rw [hv] at hfind
  obtain ⟨lb, hlb⟩ : ∃ lb, lpT rk s t = lb := ⟨_, rfl⟩
  rw [hlb] at hvb ⊢
  have HW := Lib.hid hW
  have HI := Lib.hid hIW
  have HB := Lib.hid hB
  have Hq0 := Lib.hid q0
  have Hq1 := Lib.hid q1
  have Hfind := Lib.hid hfind
  have Hv := Lib.hid hv
  have Hvb := Lib.hid hvb
  clear hW hI hIW hB hPd hms hmt hFv hfind hns hnt hv hlb hF h hvb
  go_enter Tryz.func46, Tryz.ntmps46
  go_upto_region 1 with fail
  rw [HW.out]
  refine wp_region_boxes 39 [[(2, none)], [(8, some 0)], [(9, some 1)], [(3, none)], [(11, some 3)], [(12, some 4)], [(10, some 2), (13, some 5)], [], [(5, some 7), (14, some 6)]]
    [.val (.agg #[.pointer (some ⟨bp, 0, none⟩), .int .i64 (i : Int)]), .val (.agg #[.int .i64 s.fn, .int .i64 (s.size : Int), .int .i64 ns]), .val (.int .i64 ns), .val (.agg #[.pointer (some ⟨bp, 0, none⟩), .int .i64 (j : Int)]), .val (.agg #[.int .i64 t.fn, .int .i64 (t.size : Int), .int .i64 nt]), .val (.int .i64 nt), .val (.agg #[.int .i64 ns, .int .i64 nt]), .box (plB ns nt), .put (plB ns nt)] [plB ns nt] (by kernel_rfl) (by decide +kernel) ?_ (by kernel_rfl) ?_ ?_
  · refine ⟨fun r hr => ?_, fun r hr => ?_, fun r hr r' hr' he => ?_, fun k r hk => ?_, fun k r hk => ?_⟩
    · obtain rfl := List.mem_singleton.1 hr
      exact ⟨_, rfl, rfl, rfl⟩
    · obtain rfl := List.mem_singleton.1 hr
      exact ⟨_, rfl, rfl, rfl, show waits _ 7 = true by decide +kernel⟩
    · rw [List.mem_singleton.1 hr, List.mem_singleton.1 hr']
    · have hk12 : k < 9 := (List.getElem?_eq_some_iff.1 hk).1
      obtain rfl | rfl | rfl | rfl | rfl | rfl | rfl | rfl | rfl : k = 0 ∨ k = 1 ∨ k = 2 ∨ k = 3 ∨ k = 4 ∨ k = 5 ∨ k = 6 ∨ k = 7 ∨ k = 8 := by omega
      all_goals simp at hk
      subst hk; exact ⟨by simp, rfl⟩
    · have hk12 : k < 9 := (List.getElem?_eq_some_iff.1 hk).1
      obtain rfl | rfl | rfl | rfl | rfl | rfl | rfl | rfl | rfl : k = 0 ∨ k = 1 ∨ k = 2 ∨ k = 3 ∨ k = 4 ∨ k = 5 ∨ k = 6 ∨ k = 7 ∨ k = 8 := by omega
      all_goals simp at hk
      subst hk; exact ⟨by simp, rfl⟩
  · exact ⟨sb_load2 rfl Hq0.out, sb_call1 (enters_of Tryz.func65 (by kernel_rfl) rfl) C1 rfl, sb_field2 rfl, sb_load2 rfl Hq1.out, sb_call1 (enters_of Tryz.func65 (by kernel_rfl) rfl) C2 rfl, sb_field2 rfl, sb_build2 rfl rfl, sb_boxPl, sb_putPl rfl, trivial⟩
  · intro w4 hb4
    generalize hA0 : ({ tmps := _, defers := _ } : Act) = a0
    simp only [List.map_cons, List.map_nil]
    refine (FinS.some rfl (fun u0 (e0 : u0 = _) => ?_)).go
    subst e0
    refine FinS.some rfl (fun u1 (e1 : u1 = _) => ?_)
    subst e1
    refine FinS.some rfl (fun u2 (e2 : u2 = _) => ?_)
    subst e2
    refine FinS.some rfl (fun u3 (e3 : u3 = _) => ?_)
    subst e3
    refine FinS.some rfl (fun u4 (e4 : u4 = _) => ?_)
    subst e4
    refine FinS.some rfl (fun u5 (e5 : u5 = _) => ?_)
    subst e5
    refine FinS.some rfl (fun u6 (e6 : u6 = _) => ?_)
    subst e6
    refine FinS.some rfl (fun u8 e8 => FinS.skip rfl (FinS.nil fun _ => ?_))
    obtain ⟨b5, rfl, g1, g2, g3⟩ := e8
    subst hA0
    simp only [Act.put, List.setIfInBounds_toArray, List.set_cons_succ, List.set_cons_zero]
    have hb4z : Below W.heap.size W w4 := (Below.refl _ _).drew.trans hb4
    have hg1 : W.heap.size ≤ b5 := g1
    change w4.heap[b5]? = some (.cells #[.int .i64 ns, .int .i64 nt] 100) at g3
    have hI4 := HI.out.on hb4z
    obtain ⟨K, hnd, hsub, hFM⟩ := hI4.mp
    obtain ⟨a0, a1, a2, a3⟩ := cells_four hI4.pr.box
    obtain ⟨x0, x1, _, _⟩ := cells_two ((hb4z.block _ (show w.heap.size < W.heap.size by omega)).trans Hq0.out)
    obtain ⟨y0, y1, _, _⟩ := cells_two ((hb4z.block _ hlt).trans Hq1.out)
    obtain ⟨z0, z1, _, _⟩ := cells_two g3
    have l1 := (show FMap w4.drew bf K F from hFM).look i1 i2
    have hK4 : KeepsC (· = bf) w w4 := (KeepsC.of_below HB.out).trans (KeepsC.of_below hb4z)
    have HI4 := Lib.hid hI4
    have HK4 := Lib.hid hK4
    have Hg3 := Lib.hid g3
    have hz4 := hb4z.size
    have HX4 : Hid (∀ g, g < W.heap.size → w4.heap[g]? = W.heap[g]?) := Lib.hid fun g hg => hb4z.block g hg
    clear hI4 hK4 hb4 hb4z C1 C2
    by_cases hx : (ns, nt) ∈ K
    · rw [if_pos hx, decide_eq_true hx, Hv.out] at l1
      clear hFM hsub hnd hx
      go_upto_region 2 with fail
      go_region
      go_wp2
      go_ret
      exact ⟨ret_bool Hvb.out, HK4.out.trans (KeepsC.of_below (bl_drewN (Below.refl _ _) 1)), HI4.out.on (bl_drewN (Below.refl _ _) 1)⟩
    · rw [if_neg hx, decide_eq_false hx] at l1
      clear hFM hsub hnd hx
      go_upto_region 2 with fail
      go_region
      go_upto_region 4 with fail
      have Hdr := Lib.hid (bl_drewN (Below.refl w4.heap.size w4) 1)
      have hfd := Hfind.out w4.drew (HI4.out.on (bl_drewN (Below.refl _ _) 1))
      have HFD := Lib.hid hfd
      clear hfd l1
      go_upto_region 5 with (first
        | (go_at_call 66; (with_reducible refine HFD.out.mono ?_); go_must (rintro e w5 ⟨rfl, hk5, hI5⟩; have HK5 := Lib.hid hk5; have HI5 := Lib.hid hI5; clear hk5 hI5))
        | fail)
      obtain ⟨K5, hnd, hsub, hFM⟩ := HI5.out.mp
      have hKl : K5.length < 9223372036854775807 := by
        have h1 := nodup_leq K5 _ hnd hsub
        rw [prs_len, List.length_map] at h1
        have h2 : H.length * H.length ≤ 1073741824 * 1073741824 := Nat.mul_le_mul hH hH
        omega
      have hk5 := HK5.out
      have hs5 := hk5.size
      have hw4s : w4.drew.heap.size = w4.heap.size := rfl
      obtain ⟨a0, a1, a2, a3⟩ := cells_four HI5.out.pr.box
      have hbx : ∀ g, g < w4.heap.size → ¬ g = bf → w5.heap[g]? = w4.heap[g]? := fun g hg hn => hk5.block (show g < w4.drew.heap.size from hg) hn
      have hW4b := HK4.out
      obtain ⟨x0, x1, _, _⟩ := cells_two ((hbx _ (show w.heap.size < w4.heap.size by omega) (by omega)).trans (HX4.out _ (show w.heap.size < W.heap.size by omega) |>.trans Hq0.out))
      obtain ⟨z0, z1, _, _⟩ := cells_two ((hbx _ g2 (by omega)).trans Hg3.out)
      obtain ⟨w9, hrun, hM9, hgr⟩ := (show FMap w5.drew bf K5 F from hFM).put_any hKl i1 i2 hFi
      rw [Hv.out] at hrun
      have hI9 : FdW w9 n bp bf P rk pc A H hc ml F := (HI5.out.on (bl_drewN (Below.refl _ _) 1)).keep hgr.size (fun g hg hn => hgr.block g (Nat.lt_of_lt_of_le hg HI5.out.nl) (fun e => hn (by injection e))) ⟨_, by
        by_cases hx : (ns, nt) ∈ K5
        · rw [if_pos hx]; exact hnd
        · rw [if_neg hx, List.nodup_append]
          exact ⟨hnd, by simp, fun x hx' y hy => by simp at hy; subst hy; exact fun e => hx (e ▸ hx')⟩, by
        intro x hx'
        by_cases hx : (ns, nt) ∈ K5
        · rw [if_pos hx] at hx'; exact hsub x hx'
        · rw [if_neg hx] at hx'
          rcases List.mem_append.1 hx' with h1 | h1
          · exact hsub x h1
          · rw [List.mem_singleton] at h1; subst h1; exact hpr, hM9⟩
      have hk9 : KeepsC (· = bf) w5 w9 := KeepsC.trans (KeepsC.of_below (bl_drewN (Below.refl _ _) 1)) ((Keeps.of_grown hgr).mono fun g hg => ⟨hg.1, fun e => hg.2 (by injection e)⟩)
      have HI9 := Lib.hid hI9
      have HK9 := Lib.hid hk9
      clear hI9 hk9 hgr hM9 hFM hsub hnd hk5 hbx hW4b
      go_region_law (fail)
      all_goals
        go_wp2
        go_ret
        exact ⟨ret_bool Hvb.out, HK4.out.trans ((KeepsC.of_below Hdr.out).trans (HK5.out.trans HK9.out)), HI9.out⟩
theorem abv_all (hM : M.Nodup) (hH : H.length ≤ 1073741824) : ∀ m, AbvAt n bp bf P rk pc A H hc ml M m
  | 0 => fun s t i j w hz => by have := size_pos s; omega
  | m + 1 => abv_step (abv_all hM hH m) hM hH
end
end Go.Proofs.YthgglobfkkcdgaaGreat
namespace Go.Proofs.YthgglobfkkcdgaaGreat
open Go Go.RowKit Go.Shelf
set_option maxRecDepth 100000
section
variable {Fs : List Fct} {a0 : Act} {W : Nat → World} {dst : Option Tmp} {ty : TypeId} {pos : String} {after : Array Edge} {ks : List Nat}
theorem ss_move {s : Nat} {v : Value} (hs : a0.eval (.tmp s) = v) : stepS Tryz.prog Fs a0 W false ⟨dst, .move (.tmp s), ty, pos, after, none⟩ [(s, none)] ks v := by
  refine ⟨rfl, fun k _ a hl => ?_⟩
  have h1 := ev_get (hl.1.trans hs)
  simp [go_sem, leaves, h1]
theorem ss_nil {s j : Nat} {p : Addr} (hF : Fs.getD j Fct.any = Fct.eq (.pointer (some p))) : stepS Tryz.prog Fs a0 W false ⟨dst, .nilCheck (.tmp s), ty, pos, after, none⟩ [(s, some j)] ks (.pointer (some p)) := by
  refine ⟨rfl, fun k _ a hl => ?_⟩
  have h0 := hl.1
  rw [hF] at h0
  have h1 := ev_get h0
  simp [go_sem, leaves, h1]
theorem ss_pair1 {s j b : Nat} (hF : Fs.getD j Fct.any = Fct.eq (.pointer (some ⟨b, 0, none⟩))) : stepS Tryz.prog Fs a0 W false ⟨dst, .fieldAddr 94 (.tmp s) 1, ty, pos, after, none⟩ [(s, some j)] ks (.pointer (some ⟨b, 1, none⟩)) := by
  refine ⟨rfl, fun k _ a hl => ?_⟩
  have h0 := hl.1
  rw [hF] at h0
  have h1 := ev_get h0
  simp [go_sem, leaves, h1]
theorem ss_load {s j b n c : Nat} {A : Option Addr} (hF : Fs.getD j Fct.any = Fct.eq (.pointer (some ⟨b, 1, none⟩))) (hW : (W 0).cell? ⟨b, 1, none⟩ = some (.slice A n c)) : stepS Tryz.prog Fs a0 W false ⟨dst, .load 92 (.tmp s), ty, pos, after, none⟩ [(s, some j)] [0] (.slice A n c) := by
  refine ⟨rfl, fun k hk a hl => ?_⟩
  obtain rfl : k = 0 := by simpa using hk
  have h0 := hl.1
  rw [hF] at h0
  have h1 := ev_get h0
  simp [go_sem, leaves, h1, hW]
theorem ss_len {s j n c : Nat} {A : Option Addr} (hF : Fs.getD j Fct.any = Fct.eq (.slice A n c)) : stepS Tryz.prog Fs a0 W false ⟨dst, .call { callee := .builtin .len, args := #[.tmp s], argTypes := #[92] }, ty, pos, after, none⟩ [(s, some j)] ks (.int .i64 (n : Int)) := by
  refine ⟨rfl, fun k hk a hl => ?_⟩
  have h0 := hl.1
  rw [hF] at h0
  have h1 := ev_get h0
  simp [go_sem, leaves, h1]
theorem ss_sub {s s2 j j2 : Nat} {x y z : Int} (hF : Fs.getD j Fct.any = Fct.eq (.int .i64 x)) (hG : Fs.getD j2 Fct.any = Fct.eq (.int .i64 y)) (hz : IntKind.i64.wrap (x - y) = z) : stepS Tryz.prog Fs a0 W false ⟨dst, .binOp .sub 3 (.tmp s) (.tmp s2) 3, ty, pos, after, none⟩ [(s, some j), (s2, some j2)] ks (.int .i64 z) := by
  refine ⟨rfl, fun k hk a hl => ?_⟩
  have h0 := hl.1
  rw [hF] at h0
  have h1 := ev_get h0
  have g0 := hl.2.1
  rw [hG] at g0
  have g1 := ev_get g0
  simp [go_sem, leaves, h1, g1, hz]
theorem ss_idx {s s2 j j2 g n c i : Nat} (hF : Fs.getD j Fct.any = Fct.eq (.slice (some ⟨g, 0, none⟩) n c)) (hG : Fs.getD j2 Fct.any = Fct.eq (.int .i64 (i : Int))) (hi : i < n) : stepS Tryz.prog Fs a0 W false ⟨dst, .indexAddr 92 (.tmp s) (.tmp s2), ty, pos, after, none⟩ [(s, some j), (s2, some j2)] ks (.pointer (some ⟨g, i * 3, none⟩)) := by
  refine ⟨rfl, fun k hk a hl => ?_⟩
  have h0 := hl.1
  rw [hF] at h0
  have h1 := ev_get h0
  have g0 := hl.2.1
  rw [hG] at g0
  have g1 := ev_get g0
  simp [go_sem, leaves, h1, g1, hi]
theorem ss_head1 {s j b o : Nat} (hF : Fs.getD j Fct.any = Fct.eq (.pointer (some ⟨b, o, none⟩))) : stepS Tryz.prog Fs a0 W false ⟨dst, .fieldAddr 97 (.tmp s) 1, ty, pos, after, none⟩ [(s, some j)] ks (.pointer (some ⟨b, o + 1, none⟩)) := by
  refine ⟨rfl, fun k _ a hl => ?_⟩
  have h0 := hl.1
  rw [hF] at h0
  have h1 := ev_get h0
  simp [go_sem, leaves, h1]
theorem ss_head2 {s j b o : Nat} (hF : Fs.getD j Fct.any = Fct.eq (.pointer (some ⟨b, o, none⟩))) : stepS Tryz.prog Fs a0 W false ⟨dst, .fieldAddr 97 (.tmp s) 2, ty, pos, after, none⟩ [(s, some j)] ks (.pointer (some ⟨b, o + 1 + 1, none⟩)) := by
  refine ⟨rfl, fun k _ a hl => ?_⟩
  have h0 := hl.1
  rw [hF] at h0
  have h1 := ev_get h0
  simp [go_sem, leaves, h1]
theorem ss_store {s s2 j j2 i b o : Nat} {x old : Value} (hF : Fs.getD j Fct.any = Fct.eq (.pointer (some ⟨b, o, none⟩))) (hG : Fs.getD j2 Fct.any = Fct.eq x) (hx : ∃ n, x = .int .i64 n) (hold : (W i).cell? ⟨b, o, none⟩ = some old) (hfr : (W i).frozen? ⟨b, o, none⟩ = false) (hW : W (i + 1) = (W i).setCell ⟨b, o, none⟩ x) : stepS Tryz.prog Fs a0 W true ⟨none, .store 3 (.tmp s) (.tmp s2), ty, pos, after, none⟩ [(s, some j), (s2, some j2)] [i] undef := by
  obtain ⟨n, rfl⟩ := hx
  refine ⟨rfl, fun k hk a hl => ?_⟩
  obtain rfl : k = i := by simpa using hk
  have h0 := hl.1
  rw [hF] at h0
  have h1 := ev_get h0
  have g0 := hl.2.1
  rw [hG] at g0
  have g1 := ev_get g0
  rw [if_pos rfl, hW]
  simp [go_sem, leaves, h1, g1, hold, hfr]
end
end Go.Proofs.YthgglobfkkcdgaaGreat
