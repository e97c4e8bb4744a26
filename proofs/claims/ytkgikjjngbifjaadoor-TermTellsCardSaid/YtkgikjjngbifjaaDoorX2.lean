/- TermTells. -/
import Derived.Test.YtkgikjjngbifjaaDoorX1
import Derived.Test.YtkgikjjngbifjaaDoorO2
import Derived.Test.YtkgikjjngbifjaaDoorD2
namespace Go.Proofs.YtkgikjjngbifjaaDoor
open Go.RowKit
set_option maxRecDepth 100000

/-- What stays while the law runs. -/
structure TW (w W : World) (As A1 A2 : Option Addr) (n cs c1 c2 : Nat) (a b : Tm) (wx : World) : Prop where
  below : Below W.heap.size W wx
  c0 : wx.cell? ⟨w.heap.size, 0, none⟩ = some (.slice As n cs)
  a0 : wx.cell? ⟨w.heap.size + 1, 0, none⟩ = some (.int .i64 a.fn)
  a1 : wx.cell? ⟨w.heap.size + 1, 1, none⟩ = some (.slice A1 a.args.length c1)
  b0 : wx.cell? ⟨w.heap.size + 1 + 1, 0, none⟩ = some (.int .i64 b.fn)
  b1 : wx.cell? ⟨w.heap.size + 1 + 1, 1, none⟩ = some (.slice A2 b.args.length c2)

theorem name0 {s : ByteArray} {c : UInt8} {r : List UInt8} (e : s.data.toList = 88 :: c :: r) : ∃ h : 0 < s.size, 1 < s.size ∧ s[0]'h = 88 := by
  have hl : s.size = r.length + 2 := by
    have := congrArg List.length e
    rw [Array.length_toList] at this
    exact this
  refine ⟨by omega, by omega, ?_⟩
  show s.data[0]'(by have : s.size = s.data.size := rfl; omega) = 88
  rw [← Array.getElem_toList]
  simp [e]

set_option maxHeartbeats 4000000 in
theorem TermTells_any (l : List Sm) (a b : Tm) (As A1 A2 : Option Addr) (n cs c1 c2 : Nat) (w : World) (hS : Syms w w.heap.size As n l) (hn : n * 32 ≤ 140737488351232) (ht : tru w) (ha : I64 a.fn) (hb : I64 b.fn) (hA1 : Args w w.heap.size A1 a.args) (hA2 : Args w w.heap.size A2 b.args) :
    Calls Tryd.prog 8 #[.agg #[.slice As n cs], .agg #[.int .i64 a.fn, .slice A1 a.args.length c1], .agg #[.int .i64 b.fn, .slice A2 b.args.length c2]] w fun e w' => e = .returned (.bool true) ∧ Below w.heap.size w w' := by
  obtain rfl := hS.len
  have hl64 : l.length ≤ 9223372036854775807 := by omega
  obtain ⟨q0, q1, q2⟩ := heap3 w (.cells #[.slice As l.length cs] 24) (.cells #[.int .i64 a.fn, .slice A1 a.args.length c1] 27) (.cells #[.int .i64 b.fn, .slice A2 b.args.length c2] 27)
  obtain ⟨W, hW⟩ : ∃ W, (((w.alloc (.cells #[.slice As l.length cs] 24)).alloc (.cells #[.int .i64 a.fn, .slice A1 a.args.length c1] 27)).alloc (.cells #[.int .i64 b.fn, .slice A2 b.args.length c2] 27)) = W := ⟨_, rfl⟩
  have hB : Below w.heap.size w W := by rw [← hW]; exact (((Below.refl _ _).alloc (Nat.le_refl _) _).alloc (by simp) _).alloc (by simp; omega) _
  rw [hW] at q0 q1 q2
  have hWs : w.heap.size + 1 + 1 < W.heap.size := (Array.getElem?_eq_some_iff.1 q2).1
  have hK : ∀ w', Below W.heap.size W w' → TW w W As A1 A2 l.length cs c1 c2 a b w' := fun w' h =>
    ⟨h, (cells_one ((h.block _ (by omega)).trans q0)).1, (cells_two ((h.block _ (by omega)).trans q1)).1, (cells_two ((h.block _ (by omega)).trans q1)).2.1, (cells_two ((h.block _ hWs).trans q2)).1, (cells_two ((h.block _ hWs).trans q2)).2.1⟩
  have HS := Lib.hid (hS.on hB)
  have H1 := Lib.hid (hA1.on hB)
  have H2 := Lib.hid (hA2.on hB)
  have HT := Lib.hid (tru_below ht hB)
  have HW := Lib.hid hW
  have fin : ∀ {w' : World}, Below W.heap.size W w' → Below w.heap.size w w' := fun h => hB.trans (h.mono hB.size)
  obtain ⟨_, x0, _, _, _, _⟩ := hK W (Below.refl _ _)
  clear hW hS hA1 hA2 ht q0 q1 q2
  go_enter Tryd.func8, Tryd.ntmps8
  go_upto_region 1 with fail
  rw [HW.out]
  go_wp2
  clear x0
  go_loopw [18] (fun i wr => ∃ k : Nat, k ≤ l.length ∧ i = .int .i64 (k : Int) ∧ Below W.heap.size W wr ∧ Hid (∀ (i j : Nat) (x y : Sm), i < k → j < i → l[i]? = some x → l[j]? = some y → x.name ≠ y.name)) (fun i _ => l.length - (intOf i).toNat)
  case atStart => exact ⟨0, Nat.zero_le _, rfl, Below.refl _ _, fun i j x y h => by omega⟩
  case round =>
    obtain ⟨k, hk, rfl, hBr, HN⟩ := hrel
    by_cases hkl : k < l.length
    · obtain ⟨x, hx⟩ : ∃ x, l[k]? = some x := ⟨_, List.getElem?_eq_getElem hkl⟩
      have Hx := Lib.hid hx
      clear hx
      go_wp2
      go_loopw [22] (fun i wr' => ∃ j : Nat, j ≤ k ∧ i = .int .i64 (j : Int) ∧ Below W.heap.size W wr' ∧ Hid (∀ (j' : Nat) (y : Sm), j' < j → l[j']? = some y → x.name ≠ y.name)) (fun i _ => k - (intOf i).toNat)
      case atStart => exact ⟨0, Nat.zero_le _, rfl, hBr, fun j y h => by omega⟩
      case round =>
        obtain ⟨j, hj, rfl, hBr', HM⟩ := hrel
        by_cases hjk : j < k
        · obtain ⟨y, hy⟩ : ∃ y, l[j]? = some y := ⟨_, List.getElem?_eq_getElem (by omega)⟩
          have hSr := HS.out.on hBr'
          obtain ⟨sb, so, rfl, hsb, hsc⟩ := hSr.ad (by omega)
          have y0 := (hsc _ _ Hx.out).1
          have y1 := (hsc _ _ hy).1
          have z0 := (hK _ hBr').c0
          have Hy := Lib.hid hy
          clear hsc hy hSr
          by_cases he : x.name = y.name
          · have hel : (x.name.toList == y.name.toList) = true := by rw [he]; simp
            go_wp2
            go_quiet (fail)
            go_wp2_with (first
              | (go_at_call 13
                 go_must (
                 refine (wakes_any _ (tru_below HT.out (bl_drewN hBr' _))).mono ?_
                 rintro e w5 ⟨rfl, hb5⟩
                 have hB5 := bl_step (bl_drewN hBr' nq) hb5))
              | fail)
            go_ret
            exact ⟨rfl, fin hB5⟩
          · have hel : ¬ x.name.toList = y.name.toList := fun e => he (by rw [ByteArray.toList_eq, ByteArray.toList_eq] at e; exact ByteArray.ext (Array.toList_inj.1 e))
            have hel' : (x.name.toList == y.name.toList) = false := by simpa using hel
            have He := Lib.hid he
            go_wp2
            go_quiet (fail)
            go_wp2
            go_roundw
            case rel =>
              refine ⟨j + 1, by omega, by go_num, bl_drewN hBr' _, fun j' y' hj' hy' => ?_⟩
              by_cases e : j' = j
              · subst e
                have hy2 := Hy.out
                rw [hy'] at hy2
                cases hy2
                exact He.out
              · exact HM.out j' y' (by omega) hy'
            case measure => simp [intOf]; omega
        · go_wp2
          go_roundw
          case rel =>
            obtain rfl : j = k := by omega
            refine ⟨j + 1, by omega, by go_num, hBr', fun i j' x' y' hi hj' hx' hy' => ?_⟩
            by_cases e : i = j
            · subst e
              have hx2 := Hx.out
              rw [hx'] at hx2
              cases hx2
              exact HM.out j' y' hj' hy'
            · exact HN.out i j' x' y' (by omega) hj' hx' hy'
          case measure => simp [intOf]; omega
    · obtain rfl : k = l.length := by omega
      have hdist : Hid (∀ (i j : Nat) (x y : Sm), j < i → l[i]? = some x → l[j]? = some y → x.name ≠ y.name) := fun i j x y h1 h2 h3 => HN.out i j x y (List.getElem?_eq_some_iff.1 h2).1 h1 h2 h3
      obtain ⟨_, z0, z1, z2, z3, z4⟩ := hK _ hBr
      clear HN
      have fin2 : ∀ {w5 : World}, Below W.heap.size W w5 → Calls Tryd.prog 13 #[] w5 fun e w6 => e = .returned (.bool true) ∧ Below W.heap.size W w6 := fun h => (wakes_any _ (tru_below HT.out h)).mono fun e w6 ⟨h1, h2⟩ => ⟨h1, bl_step h h2⟩
      have hTa := fun w1 (h : Below W.heap.size W w1) => termText_any l a As A1 l.length cs c1 w1 (HS.out.on h) hn (tru_below HT.out h) ha (H1.out.on h)
      have hTb := fun w1 (h : Below W.heap.size W w1) => termText_any l b As A2 l.length cs c2 w1 (HS.out.on h) hn (tru_below HT.out h) hb (H2.out.on h)
      have hTa := Lib.hid hTa
      have hTb := Lib.hid hTb
      by_cases hc : chkT l a = 0 ∧ chkT l b = 0
      · go_upto_region 13 with (first
          | (go_at_call 9; (with_reducible refine (hTa.out wr hBr).mono ?_); go_must (rintro e w1 ⟨rfl, hb1⟩; have hB1 := bl_step hBr hb1; obtain ⟨_, z5, z6, z7, z8, z9⟩ := hK _ hB1))
          | (go_at_call 9; (with_reducible refine (hTb.out w1 hB1).mono ?_); go_must (rintro e w2 ⟨rfl, hb2⟩; have hB2 := bl_step hB1 hb2))
          | fail)
        obtain ⟨_, z5, _, _, _, _⟩ := hK _ hB2
        have hts : Hid (textS l a = txtT l a ∧ textS l b = txtT l b) := ⟨if_pos hc.1, if_pos hc.2⟩
        have Hc := Lib.hid hc
        clear hc z0 z1 z2 z3 z4 z6 z7 z8 z9
        go_wp2
        go_loopw [63] (fun i wr' => ∃ m : Nat, m ≤ l.length ∧ i = .int .i64 (m : Int) ∧ wr' = w2 ∧ Hid (∀ (j : Nat) (y : Sm), j < m → l[j]? = some y → ∀ c r, y.name.data.toList ≠ 88 :: c :: r)) (fun i _ => l.length - (intOf i).toNat)
        case atStart => exact ⟨0, Nat.zero_le _, rfl, rfl, fun j y h => by omega⟩
        case round =>
          obtain ⟨m, hm, rfl, rfl, HX⟩ := hrel
          by_cases hml : m < l.length
          · obtain ⟨y, hy⟩ : ∃ y, l[m]? = some y := ⟨_, List.getElem?_eq_getElem (by omega)⟩
            obtain ⟨sb, so, rfl, hsb, hsc⟩ := (HS.out.on hB2).ad (by omega)
            have y0 := (hsc _ _ hy).1
            have Hy := Lib.hid hy
            clear hsc hy
            by_cases hsz : ∃ h : 0 < y.name.size, 1 < y.name.size ∧ y.name[0] = 88
            · obtain ⟨hsz0, hsz, h88⟩ := hsz
              have h88' : (((y.name[0]'hsz0).toNat : Int) == 88) = true := by rw [h88]; rfl
              go_wp2_with (first
                | (go_at_call 13; refine (fin2 hB2).mono ?_; rintro e w5 ⟨rfl, hB5⟩)
                | fail)
              go_ret
              exact ⟨rfl, fin hB5⟩
            · have HZ : Hid (∀ c r, y.name.data.toList ≠ 88 :: c :: r) := fun c r e => hsz (name0 e)
              have hrow : ∀ (j : Nat) (y' : Sm), j < m + 1 → l[j]? = some y' → ∀ c r, y'.name.data.toList ≠ 88 :: c :: r := fun j y' hj hy' => by
                by_cases e : j = m
                · subst e
                  have hy2 := Hy.out
                  rw [hy'] at hy2
                  cases hy2
                  exact HZ.out
                · exact HX.out j y' (by omega) hy'
              have hrow := Lib.hid hrow
              by_cases hs1 : 1 < y.name.size
              · have hsz0 : 0 < y.name.size := by omega
                have h88' : (((y.name[0]'hsz0).toNat : Int) == 88) = false := by
                  rw [beq_eq_false_iff_ne]
                  intro h
                  exact hsz ⟨hsz0, hs1, UInt8.toNat_inj.1 (by have : ((88 : UInt8).toNat : Int) = 88 := rfl; omega)⟩
                clear hsz
                go_wp2
                go_roundw
                case rel => exact ⟨m + 1, by omega, by go_num, trivial, hrow⟩
                case measure => simp [intOf]; omega
              · clear hsz
                go_wp2
                go_roundw
                case rel => exact ⟨m + 1, by omega, by go_num, trivial, hrow⟩
                case measure => simp [intOf]; omega
          · obtain rfl : m = l.length := by omega
            have ha0 := hK _ hB2
            obtain ⟨_, z5, z6, z7, z8, z9⟩ := ha0
            have hch := chk_zero Hc.out.1
            have hch2 := chk_zero Hc.out.2
            have htl : Telling l := telling hch.1 hdist.out (fun s hs => by obtain ⟨i, hi⟩ := List.mem_iff_getElem?.1 hs; exact HX.out i s (List.getElem?_eq_some_iff.1 hi).1 hi)
            have hfa : Fine l a := ⟨_, _, hch.2⟩
            have hfb : Fine l b := ⟨_, _, hch2.2⟩
            have hx : ((textS l a).toList == (textS l b).toList) = decide (cmpT a b = 0) := by
              rw [hts.out.1, hts.out.2, Bool.eq_iff_iff, decide_eq_true_iff, cmp_zero_iff, ← txt_tells htl hfa hfb, beq_iff_eq]
              constructor
              · intro e
                rw [ByteArray.toList_eq, ByteArray.toList_eq] at e
                exact ByteArray.ext (Array.toList_inj.1 e)
              · intro e; rw [e]
            have hsm := fun w1 (h : Below W.heap.size W w1) => termSame_any a b A1 A2 c1 c2 w1 ha hb (H1.out.on h) (H2.out.on h)
            have hsm := Lib.hid hsm
            clear hch hch2 htl hfa hfb
            go_wp2_with (first
              | (go_at_call 15; (with_reducible refine (hsm.out wr hB2).mono ?_); go_must (rintro e w5 ⟨rfl, hb5⟩; have hB5 := bl_step hB2 hb5))
              | (go_at_call 13; refine (fin2 hB5).mono ?_; rintro e w6 ⟨rfl, hB6⟩)
              | fail)
            go_ret
            exact ⟨rfl, fin hB6⟩
      · go_upto_region 13 with (first
          | (go_at_call 9; (with_reducible refine (hTa.out wr hBr).mono ?_); go_must (rintro e w1 ⟨rfl, hb1⟩; have hB1 := bl_step hBr hb1; obtain ⟨_, z5, z6, z7, z8, z9⟩ := hK _ hB1))
          | (go_at_call 9; (with_reducible refine (hTb.out w1 hB1).mono ?_); go_must (rintro e w2 ⟨rfl, hb2⟩; have hB2 := bl_step hB1 hb2))
          | fail)
        clear z0 z1 z2 z3 z4 z5 z6 z7 z8 z9
        by_cases hc1 : chkT l a = 0
        · have hc2 : chkT l b = 2 := chk_two (fun h => hc ⟨hc1, h⟩)
          go_wp2_with (first
            | (go_at_call 13; refine (fin2 hB2).mono ?_; rintro e w6 ⟨rfl, hB6⟩)
            | fail)
          go_ret
          exact ⟨rfl, fin hB6⟩
        · have hc2 : chkT l a = 2 := chk_two hc1
          go_wp2_with (first
            | (go_at_call 13; refine (fin2 hB2).mono ?_; rintro e w6 ⟨rfl, hB6⟩)
            | fail)
          go_ret
          exact ⟨rfl, fin hB6⟩
end Go.Proofs.YtkgikjjngbifjaaDoor
