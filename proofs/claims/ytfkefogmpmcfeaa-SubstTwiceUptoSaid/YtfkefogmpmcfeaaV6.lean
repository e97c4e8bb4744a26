/- SubstTwice: substitutions that may be; the law. -/
import Derived.Test.YtfkefogmpmcfeaaVB
namespace Go.Proofs.Ytfkefogmpmcfeaa
open Go.RowKit Go.Shelf
set_option maxRecDepth 100000

section
variable (la lb lc : List Bd) (t : Tm) (A B C At : Option Addr) (ca cb cc ct : Nat) (w : World)

set_option maxHeartbeats 8000000 in
theorem twice_yes (h : TwiceC la lb lc t A B C At w) (h1 : largeB 30 la = false) (h2 : largeB 30 lb = false) (h3 : largeB 30 lc = false) (h4 : ¬ 30 < t.size) (ha : chkB la = true) (hb : chkB lb = true) (hc : chkB lc = true) :
    Calls Try.prog 7 #[.slice A la.length ca, .slice B lb.length cb, .slice C lc.length cc, .agg #[.int .i64 t.fn, .slice At t.args.length ct]] w fun e w' => e = .returned (.bool true) ∧ Below w.heap.size w w' := by
  have q0 := heap_alloc_new w (.cells #[.int .i64 t.fn, .slice At t.args.length ct] 31)
  obtain ⟨W, hW⟩ : ∃ W, w.alloc (.cells #[.int .i64 t.fn, .slice At t.args.length ct] 31) = W := ⟨_, rfl⟩
  have hB : Below w.heap.size w W := by rw [← hW]; exact (Below.refl _ _).alloc (Nat.le_refl _) _
  rw [hW] at q0
  have hWs : w.heap.size < W.heap.size := (Array.getElem?_eq_some_iff.1 q0).1
  have hS : ∀ w', Below W.heap.size W w' → w'.cell? ⟨w.heap.size, 0, none⟩ = some (.int .i64 t.fn) ∧ w'.cell? ⟨w.heap.size, 1, none⟩ = some (.slice At t.args.length ct) := fun w' h => by
    obtain ⟨x0, x1, _, _⟩ := cells_two ((h.block _ hWs).trans q0)
    exact ⟨x0, x1⟩
  have L : ∀ (l : List Bd) (D : Option Addr) (cd : Nat), Binds w (· < w.heap.size) D l → (∀ x ∈ l, x.t.size ≤ 1048576) → ∀ w1, Below W.heap.size W w1 → Calls Try.prog 14 #[.slice D l.length cd, .int .i64 30] w1 fun e w' => e = .returned (.bool (largeB 30 l)) ∧ Below w1.heap.size w1 w' := fun l D cd hD hs w1 hb =>
    large_any 30 l D cd w1 (fun x hx => Nat.le_trans (hs x hx) (by decide)) ((hD.up hB).up hb)
  have L1 := Lib.hid (L la A ca h.a h.sa)
  have L2 := Lib.hid (L lb B cb h.b h.sb)
  have L3 := Lib.hid (L lc C cc h.c h.sc)
  have L4 : ∀ w1, Below W.heap.size W w1 → Calls Try.prog 16 #[.agg #[.int .i64 t.fn, .slice At t.args.length ct], .int .i64 30] w1 fun e w' => e = .returned (.bool (decide ((30 : Int) < (t.size : Int)))) ∧ Below w1.heap.size w1 w' := fun w1 hb => subGreat_any t 30 At ct w1 (Nat.le_trans h.st (by decide)) h.tf ((h.ta.on hB).on hb)
  have L4 := Lib.hid L4
  rw [h1] at L1
  rw [h2] at L2
  rw [h3] at L3
  have hd := Lib.hid (decide_eq_false (show ¬ (30 : Int) < (t.size : Int) by omega))
  obtain ⟨n1, s1⟩ := largeB_small h1
  obtain ⟨n2, s2⟩ := largeB_small h2
  obtain ⟨n3, s3⟩ := largeB_small h3
  have nab := compB_len la lb
  have nbc := compB_len lb lc
  have sab := comp_size (m := 30) (n := 30) (by decide) (by decide) ha hb s1 s2
  have sbc := comp_size (m := 30) (n := 30) (by decide) (by decide) hb hc s2 s3
  have cab := chkB_comp ha hb
  have cbc := chkB_comp hb hc
  have zz : ∀ {l : List Bd} {m : Nat}, m ≤ 1000 → (∀ x ∈ l, x.t.size ≤ m) → ∀ x ∈ l, x.t.size ≤ 4398046511104 := fun hm hs x hx => Nat.le_trans (hs x hx) (Nat.le_trans hm (by decide))
  have upa : ∀ w1, Below W.heap.size W w1 → Binds w1 (· < w1.heap.size) A la := fun w1 hb => (h.a.up hB).up hb
  have upb : ∀ w1, Below W.heap.size W w1 → Binds w1 (· < w1.heap.size) B lb := fun w1 hb => (h.b.up hB).up hb
  have upc : ∀ w1, Below W.heap.size W w1 → Binds w1 (· < w1.heap.size) C lc := fun w1 hb => (h.c.up hB).up hb
  have upt : ∀ w1, Below W.heap.size W w1 → Args w1 w1.heap.size At t.args := fun w1 hb => (h.ta.on hB).on hb
  -- what the two put into the term make of it
  have hapt : plainT t = true → appT (bdT (compB la lb)) t = appT (bdT lb) (appT (bdT la) t) := app_comp ha hb t
  have sat : (appT (bdT la) t).size ≤ 4398046511104 := Nat.le_trans (app_size (m := 30) (by decide) (bdT_size s1) t) (by have := h.st; omega)
  have hass : (∀ x ∈ la, plainT x.t = true) → compB (compB la lb) lc = compB la (compB lb lc) := comp_assoc ha hb hc
  obtain ⟨AB, hAB⟩ : ∃ AB, compB la lb = AB := ⟨_, rfl⟩
  obtain ⟨BC, hBC⟩ : ∃ BC, compB lb lc = BC := ⟨_, rfl⟩
  have CA : ∀ w1, Below W.heap.size W w1 → Calls Try.prog 30 #[.slice A la.length ca, .slice B lb.length cb] w1 (BindsPost AB w1) := fun w1 h' => by
    rw [← hAB]; exact compose_at la lb A ca B cb w1 (by omega) (by omega) (zz (by decide) s1) (zz (by decide) s2) (upa w1 h') (upb w1 h') ha hb
  have CB : ∀ w1, Below W.heap.size W w1 → Calls Try.prog 30 #[.slice B lb.length cb, .slice C lc.length cc] w1 (BindsPost BC w1) := fun w1 h' => by
    rw [← hBC]; exact compose_at lb lc B cb C cc w1 (by omega) (by omega) (zz (by decide) s2) (zz (by decide) s3) (upb w1 h') (upc w1 h') hb hc
  rw [hAB] at nab sab cab hapt hass
  rw [hBC] at nbc sbc cbc hass
  obtain ⟨X, hX⟩ : ∃ X, compB AB lc = X := ⟨_, rfl⟩
  obtain ⟨Y, hY⟩ : ∃ Y, compB la BC = Y := ⟨_, rfl⟩
  have CX : ∀ w1 (D : Option Addr) (cd : Nat), Binds w1 (· < w1.heap.size) D AB → Below W.heap.size W w1 → Calls Try.prog 30 #[.slice D AB.length cd, .slice C lc.length cc] w1 (BindsPost X w1) := fun w1 D cd hD h' => by
    rw [← hX]; exact compose_at AB lc D cd C cc w1 (by omega) (by omega) (zz (by decide) sab) (zz (by decide) s3) hD (upc w1 h') cab hc
  have CY : ∀ w1 (D : Option Addr) (cd : Nat), Binds w1 (· < w1.heap.size) D BC → Below W.heap.size W w1 → Calls Try.prog 30 #[.slice A la.length ca, .slice D BC.length cd] w1 (BindsPost Y w1) := fun w1 D cd hD h' => by
    rw [← hY]; exact compose_at la BC A ca D cd w1 (by omega) (by omega) (zz (by decide) s1) (zz (by decide) sbc) (upa w1 h') hD ha cbc
  have CN : ∀ w1, Below W.heap.size W w1 → Calls Try.prog 30 #[.slice A la.length ca, .slice none 0 0] w1 (BindsPost la w1) := fun w1 h' => by
    have := compose_at la [] A ca none 0 w1 (by omega) (by simp) (zz (by decide) s1) (by simp) (upa w1 h') (Binds.nil_ _ _ _) ha rfl
    rw [comp_nil ha] at this; exact this
  have CO : ∀ w1, Below W.heap.size W w1 → Calls Try.prog 30 #[.slice none 0 0, .slice A la.length ca] w1 (BindsPost la w1) := fun w1 h' => by
    have := compose_at [] la none 0 A ca w1 (by simp) (by omega) (by simp) (zz (by decide) s1) (Binds.nil_ _ _ _) (upa w1 h') rfl ha
    rw [nil_comp ha] at this; exact this
  have CK : ∀ w1 (D : Option Addr) (cd : Nat), Binds w1 (· < w1.heap.size) D AB → Calls Try.prog 19 #[.slice D AB.length cd] w1 fun e w' => e = .returned (.int .i64 0) ∧ Below w1.heap.size w1 w' := fun w1 D cd hD => subCheck_yes AB D cd w1 (by omega) hD cab
  have PT : ∀ w1, Below W.heap.size W w1 → Calls Try.prog 36 #[.agg #[.int .i64 t.fn, .slice At t.args.length ct]] w1 fun e w' => e = .returned (.bool (plainT t)) ∧ Below w1.heap.size w1 w' := fun w1 h' => plain_any t At ct w1 h.tf (upt w1 h')
  have PA : ∀ w1, Below W.heap.size W w1 → Calls Try.prog 37 #[.slice A la.length ca] w1 fun e w' => e = .returned (.bool (la.all fun x => plainT x.t)) ∧ Below w1.heap.size w1 w' := fun w1 h' => plainIn_any la A ca w1 (upa w1 h')
  have PB : ∀ w1, Below W.heap.size W w1 → Calls Try.prog 37 #[.slice B lb.length cb] w1 fun e w' => e = .returned (.bool (lb.all fun x => plainT x.t)) ∧ Below w1.heap.size w1 w' := fun w1 h' => plainIn_any lb B cb w1 (upb w1 h')
  have PC : ∀ w1, Below W.heap.size W w1 → Calls Try.prog 37 #[.slice C lc.length cc] w1 fun e w' => e = .returned (.bool (lc.all fun x => plainT x.t)) ∧ Below w1.heap.size w1 w' := fun w1 h' => plainIn_any lc C cc w1 (upc w1 h')
  have AA : ∀ w1, Below W.heap.size W w1 → Calls Try.prog 27 #[.slice A la.length ca, .agg #[.int .i64 t.fn, .slice At t.args.length ct]] w1 (NewPost (appT (bdT la) t) w1) := fun w1 h' => apply_any la A ca t At ct w1 (Nat.le_trans h.st (by decide)) (by omega) (upa w1 h') (chkB_rise ha) (zz (by decide) s1) h.tf (upt w1 h')
  obtain ⟨u, hu⟩ : ∃ u, appT (bdT la) t = u := ⟨_, rfl⟩
  rw [hu] at AA sat hapt
  have AS : ∀ w1 (D : Option Addr) (cd : Nat), Binds w1 (· < w1.heap.size) D AB → Below W.heap.size W w1 → Calls Try.prog 27 #[.slice D AB.length cd, .agg #[.int .i64 t.fn, .slice At t.args.length ct]] w1 (NewPost (appT (bdT AB) t) w1) := fun w1 D cd hD h' => apply_any AB D cd t At ct w1 (Nat.le_trans h.st (by decide)) (by omega) hD (chkB_rise cab) (zz (by decide) sab) h.tf (upt w1 h')
  have AT : ∀ w1 (D : Option Addr) (cd : Nat), I64 u.fn → Args w1 w1.heap.size D u.args → Below W.heap.size W w1 → Calls Try.prog 27 #[.slice B lb.length cb, .agg #[.int .i64 u.fn, .slice D u.args.length cd]] w1 (NewPost (appT (bdT lb) u) w1) := fun w1 D cd hf hD h' => apply_any lb B cb u D cd w1 sat (by omega) (upb w1 h') (chkB_rise hb) (zz (by decide) s2) hf hD
  have UA := Lib.hid upa
  have CA := Lib.hid CA
  have CB := Lib.hid CB
  have CX := Lib.hid CX
  have CY := Lib.hid CY
  have CN := Lib.hid CN
  have CO := Lib.hid CO
  have CK := Lib.hid CK
  have PT := Lib.hid PT
  have PA := Lib.hid PA
  have PB := Lib.hid PB
  have PC := Lib.hid PC
  have AA := Lib.hid AA
  have AS := Lib.hid AS
  have AT := Lib.hid AT
  have HW := Lib.hid hW
  have HS := Lib.hid hS
  have hapt := Lib.hid hapt
  have hass := Lib.hid (show (la.all fun x => plainT x.t) = true → X = Y from fun hp => by rw [← hX, ← hY]; exact hass (List.all_eq_true.1 hp))
  have hsl := Lib.hid (sameB_refl la)
  have hsx := Lib.hid (sameB_refl X)
  clear hW hS L h q0 h1 h2 h3 h4 ha hb hc s1 s2 s3 sab sbc cab cbc zz upa upb upc upt hAB hBC hX hY hu sat
  obtain ⟨pt, hpt⟩ : ∃ p, plainT t = p := ⟨_, rfl⟩
  obtain ⟨pa, hpa⟩ : ∃ p, (la.all fun x => plainT x.t) = p := ⟨_, rfl⟩
  obtain ⟨pb, hpb⟩ : ∃ p, (lb.all fun x => plainT x.t) = p := ⟨_, rfl⟩
  obtain ⟨pc, hpc⟩ : ∃ p, (lc.all fun x => plainT x.t) = p := ⟨_, rfl⟩
  rw [hpt] at PT hapt
  rw [hpa] at PA hass
  rw [hpb] at PB
  rw [hpc] at PC
  clear hpt hpa hpb hpc
  go_enter Try.func7, Try.ntmps7
  go_upto_region 1 with fail
  rw [HW.out]
  go_upto_region 7 with (first
    | (go_at_call 14; (with_reducible refine (L1.out W (Below.refl _ _)).mono ?_); go_must (rintro e w1 ⟨rfl, hb1⟩))
    | (go_at_call 14; (with_reducible refine (L2.out w1 hb1).mono ?_); go_must (rintro e w2 ⟨rfl, hb2⟩; have hB2 := bl_step hb1 hb2))
    | (go_at_call 14; (with_reducible refine (L3.out w2 hB2).mono ?_); go_must (rintro e w3 ⟨rfl, hb3⟩; have hB3 := bl_step hB2 hb3; obtain ⟨x0, x1⟩ := HS.out w3 hB3))
    | (go_at_call 16; (with_reducible refine (L4.out w3 hB3).mono ?_); go_must (rintro e w4 ⟨rfl, hb4⟩; rw [hd.out]; have hB4 := bl_step hB3 hb4))
    | (go_at_call 30; (with_reducible refine (CA.out w4 hB4).mono ?_); go_must (rintro e w5 ⟨A5, c5, rfl, hD5, hb5⟩; have hD5 := Lib.hid hD5; have hB5 := bl_step hB4 hb5))
    | (go_at_call 30; (with_reducible refine (CB.out w5 hB5).mono ?_); go_must (rintro e w6 ⟨A6, c6, rfl, hD6, hb6⟩; have hD6 := Lib.hid hD6; have hB6 := bl_step hB5 hb6))
    | fail)
  clear x0 x1
  have H56 := Lib.hid (hD5.out.up hb6)
  have HB := hB
  go_cut [76] (fun s76 wx => s76 = .bool false ∧ Below w6.heap.size w6 wx)
  case first =>
    have tb : ∀ x' : Later w6.heap.size w6, Below W.heap.size W x'.w := fun x' => hB6.trans (x'.h.mono hB6.size)
    have PTl := Lib.hid (fun x' : Later w6.heap.size w6 => PT.out x'.w (tb x'))
    have PAl := Lib.hid (fun x' : Later w6.heap.size w6 => PA.out x'.w (tb x'))
    have PBl := Lib.hid (fun x' : Later w6.heap.size w6 => PB.out x'.w (tb x'))
    have t0 : ∀ x' : Later w6.heap.size w6, x'.w.cell? ⟨w.heap.size, 0, none⟩ = some (.int .i64 t.fn) := fun x' => (HS.out _ (tb x')).1
    have t1 : ∀ x' : Later w6.heap.size w6, x'.w.cell? ⟨w.heap.size, 1, none⟩ = some (.slice At t.args.length ct) := fun x' => (HS.out _ (tb x')).2
    clear tb
    rcases pt with _ | _
    · refine wp_region_later w6.heap.size w6 (by kernel_rfl) (by kernel_rfl) (bl_drewN (Below.refl _ _) 1) ?_
      repeat (go_big_quiet_step (first | (go_at_call 36; with_reducible refine calls_later _ (Nat.le_refl _) (PTl.out _)) | (go_at_call 37; with_reducible refine calls_later _ (Nat.le_refl _) (PAl.out _)) | (go_at_call 37; with_reducible refine calls_later _ (Nat.le_refl _) (PBl.out _)) | fail))
      refine wpQuiet_nil ?_
      intro wz hwz
      have hz : Below w6.heap.size w6 wz := by obtain ⟨x', rfl⟩ := hwz; exact x'.h
      clear hwz
      go_wp2
      go_meet
      exact ⟨rfl, hz⟩
    · rcases pa with _ | _
      · refine wp_region_later w6.heap.size w6 (by kernel_rfl) (by kernel_rfl) (bl_drewN (Below.refl _ _) 1) ?_
        repeat (go_big_quiet_step (first | (go_at_call 36; with_reducible refine calls_later _ (Nat.le_refl _) (PTl.out _)) | (go_at_call 37; with_reducible refine calls_later _ (Nat.le_refl _) (PAl.out _)) | (go_at_call 37; with_reducible refine calls_later _ (Nat.le_refl _) (PBl.out _)) | fail))
        refine wpQuiet_nil ?_
        intro wz hwz
        have hz : Below w6.heap.size w6 wz := by obtain ⟨x', rfl⟩ := hwz; exact x'.h
        clear hwz
        go_wp2
        go_meet
        exact ⟨rfl, hz⟩
      · rcases pb with _ | _
        · refine wp_region_later w6.heap.size w6 (by kernel_rfl) (by kernel_rfl) (bl_drewN (Below.refl _ _) 1) ?_
          repeat (go_big_quiet_step (first | (go_at_call 36; with_reducible refine calls_later _ (Nat.le_refl _) (PTl.out _)) | (go_at_call 37; with_reducible refine calls_later _ (Nat.le_refl _) (PAl.out _)) | (go_at_call 37; with_reducible refine calls_later _ (Nat.le_refl _) (PBl.out _)) | fail))
          refine wpQuiet_nil ?_
          intro wz hwz
          have hz : Below w6.heap.size w6 wz := by obtain ⟨x', rfl⟩ := hwz; exact x'.h
          clear hwz
          go_wp2
          go_meet
          exact ⟨rfl, hz⟩
        · have hm := Lib.hid (show decide (cmpT (appT (bdT AB) t) (appT (bdT lb) u) = 0) = true by rw [hapt.out rfl]; exact decide_eq_true (cmp_refl _))
          obtain ⟨x0, x1⟩ := HS.out w6 hB6
          have PT6 := Lib.hid (PT.out w6.drew (bl_drewN hB6 1))
          clear t0 t1 PTl PAl PBl
          go_region_held3 (fun w' => w'.cell? ⟨w.heap.size, 0, none⟩ = some (.int .i64 t.fn) ∧ w'.cell? ⟨w.heap.size, 1, none⟩ = some (.slice At t.args.length ct))
            (first | exact ⟨x0, x1⟩ | exact HS.out _ hW13 | exact HS.out _ hW12 | exact HS.out _ hW11 | exact HS.out _ hW10 | exact HS.out _ hW9 | exact HS.out _ hW8 | exact HS.out _ hW7 | fail)
            (first
              | (go_at_call 36; (with_reducible refine PT6.out.mono ?_); go_must (rintro e w7 ⟨rfl, hb7⟩; have hB7 : Below w6.heap.size w6 w7 := ⟨hb7.os, hb7.tape, hb7.output, hb7.size, hb7.block⟩; have hW7 := bl_step hB6 hB7))
              | (go_at_call 37; (with_reducible refine (PA.out w7 hW7).mono ?_); go_must (rintro e w8 ⟨rfl, hb8⟩; have hB8 := bl_step hB7 hb8; have hW8 := bl_step hW7 hb8))
              | (go_at_call 37; (with_reducible refine (PB.out w8 hW8).mono ?_); go_must (rintro e w9 ⟨rfl, hb9⟩; have hB9 := bl_step hB8 hb9; have hW9 := bl_step hW8 hb9))
              | (go_at_call 27; (with_reducible refine (AS.out w9 A5 c5 (H56.out.up hB9) hW9).mono ?_); go_must (rintro e w10 ⟨A10, c10, rfl, hi10, hO10, hb10⟩; have hO10 := Lib.hid hO10; have hB10 := bl_step hB9 hb10; have hW10 := bl_step hW9 hb10))
              | (go_at_call 27; (with_reducible refine (AA.out w10 hW10).mono ?_); go_must (rintro e w11 ⟨A11, c11, rfl, hi11, hO11, hb11⟩; have hO11 := Lib.hid hO11; have hB11 := bl_step hB10 hb11; have hW11 := bl_step hW10 hb11))
              | (go_at_call 27; (with_reducible refine (AT.out w11 A11 c11 hi11 (hO11.out.args (Nat.le_refl _)) hW11).mono ?_); go_must (rintro e w12 ⟨A12, c12, rfl, hi12, hO12, hb12⟩; have hO12 := Lib.hid hO12; have hB12 := bl_step hB11 hb12; have hW12 := bl_step hW11 hb12))
              | (go_at_call 23; (with_reducible refine (ref2Same_any' (appT (bdT AB) t) (appT (bdT lb) u) A10 A12 c10 c12 w12 hi10 hi12 (((hO10.out.args (Nat.le_refl _)).on hb11).on hb12) (hO12.out.args (Nat.le_refl _))).mono ?_); go_must (rintro e w13 ⟨rfl, hb13⟩; rw [hm.out]; have hB13 := bl_step hB12 hb13; have hW13 := bl_step hW12 hb13))
              | fail)
          go_wp2
          go_meet
          exact ⟨rfl, hB13⟩
  case rest =>
    obtain ⟨rfl, hbc⟩ := hcut
    have hBc := bl_step hB6 hbc
    have hD5c := Lib.hid (H56.out.up hbc)
    have hD6c := Lib.hid (hD6.out.up hbc)
    go_upto_region 15 with (first
      | (go_at_call 30; (with_reducible refine (CX.out wc A5 c5 hD5c.out hBc).mono ?_); go_must (rintro e w7 ⟨A7, c7, rfl, hD7, hb7⟩; have hD7 := Lib.hid hD7; have hB7 := bl_step hBc hb7))
      | (go_at_call 30; (with_reducible refine (CY.out w7 A6 c6 (hD6c.out.up hb7) hB7).mono ?_); go_must (rintro e w8 ⟨A8, c8, rfl, hD8, hb8⟩; have hD8 := Lib.hid hD8; have hB8 := bl_step hB7 hb8))
      | (go_at_call 30; (with_reducible refine (CN.out w8 hB8).mono ?_); go_must (rintro e w9 ⟨A9, c9, rfl, hD9, hb9⟩; have hD9 := Lib.hid hD9; have hB9 := bl_step hB8 hb9))
      | (go_at_call 30; (with_reducible refine (CO.out w9 hB9).mono ?_); go_must (rintro e w10 ⟨A10, c10, rfl, hD10, hb10⟩; have hD10 := Lib.hid hD10; have hB10 := bl_step hB9 hb10))
      | fail)
    rcases pa with _ | _
    · go_wp2_with (first
        | (go_at_call 19; (with_reducible refine (CK.out w10 A5 c5 ((((hD5c.out.up hb7).up hb8).up hb9).up hb10)).mono ?_); go_must (rintro e w11 ⟨rfl, hb11⟩; have hB11 := bl_step hB10 hb11))
        | (go_at_call 21; (with_reducible refine (subSame_any la la A9 A c9 ca w11 ((hD9.out.up hb10).up hb11) (UA.out w11 hB11)).mono ?_); go_must (rintro e w12 ⟨rfl, hb12⟩; rw [hsl.out]; have hB12 := bl_step hB11 hb12))
        | (go_at_call 21; (with_reducible refine (subSame_any la la A10 A c10 ca w12 ((hD10.out.up hb11).up hb12) (UA.out w12 hB12)).mono ?_); go_must (rintro e w13 ⟨rfl, hb13⟩; rw [hsl.out]; have hB13 := bl_step hB12 hb13))
        | (go_at_call 37; (with_reducible refine (PA.out w13 hB13).mono ?_); go_must (rintro e w14 ⟨rfl, hb14⟩; have hB14 := bl_step hB13 hb14))
        | (go_at_call 15; (with_reducible refine (subWakes_any w14).mono ?_); go_must (rintro e w20 ⟨rfl, hb20⟩; have hB20 := bl_step hB14 hb20))
        | fail)
      go_ret
      exact ⟨rfl, hB.trans (hB20.mono hB.size)⟩
    · rcases pb with _ | _
      · go_wp2_with (first
          | (go_at_call 19; (with_reducible refine (CK.out w10 A5 c5 ((((hD5c.out.up hb7).up hb8).up hb9).up hb10)).mono ?_); go_must (rintro e w11 ⟨rfl, hb11⟩; have hB11 := bl_step hB10 hb11))
          | (go_at_call 21; (with_reducible refine (subSame_any la la A9 A c9 ca w11 ((hD9.out.up hb10).up hb11) (UA.out w11 hB11)).mono ?_); go_must (rintro e w12 ⟨rfl, hb12⟩; rw [hsl.out]; have hB12 := bl_step hB11 hb12))
          | (go_at_call 21; (with_reducible refine (subSame_any la la A10 A c10 ca w12 ((hD10.out.up hb11).up hb12) (UA.out w12 hB12)).mono ?_); go_must (rintro e w13 ⟨rfl, hb13⟩; rw [hsl.out]; have hB13 := bl_step hB12 hb13))
          | (go_at_call 37; (with_reducible refine (PA.out w13 hB13).mono ?_); go_must (rintro e w14 ⟨rfl, hb14⟩; have hB14 := bl_step hB13 hb14))
          | (go_at_call 37; (with_reducible refine (PB.out w14 hB14).mono ?_); go_must (rintro e w15 ⟨rfl, hb15⟩; have hB15 := bl_step hB14 hb15))
          | (go_at_call 15; (with_reducible refine (subWakes_any w15).mono ?_); go_must (rintro e w20 ⟨rfl, hb20⟩; have hB20 := bl_step hB15 hb20))
          | fail)
        go_ret
        exact ⟨rfl, hB.trans (hB20.mono hB.size)⟩
      · rcases pc with _ | _
        · go_wp2_with (first
            | (go_at_call 19; (with_reducible refine (CK.out w10 A5 c5 ((((hD5c.out.up hb7).up hb8).up hb9).up hb10)).mono ?_); go_must (rintro e w11 ⟨rfl, hb11⟩; have hB11 := bl_step hB10 hb11))
            | (go_at_call 21; (with_reducible refine (subSame_any la la A9 A c9 ca w11 ((hD9.out.up hb10).up hb11) (UA.out w11 hB11)).mono ?_); go_must (rintro e w12 ⟨rfl, hb12⟩; rw [hsl.out]; have hB12 := bl_step hB11 hb12))
            | (go_at_call 21; (with_reducible refine (subSame_any la la A10 A c10 ca w12 ((hD10.out.up hb11).up hb12) (UA.out w12 hB12)).mono ?_); go_must (rintro e w13 ⟨rfl, hb13⟩; rw [hsl.out]; have hB13 := bl_step hB12 hb13))
            | (go_at_call 37; (with_reducible refine (PA.out w13 hB13).mono ?_); go_must (rintro e w14 ⟨rfl, hb14⟩; have hB14 := bl_step hB13 hb14))
            | (go_at_call 37; (with_reducible refine (PB.out w14 hB14).mono ?_); go_must (rintro e w15 ⟨rfl, hb15⟩; have hB15 := bl_step hB14 hb15))
            | (go_at_call 37; (with_reducible refine (PC.out w15 hB15).mono ?_); go_must (rintro e w16 ⟨rfl, hb16⟩; have hB16 := bl_step hB15 hb16))
            | (go_at_call 15; (with_reducible refine (subWakes_any w16).mono ?_); go_must (rintro e w20 ⟨rfl, hb20⟩; have hB20 := bl_step hB16 hb20))
            | fail)
          go_ret
          exact ⟨rfl, hB.trans (hB20.mono hB.size)⟩
        · obtain rfl := hass.out rfl
          go_wp2_with (first
            | (go_at_call 19; (with_reducible refine (CK.out w10 A5 c5 ((((hD5c.out.up hb7).up hb8).up hb9).up hb10)).mono ?_); go_must (rintro e w11 ⟨rfl, hb11⟩; have hB11 := bl_step hB10 hb11))
            | (go_at_call 21; (with_reducible refine (subSame_any la la A9 A c9 ca w11 ((hD9.out.up hb10).up hb11) (UA.out w11 hB11)).mono ?_); go_must (rintro e w12 ⟨rfl, hb12⟩; rw [hsl.out]; have hB12 := bl_step hB11 hb12))
            | (go_at_call 21; (with_reducible refine (subSame_any la la A10 A c10 ca w12 ((hD10.out.up hb11).up hb12) (UA.out w12 hB12)).mono ?_); go_must (rintro e w13 ⟨rfl, hb13⟩; rw [hsl.out]; have hB13 := bl_step hB12 hb13))
            | (go_at_call 37; (with_reducible refine (PA.out w13 hB13).mono ?_); go_must (rintro e w14 ⟨rfl, hb14⟩; have hB14 := bl_step hB13 hb14))
            | (go_at_call 37; (with_reducible refine (PB.out w14 hB14).mono ?_); go_must (rintro e w15 ⟨rfl, hb15⟩; have hB15 := bl_step hB14 hb15))
            | (go_at_call 37; (with_reducible refine (PC.out w15 hB15).mono ?_); go_must (rintro e w16 ⟨rfl, hb16⟩; have hB16 := bl_step hB15 hb16))
            | (go_at_call 21; (with_reducible refine (subSame_any X X A7 A8 c7 c8 w16 (((((((((hD7.out.up hb8).up hb9).up hb10).up hb11).up hb12).up hb13).up hb14).up hb15).up hb16) ((((((((hD8.out.up hb9).up hb10).up hb11).up hb12).up hb13).up hb14).up hb15).up hb16)).mono ?_); go_must (rintro e w17 ⟨rfl, hb17⟩; rw [hsx.out]; have hB17 := bl_step hB16 hb17))
            | (go_at_call 15; (with_reducible refine (subWakes_any w17).mono ?_); go_must (rintro e w20 ⟨rfl, hb20⟩; have hB20 := bl_step hB17 hb20))
            | fail)
          go_ret
          exact ⟨rfl, hB.trans (hB20.mono hB.size)⟩

theorem SubstTwice_any (h : TwiceC la lb lc t A B C At w) :
    Calls Try.prog 7 #[.slice A la.length ca, .slice B lb.length cb, .slice C lc.length cc, .agg #[.int .i64 t.fn, .slice At t.args.length ct]] w fun e w' => e = .returned (.bool true) ∧ Below w.heap.size w w' := by
  by_cases hg : largeB 30 la = true ∨ largeB 30 lb = true ∨ largeB 30 lc = true ∨ 30 < t.size
  · exact twice_large la lb lc t A B C At ca cb cc ct w h hg
  · have f : ∀ b : Bool, ¬ b = true → b = false := fun b hb => by cases b <;> simp_all
    have h1 := f _ fun e => hg (.inl e)
    have h2 := f _ fun e => hg (.inr (.inl e))
    have h3 := f _ fun e => hg (.inr (.inr (.inl e)))
    have h4 : ¬ 30 < t.size := fun e => hg (.inr (.inr (.inr e)))
    by_cases hc : chkB la = true ∧ chkB lb = true ∧ chkB lc = true
    · exact twice_yes la lb lc t A B C At ca cb cc ct w h h1 h2 h3 h4 hc.1 hc.2.1 hc.2.2
    · exact twice_no la lb lc t A B C At ca cb cc ct w h h1 h2 h3 h4 hc
end
end Go.Proofs.Ytfkefogmpmcfeaa
